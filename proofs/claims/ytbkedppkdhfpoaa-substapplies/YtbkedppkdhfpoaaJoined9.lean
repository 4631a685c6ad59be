/- What variables are bound to, as a map of the program's own. How big a term becomes, by the document. The document's own Put. The document's own putting in. The program's own putting in: by a map. The program's own check of bindings. -/
import Derived.Deep.DeepCutAuto
import Derived.Deep.RegionLaw
import Derived.Test.YtbkedppkdhfpoaaJoined8
namespace Go.Proofs.Ytbkedppkdhfpoaa
open Go.RowKit Go.Maps

theorem Try.underlying92 : Try.prog.underlying 92 = some (.map 3 27) := by kernel_rfl
/-- 'm[k] = v' at the operation. -/
theorem wpList_store_map (w : World) {ops : Array Oper} {rest : List Oper} {o : Oper} {a : Act} {Q : Exit → Act → World → Prop} (hg : o.guard = none) (m x v : Operand) (t : TypeId) (hop : o.op = Op.mapUpdate t m x v)
    (e : TypeId) (ht : Try.prog.underlying t = some (.map 3 e)) (b n : Nat) (f : Int → Option Value) (hm : a.eval m = .map (some b)) (hM : MapAt w b n f) (hn : n < maxLen) (k : Int) (val : Value) (hx : a.eval x = .int .i64 k) (hv : a.eval v = val) (h0 : -9223372036854775808 ≤ k) (h1 : k ≤ 9223372036854775807)
    (hK : ∀ w', MapAt w' b (n + 1) (fun j => if j = k then some val else f j) → w.grownBy w' (some b) → wpList Try.prog ops Q rest (a.put o.dst undef) w') : wpList Try.prog ops Q (o :: rest) a w := by
  refine wpList_plain hg fun K' hK' => ?_
  obtain ⟨w', hrun, r1, r2⟩ := hM.store ht hn h0 h1 val
  unfold Oper.wp
  simp [execOp, hop, hm, hx, hv, hrun, Result.andThen]
  exact hK' _ _ (hK w' r1 r2)

/-- The map's values are the bound terms, which lie in blocks of which q holds. -/
def BMap (q : Nat → Prop) (w : World) (bs : List (Int × T)) (f : Int → Option Value) : Prop :=
  ∀ v : Int, (lookB bs v = none → f v = none) ∧ ∀ u, lookB bs v = some u → ∃ a cap, f v = some (.agg #[.int .i64 u.v, .int .i64 u.f, .slice a u.args.length cap]) ∧ InP q w u.args a
theorem BMap.mono {q : Nat → Prop} {w w' : World} {bs : List (Int × T)} {f : Int → Option Value} (h : BMap q w bs f) (hs : ∀ k, q k → k < w.heap.size → w'.heap[k]? = w.heap[k]?) : BMap q w' bs f := fun v =>
  ⟨(h v).1, fun u hu => by obtain ⟨a, cap, h1, h2⟩ := (h v).2 u hu; exact ⟨a, cap, h1, InP_same hs h2⟩⟩
theorem lookB_snoc (bs : List (Int × T)) (x : Int × T) (v : Int) : lookB (bs ++ [x]) v = match lookB bs v with
    | some u => some u
    | none => if x.1 = v then some x.2 else none := by
  induction bs with
  | nil => obtain ⟨a, b⟩ := x; rfl
  | cons y bs ih =>
    obtain ⟨a, b⟩ := y
    rw [List.cons_append, lookB, lookB]
    by_cases h : a = v
    · rw [if_pos h, if_pos h]
    · rw [if_neg h, if_neg h, ih]
theorem lookB_none {bs : List (Int × T)} {v : Int} (h : ∀ x, x ∈ bs → x.1 ≠ v) : lookB bs v = none := by
  cases e : lookB bs v with
  | none => rfl
  | some u => exact absurd rfl (h (v, u) (lookB_mem e))
/-- No variable is bound twice. -/
def Once (bs : List (Int × T)) : Prop := ∀ (i j : Nat) (x y : Int × T), bs[i]? = some x → bs[j]? = some y → x.1 = y.1 → i = j
theorem lookB_take {bs : List (Int × T)} (ho : Once bs) {k : Nat} {x : Int × T} (hx : bs[k]? = some x) (v : Int) : lookB (bs.take (k + 1)) v = if v = x.1 then some x.2 else lookB (bs.take k) v := by
  have h0 : lookB (bs.take k) x.1 = none := lookB_none (fun y hy e => by
    obtain ⟨i, hi, e2⟩ := List.getElem_of_mem hy
    have hik : i < k := by rw [List.length_take] at hi; omega
    have h2 : bs[i]? = some y := by rw [← e2, List.getElem_take, List.getElem?_eq_getElem]
    have := ho i k y x h2 hx e
    omega)
  rw [List.take_add_one, hx]
  show lookB (bs.take k ++ [x]) v = _
  rw [lookB_snoc]
  by_cases e : v = x.1
  · subst e; rw [h0, if_pos rfl]
  · rw [if_neg e, if_neg (fun h => e h.symm)]
    cases lookB (bs.take k) v <;> rfl

set_option maxRecDepth 100000 in
set_option maxHeartbeats 1000000 in
theorem boundBy_any (bs : List (Int × T)) (ba : Option Addr) (bc : Nat) (w : World) (q : Nat → Prop) (hq : ∀ k, q k → k < w.heap.size) (hl : bs.length ≤ 1000) (ho : Once bs) (hr : ∀ x, x ∈ bs → 1 ≤ x.1 ∧ x.1 ≤ 1000) (hin : Binds q w bs ba) :
    Calls Try.prog 68 #[.slice ba bs.length bc] w fun e w' => ∃ b f, e = .returned (.map (some b)) ∧ w.heap.size ≤ b ∧ MapAt w' b bs.length f ∧ BMap q w' bs f ∧ Below w.heap.size w w' := by
  have hmm := @run_makeMap Try.prog
  have Hq := hide hq
  have Hr := hide hr
  have Hin := hide hin
  have Ho := hide ho
  clear hq hr hin ho
  go_enter Try.func68, Try.ntmps68
  go_wp2_with fail
  go_loopw [9] (fun i wr => ∃ (k : Nat) (f : Int → Option Value), k ≤ bs.length ∧ i = .int .i64 k ∧ MapAt wr w.heap.size k f ∧ BMap q wr (bs.take k) f ∧ Below w.heap.size w wr) (fun i _ => bs.length - (intOf i).toNat)
  case atStart => exact ⟨0, fun _ => none, Nat.zero_le _, rfl, MapAt.made w, fun v => ⟨fun _ => rfl, fun u hu => by cases hu⟩, below1 _ _⟩
  case round =>
    obtain ⟨k, f, hk, rfl, hM, hB, hb⟩ := hrel
    have hMl := hM.lt
    have HM := hide hM
    have HB := hide hB
    have Hb := hide hb
    clear hM hB hb hmm
    by_cases hlt : k < bs.length
    · obtain ⟨b, off, rfl⟩ := Binds_some Hin.out (by omega)
      obtain ⟨x, hx⟩ : ∃ x, bs[k]? = some x := ⟨bs[k], List.getElem?_eq_getElem hlt⟩
      obtain ⟨a1, cap1, hqb, c0, c1, c2, c3, hin1⟩ := Binds_at (Binds_below Hb.out Hin.out) hx
      have hxr := Hr.out x (List.mem_of_getElem? hx)
      have hqb' := Hq.out b hqb
      have hkI : (k : Int) < bs.length := by omega
      have hk0 : (0 : Int) ≤ k := by omega
      have Hx := hide hx
      have Hin1 := hide hin1
      have hbb := lt_of_cell c0
      clear hx hin1
      go_wp2_with (at_mapUpdate; refine wpList_store_map _ rfl _ _ _ 92 rfl 27 Try.underlying92 w.heap.size k f rfl (HM.out.below (below1 _ _)) (by unfold maxLen; omega) x.1 (.agg #[.int .i64 x.2.v, .int .i64 x.2.f, .slice a1 x.2.args.length cap1]) (by first | rfl | simp [go_sem]) (by first | rfl | simp [go_sem]) (by omega) (by omega) ?_; intro w2 hM2 hg2)
      have hkeep : ∀ j, q j → j < wr.heap.size → w2.heap[j]? = wr.heap[j]? := fun j hj hjl => by
        have := Hq.out j hj
        rw [hg2.block j (by rw [World.size_alloc]; omega) (fun e => by cases e; omega), Below.heap_alloc _ _ _ hjl]
      have hb2 : Below w.heap.size w w2 := (Hb.out.alloc (by omega) _).grown hg2 (by rw [World.size_alloc]; omega) (fun j hj => by cases hj; exact Nat.le_refl _)
      have hB2 : BMap q w2 (bs.take (k + 1)) (fun j => if j = x.1 then some (.agg #[.int .i64 x.2.v, .int .i64 x.2.f, .slice a1 x.2.args.length cap1]) else f j) := fun v => by
        rw [lookB_take Ho.out Hx.out]
        by_cases e : v = x.1
        · simp only [if_pos e]
          refine ⟨fun h => (by cases h), fun u hu => ?_⟩
          obtain rfl : x.2 = u := by simpa using hu
          exact ⟨a1, cap1, rfl, InP_same hkeep Hin1.out⟩
        · simp only [if_neg e]
          exact (HB.out.mono hkeep) v
      go_roundw
      case rel => exact ⟨k + 1, _, by omega, by go_num, hM2, hB2, hb2⟩
      case measure => simp [intOf]; omega
    · have hk2 : k = bs.length := by omega
      subst hk2
      rw [List.take_length] at HB
      go_wp2_with fail
      go_ret
      exact ⟨w.heap.size, f, rfl, Nat.le_refl _, HM.out, HB.out, Hb.out⟩

end Go.Proofs.Ytbkedppkdhfpoaa

namespace Go.Proofs.Ytbkedppkdhfpoaa
open Go.RowKit

/-- What a part adds to the size. -/
def addS (bs : List (Int × T)) (x : T) : Nat := match putIn bs x.v with
  | some u => min u.sz 121
  | none => 1
def sumS (bs : List (Int × T)) : List T → Nat
  | [] => 0
  | x :: l => addS bs x + sumS bs l
theorem sumS_append (bs : List (Int × T)) (a b : List T) : sumS bs (a ++ b) = sumS bs a + sumS bs b := by
  induction a with
  | nil => simp [sumS]
  | cons x a ih => rw [List.cons_append, sumS, sumS, ih]; omega
theorem sumS_step {bs : List (Int × T)} {l : List T} {k : Nat} {x : T} (hx : l[k]? = some x) : sumS bs (l.take (k + 1)) = sumS bs (l.take k) + addS bs x := by
  rw [List.take_add_one, hx, sumS_append]; simp [sumS]
theorem addS_le (bs : List (Int × T)) (x : T) : addS bs x ≤ 121 := by
  rw [addS]; split
  · omega
  · omega
theorem sumS_le (bs : List (Int × T)) (l : List T) : sumS bs l ≤ 121 * l.length := by
  induction l with
  | nil => simp [sumS]
  | cons x l ih => rw [sumS, List.length_cons]; have := addS_le bs x; omega
/-- That is the size of what is made, where all is right. -/
theorem sumS_apply {ar : List Int} {bs : List (Int × T)} (hb : ∀ v u, (v, u) ∈ bs → u.sz ≤ 120) : ∀ (n : Nat), (∀ t : T, t.sz ≤ n → okP ar t → sumS bs (parts t) = (applyT bs t).sz) ∧ (∀ ts : List T, T.sz.szL ts ≤ n → okP.okL ar ts → sumS bs (parts.partsL ts) = T.sz.szL (ts.map (applyT bs))) := by
  intro n
  induction n with
  | zero =>
    refine ⟨fun t h => by have := t.sz_pos; omega, fun ts h _ => ?_⟩
    cases ts with
    | nil => rfl
    | cons t ts => have := t.sz_pos; rw [T.szL_cons] at h; omega
  | succ n ih =>
    have h1 : ∀ t : T, t.sz ≤ n + 1 → okP ar t → sumS bs (parts t) = (applyT bs t).sz := fun t h hk => by
      have hte := T.sz_eq t
      rw [parts_eq, sumS_append, sumS, sumS]
      cases hp : putIn bs t.v with
      | some u =>
        have hm := putIn_mem hp
        have hu := hb _ _ hm.1
        have hv := ok_var hk (by have := hm.2; omega)
        rw [applyT_some hp, hv.2, addS, hp]
        show 0 + (min u.sz 121 + 0) = u.sz
        omega
      | none =>
        rw [applyT_none hp, T.sz_eq, ih.2 t.args (by omega) (okP_iff.1 hk).2, addS, hp]
        show T.sz.szL (t.args.map (applyT bs)) + (1 + 0) = 1 + T.sz.szL (t.args.map (applyT bs))
        omega
    refine ⟨h1, fun ts => ?_⟩
    induction ts with
    | nil => intro _ _; rfl
    | cons t ts iht =>
      intro h hk
      rw [T.szL_cons] at h
      rw [partsL_cons, sumS_append, List.map_cons, T.szL_cons, h1 t (by omega) (okL_cons.1 hk).1, iht (by omega) (okL_cons.1 hk).2]

set_option maxRecDepth 100000 in
set_option maxHeartbeats 1000000 in
theorem appliedSize_any (bs : List (Int × T)) (ba : Option Addr) (bc : Nat) (t : T) (a : Option Addr) (cap : Nat) (w : World) (p : Nat → Prop) (hl : bs.length ≤ 9223372036854775807) (hbs : Binds p w bs ba) (ht : t.sz ≤ 120) (hin : InL w t.args a) :
    Calls Try.prog 32 #[.slice ba bs.length bc, .agg #[.int .i64 t.v, .int .i64 t.f, .slice a t.args.length cap]] w fun e w' => e = .returned (.int .i64 (sumS bs (parts t) : Nat)) ∧ Below w.heap.size w w' := by
  go_enter Try.func32, Try.ntmps32
  go_wp2_with fail
  refine (partsK_one t a cap _ (by omega) (InP_alloc _ hin)).mono ?_
  rintro e w1 ⟨g, cap1, rfl, _, hg2, hcells, hb1⟩
  have hz1 : w.heap.size < w1.heap.size := by have := hb1.size; simp at this; omega
  have hbw : Below w.heap.size w w1 := (below1 _ _).trans (hb1.mono (by simp))
  have Hcells := hide hcells
  have Hplen := hide ((parts_length _).1 t (Nat.le_refl _))
  have Hbs1 := hide (Binds_below hbw hbs)
  clear hcells hb1
  go_wp2_with fail
  go_loopw [5, 7] (fun nv j wr => ∃ k : Nat, k ≤ t.sz ∧ j = .int .i64 k ∧ nv = .int .i64 (sumS bs ((parts t).take k) : Nat) ∧ Below w1.heap.size w1 wr) (fun _ j _ => t.sz - (intOf j).toNat)
  case atStart => exact ⟨0, Nat.zero_le _, rfl, rfl, Below.refl _ _⟩
  case round =>
    obtain ⟨k, hk, rfl, rfl, hb⟩ := hrel
    have hzr := hb.size
    have hbR : Below w.heap.size w wr := hbw.trans (hb.mono (by omega))
    by_cases hlt : k < t.sz
    · obtain ⟨x, hx⟩ : ∃ x, (parts t)[k]? = some x := ⟨(parts t)[k]'(by rw [Hplen.out]; exact hlt), List.getElem?_eq_getElem _⟩
      obtain ⟨a5, cap5, c0', c1', c2', _⟩ := Hcells.out k x hx
      have c0 : wr.cell? ⟨g, k * 3, none⟩ = some (.int .i64 x.v) := cell_below hb c0'
      have Hst := hide (sumS_step (bs := bs) hx)
      have hle := sumS_le bs ((parts t).take k)
      have hle2 : ((parts t).take k).length ≤ k := by rw [List.length_take]; omega
      have hkI : (k : Int) < t.sz := by omega
      have hk0 : (0 : Int) ≤ k := by omega
      have hbsR := Binds_below hb Hbs1.out
      have HB := hide (boundTo_any bs ba bc x.v wr p hl hbsR)
      obtain ⟨S, hS⟩ : ∃ S, S = sumS bs ((parts t).take k) := ⟨_, rfl⟩
      rw [← hS] at Hst hle ⊢
      have hS0 : S ≤ 14520 := by omega
      clear hx c0' c1' c2' hS hle hle2
      by_cases hv : 0 < x.v
      · cases hlk : lookB bs x.v with
        | none =>
          have Hadd : Hid (addS bs x = 1) := by show _ = _; rw [addS, putIn, if_pos hv, hlk]
          rw [idxB_none hlk] at HB
          clear hlk
          go_wp2_with (go_at_call 70; refine HB.out.mono ?_; rintro e w' ⟨rfl, hw'⟩; obtain rfl := hw'.symm; clear hw')
          go_roundw
          case rel => exact ⟨k + 1, by omega, by go_num, by rw [Hst.out, Hadd.out]; go_num, hb⟩
          case measure => simp [intOf]; omega
        | some u =>
          obtain ⟨m, hm1, hm2, hm3⟩ := idxB_some (n := 0) hlk
          rw [Nat.zero_add] at hm1
          have Hadd : Hid (addS bs x = min u.sz 121) := by show _ = _; rw [addS, putIn, if_pos hv, hlk]
          rw [hm1] at HB
          obtain ⟨b, off, rfl⟩ := Binds_some hbsR (by omega)
          obtain ⟨a6, cap6, _, d0, d1, d2, d3, hin6⟩ := Binds_at hbsR hm3
          have hmI : (m : Int) < bs.length := by omega
          have hm0 : (0 : Int) ≤ m := by omega
          have HSz := hide (sizeOf_any (u.sz + 1) u 120 a6 cap6 wr (by omega) (by omega) (by omega) (InP_imp (q := fun _ => True) (fun _ _ => trivial) hin6))
          have e1 : off + m * 4 + 1 + 1 = off + m * 4 + 2 := by omega
          have e2 : off + m * 4 + 1 + 2 = off + m * 4 + 3 := by omega
          rw [← e1] at d2
          rw [← e2] at d3
          obtain ⟨z, hz⟩ : ∃ z : Nat, z = min u.sz 121 := ⟨_, rfl⟩
          rw [← hz] at Hadd
          have hz' : min (u.sz : Int) (120 + 1) = (z : Int) := by omega
          rw [hz'] at HSz
          have hz0 : z ≤ 121 := by omega
          clear hlk hm3 hin6 hz hz' hm1 e1 e2
          go_wp2_with (first | (go_at_call 70; refine HB.out.mono ?_; rintro e w' ⟨rfl, hw'⟩; obtain rfl := hw'.symm; clear hw') | (go_at_call 15; refine HSz.out.mono ?_; rintro e w2 ⟨rfl, hb2⟩))
          go_roundw
          case rel => exact ⟨k + 1, by omega, by go_num, by rw [Hst.out, Hadd.out]; go_num, hb.trans (hb2.mono hzr)⟩
          case measure => simp [intOf]; omega
      · have Hadd : Hid (addS bs x = 1) := by show _ = _; rw [addS, putIn, if_neg hv]
        clear HB
        go_wp2_with fail
        go_roundw
        case rel => exact ⟨k + 1, by omega, by go_num, by rw [Hst.out, Hadd.out]; go_num, hb⟩
        case measure => simp [intOf]; omega
    · have hk2 : k = t.sz := by omega
      subst hk2
      have e9 : (parts t).take t.sz = parts t := List.take_of_length_le (by rw [Hplen.out]; exact Nat.le_refl _)
      rw [e9]
      go_wp2_with fail
      go_ret
      exact ⟨rfl, hbR⟩

end Go.Proofs.Ytbkedppkdhfpoaa

namespace Go.Proofs.Ytbkedppkdhfpoaa
open Go.RowKit

theorem below3 (w : World) (o1 o2 o3 : Obj) : Below w.heap.size w (((w.alloc o1).alloc o2).alloc o3) := (below2 w o1 o2).alloc (by simp; omega) o3

theorem Three.set2 {w : World} {b : Nat} {v0 v1 v2 : Value} (h : Three w b v0 v1 v2) (u : Value) : Three (w.setCell ⟨b, 2, none⟩ u) b v0 v1 u := by
  obtain ⟨c0, c1, c2, f0, f1, f2⟩ := h
  refine ⟨?_, ?_, World.cell?_setCell_same _ _ _ c2, ?_, ?_, ?_⟩
  · rw [World.cell?_setCell_other _ _ _ _ (by simp)]; exact c0
  · rw [World.cell?_setCell_other _ _ _ _ (by simp)]; exact c1
  · rw [World.frozen?_setCell]; exact f0
  · rw [World.frozen?_setCell]; exact f1
  · rw [World.frozen?_setCell]; exact f2
/-- Behind the append: what stands, and what the list now holds. -/
theorem app_facts {q : Nat → Prop} {B : Nat} {W3 w w6 : World} {l v0 v1 : Value} {ts : List T} {c : T} {xs : List Value} {a : Option Addr} {cap g cap2 : Nat} (hb : Below B W3 w) (h3 : Three w B v0 v1 l)
    (hown : w.ownsRow (B + 1) 27 3 l ts.length xs) (hk : Kids (fun k => (q k ∨ B + 1 ≤ k) ∧ l.ownBlock ≠ some k) w ts xs) (hq : ∀ k, q k → k < B) (hc : InP (fun k => (q k ∨ B + 1 ≤ k) ∧ l.ownBlock ≠ some k) w c.args a)
    (h6 : w6.ownsRow (B + 1) 27 3 (.slice (some ⟨g, 0, none⟩) (ts.length + 1) cap2) (ts.length + 1) (xs ++ [.int .i64 c.v, .int .i64 c.f, .slice a c.args.length cap])) (hg : w.grownBy w6 l.ownBlock) (hat : l.ownBlock = some g ∨ g = w.heap.size) :
    Three w6 B v0 v1 l ∧ (∀ u, Below B W3 (w6.setCell ⟨B, 2, none⟩ u)) ∧ (∀ u, Three (w6.setCell ⟨B, 2, none⟩ u) B v0 v1 u) ∧ ∀ u, Outs q (B + 1) (w6.setCell ⟨B, 2, none⟩ u) (.slice (some ⟨g, 0, none⟩) (ts.length + 1) cap2) (ts ++ [c]) := by
  have hz := h3.lt
  have hT : Three w6 B v0 v1 l := h3.same (hg.block B hz (fun e => by have := (own_lt hown B e.symm).1; omega))
  have hB : Below B W3 w6 := hb.grown hg (by omega) (fun k hk' => by have := (own_lt hown k hk').1; omega)
  exact ⟨hT, fun u => hB.setCell (p := ⟨B, 2, none⟩) (Nat.le_refl _) u, fun u => hT.set2 u, fun u => Outs_same (Outs_step hk hc h6 hg hat) (fun k hk' _ => Below.heap_setCell _ _ _ _ (by
    show k ≠ B
    rcases hk' with h | h
    · have := hq k h; omega
    · omega))⟩

attribute [local go_sem ↓] Go.wp_at_zero Go.wp_at_succ
set_option maxRecDepth 100000 in
set_option maxHeartbeats 2000000 in
theorem putOf_any (q : Nat → Prop) (u : T) (a2 : Option Addr) (cap2 : Nat) (place : List Int) : ∀ (t : T) (a : Option Addr) (cap : Nat) (pa : Option Addr) (pcap : Nat) (w : World), (∀ k, q k → k < w.heap.size) → Ints w place pa → place.length ≤ pcap → t.sz ≤ 1000 → InP q w t.args a → InP q w u.args a2 →
    Calls Try.prog 26 #[.agg #[.int .i64 t.v, .int .i64 t.f, .slice a t.args.length cap], .slice pa place.length pcap, .agg #[.int .i64 u.v, .int .i64 u.f, .slice a2 u.args.length cap2]] w fun e w' =>
      ∃ a' cap', e = .returned (.agg #[.int .i64 (putR u t place).v, .int .i64 (putR u t place).f, .slice a' (putR u t place).args.length cap']) ∧ InP (fun k => q k ∨ w.heap.size ≤ k) w' (putR u t place).args a' ∧ Below w.heap.size w w' := by
  induction place with
  | nil =>
    intro t a cap pa pcap w hq hp hpc ht hin hin2
    go_enter Try.func26, Try.ntmps26
    go_wp2_with fail
    exact bodyPost_ret (v := .agg #[.int .i64 u.v, .int .i64 u.f, .slice a2 u.args.length cap2]) (by simp [results, Try.results26, go_sem]) rfl
      ⟨a2, cap2, rfl, InP_imp (fun k h => Or.inl h) (InP_below (w := w) (below3 _ _ _ _) hin2), below3 _ _ _ _⟩
  | cons i p ih =>
    intro t a cap pa pcap w hq hp hpc ht hin hin2
    have Hih := hide ih
    have Hq := hide hq
    clear ih hq
    obtain ⟨b, off, rfl, hc⟩ := Ints_some hp (by simp)
    have hci : w.cell? ⟨b, off, none⟩ = some (.int .i64 i) := by have := hc 0 (by simp); simpa using this
    have hbi := lt_of_cell hci
    have hne : ((p.length : Int) + 1 == 0) = false := by rw [beq_eq_false_iff_ne]; omega
    have hlen : (0 : Int) < ((i :: p).length : Int) := by rw [List.length_cons]; omega
    have hp1 : (1 : Int) ≤ ((i :: p).length : Int) := by rw [List.length_cons]; omega
    have htl : t.args.length ≤ 1000 := by have := T.length_le t.args; have := T.sz_eq t; omega
    have Hp := hide hp
    have Hin := hide hin
    have Hin2 := hide hin2
    have hl1 : (i :: p).length = p.length + 1 := by simp
    clear hc hp hin hin2
    rw [hl1] at hpc hlen hp1 ⊢
    obtain ⟨L, hL⟩ : ∃ L, L = (putR u t (i :: p)).args := ⟨_, rfl⟩
    have hLl : L.length = t.args.length := by rw [hL, putR]; simp
    have hLk : ∀ (k : Nat) (x : T), t.args[k]? = some x → L[k]? = some (if (k : Int) = i then putR u x p else x) := fun k x hx => by
      rw [hL, putR]; simp [hx]
    have hgoal : putR u t (i :: p) = ⟨0, t.f, L⟩ := by rw [hL]; rfl
    have HLk := hide hLk
    rw [hgoal]
    show Calls _ _ _ _ fun e w' => ∃ a' cap', e = .returned (.agg #[.int .i64 0, .int .i64 t.f, .slice a' L.length cap']) ∧ InP (fun k => q k ∨ w.heap.size ≤ k) w' L a' ∧ Below w.heap.size w w'
    clear hL hgoal hLk
    obtain ⟨W3, hW3⟩ : ∃ W3, W3 = (((w.alloc (.cells #[.int .i64 t.v, .int .i64 t.f, .slice a t.args.length cap] 27)).alloc (.cells #[.int .i64 u.v, .int .i64 u.f, .slice a2 u.args.length cap2] 27)).alloc (.cells #[.int .i64 0, .int .i64 0, .slice none 0 0] 27)) := ⟨_, rfl⟩
    have hT3 : Hid (Three W3 w.heap.size (.int .i64 t.v) (.int .i64 t.f) (.slice a t.args.length cap)) := by rw [hW3]; exact ((Three.new 27 rfl).alloc _).alloc _
    have hU3 : Hid (Three W3 (w.heap.size + 1) (.int .i64 u.v) (.int .i64 u.f) (.slice a2 u.args.length cap2)) := by rw [hW3]; exact (Three.new 27 (by simp)).alloc _
    have hWb : Hid (Below w.heap.size w W3) := by rw [hW3]; exact below3 _ _ _ _
    have HW3 := hide hW3
    clear hW3
    obtain ⟨ti, hi, hzz⟩ := Option.map_eq_some_iff.1 Try.info27
    simp only [Prod.mk.injEq] at hzz
    obtain ⟨hz0, hz1, hz2⟩ := hzz
    go_enter Try.func26, Try.ntmps26
    go_wp2_with fail
    go_loopw [8] (fun j wr => ∃ (k : Nat) (l : Value), k ≤ t.args.length ∧ j = .int .i64 k ∧ Below (w.heap.size + 1 + 1 + 1) W3 wr ∧
        Three wr (w.heap.size + 1 + 1 + 1) (.int .i64 0) (.int .i64 t.f) l ∧ Outs q (w.heap.size + 1 + 1 + 1 + 1) wr l (L.take k)) (fun j _ => t.args.length - (intOf j).toNat)
    case atStart =>
      refine ⟨0, .slice none 0 0, Nat.zero_le _, rfl, ?_, ?_, by rw [List.take_zero]; exact Outs_nil⟩
      · rw [HW3.out]
        exact (Below.refl _ _).alloc (by simp) _
      · exact Three.new 27 (by simp)
    case round =>
      obtain ⟨k, l, hk, rfl, hbr, h3o, hout⟩ := hrel
      have hzr := h3o.lt
      have HT := hide (hT3.out.same (hbr.block _ (by omega)))
      have HU := hide (hU3.out.same (hbr.block _ (by omega)))
      obtain ⟨c0, c1, c2, _, _, _⟩ := HT.out
      have H3o := hide h3o
      have Hbr := hide hbr
      have Hout := hide hout
      have hpr : wr.cell? ⟨b, off, none⟩ = some (.int .i64 i) := by rw [hbr.cell (p := ⟨b, off, none⟩) (show b < _ by omega), hWb.out.cell (p := ⟨b, off, none⟩) hbi]; exact hci
      clear hout hbr
      by_cases hlt : k < t.args.length
      · obtain ⟨b1, off1, rfl⟩ := InP_some Hin.out (by omega)
        obtain ⟨x, hx⟩ : ∃ x, t.args[k]? = some x := ⟨t.args[k], List.getElem?_eq_getElem hlt⟩
        obtain ⟨a3, cap3, _, k0, k1, k2, hinx⟩ := InP_at Hin.out hx
        have hb1 := lt_of_cell k0
        have hxsz : x.sz ≤ 1000 := by have := T.szL_mem (List.mem_of_getElem? hx); have := T.sz_eq t; omega
        have Hx3 := hide hinx
        have HLx := hide (HLk.out k x hx)
        have hkl : L.length = t.args.length := hLl
        have Htk : Hid ((L.take k).length = k) := by show (L.take k).length = k; simp; omega
        have hS := hide (fun (w' : World) (hbb : Below (w.heap.size + 1 + 1 + 1) W3 w') => (show w'.cell? ⟨w.heap.size, 2, none⟩ = some (.slice (some ⟨b1, off1, none⟩) t.args.length cap) ∧ w'.cell? ⟨b1, off1 + k * 3, none⟩ = some (.int .i64 x.v) ∧ w'.cell? ⟨b1, off1 + k * 3 + 1, none⟩ = some (.int .i64 x.f) ∧ w'.cell? ⟨b1, off1 + k * 3 + 2, none⟩ = some (.slice a3 x.args.length cap3) ∧ w'.cell? ⟨w.heap.size + 1, 0, none⟩ = some (.int .i64 u.v) ∧ w'.cell? ⟨w.heap.size + 1, 1, none⟩ = some (.int .i64 u.f) ∧ w'.cell? ⟨w.heap.size + 1, 2, none⟩ = some (.slice a2 u.args.length cap2) from
          ⟨(hT3.out.same (hbb.block _ (by omega))).c2,
           by rw [hbb.cell (p := ⟨b1, off1 + k * 3, none⟩) (show b1 < _ by omega), hWb.out.cell (p := ⟨b1, off1 + k * 3, none⟩) hb1]; exact k0,
           by rw [hbb.cell (p := ⟨b1, off1 + k * 3 + 1, none⟩) (show b1 < _ by omega), hWb.out.cell (p := ⟨b1, off1 + k * 3 + 1, none⟩) hb1]; exact k1,
           by rw [hbb.cell (p := ⟨b1, off1 + k * 3 + 2, none⟩) (show b1 < _ by omega), hWb.out.cell (p := ⟨b1, off1 + k * 3 + 2, none⟩) hb1]; exact k2,
           (hU3.out.same (hbb.block _ (by omega))).c0, (hU3.out.same (hbb.block _ (by omega))).c1, (hU3.out.same (hbb.block _ (by omega))).c2⟩))
        obtain ⟨q0, q1, q2, r0, r1, r2⟩ := H3o.out
        have hltI : (k : Int) < t.args.length := by omega
        have hk0 : (0 : Int) ≤ k := by omega
        by_cases hki : (k : Int) = i
        · subst hki
          obtain ⟨pa', hsl, hpt⟩ := tail_any Hp.out hpc
          have Hpt := hide hpt
          have HT1 := hide (show L.take (k + 1) = L.take k ++ [putR u x p] by rw [List.take_add_one, HLx.out, if_pos rfl]; rfl)
          obtain ⟨xs0, hown0, _⟩ := Hout.out
          have Hou0 := hide hown0
          obtain ⟨_, kk0, kk1, kk2, e0, e1, e2⟩ := hS.out wr Hbr.out
          clear hpt k0 k1 k2 hinx hx hci q0 q1 r0 r1 hown0 hS
          go_wp2_with fail
          go_region_law ((first
            | (refine step_append_lies _ rfl (.tmp 29) (.tmp 39) 25 rfl (w.heap.size + 1 + 1 + 1 + 1) 27 ti (.agg #[.int .i64 0, .int .i64 0, .slice none 0 0]) 3 40 Try.underlying25 hi hz0 hz1 hz2 rfl (by decide) l (L.take k).length xs rfl (HO.out _) ⟨w5.heap.size, 0, none⟩ 1 1 [.int .i64 (putR u x p).v, .int .i64 (putR u x p).f, .slice a5 (putR u x p).args.length cap5] rfl rfl (three_new (by first | rfl | simp)) (by simp [Value.oneCell']) (by decide) (by have := Htk.out; unfold maxLen; omega) (by have := Htk.out; omega) (by simp; omega) _ rfl ?_
               intro g capg w6 hown6 hgr6 hat6 hlt6
               have HF := hide (app_facts (c := putR u x p) (Hb.out.alloc (show w.heap.size + 1 + 1 + 1 ≤ w5.heap.size by omega) _) (H3.out.alloc _) (HO.out _) (Kids_mono (fun k' hk' hlt' => ⟨hk', (below1 _ _).block k' hlt'⟩) hkids) (fun k' hk' => by have := Hq.out k' hk'; omega) (InP_alloc _ HC.out) hown6 hgr6 hat6)
               obtain ⟨_, _, y2, _, _, y5⟩ := HF.out.1
               have hz6 := hgr6.size
               clear hown6 hgr6 hat6)
            | (go_simp
               go_at_call 26
               refine (Hih.out x a3 cap3 _ _ _ ?_ ?_ ?_ ?_ ?_ ?_).mono ?_
               · exact fun k' hk' => Nat.lt_trans (Hq.out k' hk') (show w.heap.size < wr.heap.size by omega)
               · exact Ints_below (w := w) ((hWb.out.trans (Hbr.out.mono (by omega))).drew) Hpt.out
               · omega
               · exact hxsz
               · exact InP_below (w := w) ((hWb.out.trans (Hbr.out.mono (by omega))).drew) Hx3.out
               · exact InP_below (w := w) ((hWb.out.trans (Hbr.out.mono (by omega))).drew) Hin2.out
               rintro e w5 ⟨a5, cap5, rfl, hin5, hb5⟩
               have hb5' : Below wr.heap.size wr w5 := below_undrew hb5
               have hz5 := hb5'.size
               have hz5' : w.heap.size + 1 + 1 + 1 < w5.heap.size := by omega
               have Hb := hide (Hbr.out.trans (hb5'.mono (by omega)))
               have H3 := hide (H3o.out.below hb5')
               have Hou := hide (Outs_below Hout.out hb5')
               obtain ⟨xs, hown, hkids⟩ := Hou.out
               have HO := hide (fun o1 => own_same hown (w' := w5.alloc o1) (fun g hg => (below1 w5 o1).block g (own_lt hown g hg).2))
               have HC : Hid (InP (fun k' => (q k' ∨ w.heap.size + 1 + 1 + 1 + 1 ≤ k') ∧ l.ownBlock ≠ some k') w5 (putR u x p).args a5) := InP_imp (fun k' hk' => by
                 refine ⟨hk'.imp id (fun h => by have h : wr.heap.size ≤ k' := h; omega), fun e => ?_⟩
                 have h9 := own_lt Hou0.out k' e
                 rcases hk' with h | h
                 · have := Hq.out k' h; omega
                 · have h : wr.heap.size ≤ k' := h
                   omega) hin5
               obtain ⟨_, _, s2, _, _, g2⟩ := H3.out
               clear hin5 hb5 hb5' hown)))
          all_goals
            go_wp2_with fail
            go_roundw
            case rel => exact ⟨k + 1, _, by omega, by go_num, HF.out.2.1 _, HF.out.2.2.1 _, by have h9 := HF.out.2.2.2 (.slice (some ⟨g, 0, none⟩) (k + 1) capg); rw [Htk.out] at h9; rw [HT1.out]; exact h9⟩
            case measure => simp [intOf]; omega
        · have hkb : ((k : Int) == i) = false := by simpa using hki
          have HT1 := hide (show L.take (k + 1) = L.take k ++ [x] by rw [List.take_add_one, HLx.out, if_neg hki]; rfl)
          obtain ⟨xs, hown, hkids⟩ := Hout.out
          have HO := hide (fun o1 => own_same hown (w' := wr.drew.alloc o1) (fun g hg => (below1 wr o1).block g (own_lt hown g hg).2))
          have Hb := hide Hbr.out.drew
          have H3 : Hid (Three wr.drew (w.heap.size + 1 + 1 + 1) (.int .i64 0) (.int .i64 t.f) l) := H3o.out.same rfl
          have HC : Hid (InP (fun k' => (q k' ∨ w.heap.size + 1 + 1 + 1 + 1 ≤ k') ∧ l.ownBlock ≠ some k') wr.drew x.args a3) := InP_imp (fun k' hk' => ⟨Or.inl hk', fun e => by have := own_lt hown k' e; have := Hq.out k' hk'; omega⟩) (InP_below (w := w) ((hWb.out.trans (Hbr.out.mono (by omega))).drew) Hx3.out)
          obtain ⟨_, kk0, kk1, kk2, _, _, _⟩ := hS.out wr Hbr.out
          clear k0 k1 k2 hinx hx hci q0 q1 r0 r1 hki hS hown
          go_wp2_with fail
          go_region_law ((first
            | (refine step_append_lies _ rfl (.tmp 43) (.tmp 49) 25 rfl (w.heap.size + 1 + 1 + 1 + 1) 27 ti (.agg #[.int .i64 0, .int .i64 0, .slice none 0 0]) 3 40 Try.underlying25 hi hz0 hz1 hz2 rfl (by decide) l (L.take k).length xs rfl (HO.out _) ⟨wr.heap.size, 0, none⟩ 1 1 [.int .i64 x.v, .int .i64 x.f, .slice a3 x.args.length cap3] rfl rfl (three_new (by first | rfl | simp)) (by simp [Value.oneCell']) (by decide) (by have := Htk.out; unfold maxLen; omega) (by have := Htk.out; omega) (by simp; omega) _ rfl ?_
               intro g capg w6 hown6 hgr6 hat6 hlt6
               have HF := hide (app_facts (c := x) (Hb.out.alloc (show w.heap.size + 1 + 1 + 1 ≤ wr.heap.size by omega) _) (H3.out.alloc _) (HO.out _) (Kids_mono (w := wr) (fun k' hk' hlt' => ⟨hk', (below1 wr.drew _).block k' hlt'⟩) hkids) (fun k' hk' => by have := Hq.out k' hk'; omega) (InP_alloc _ HC.out) hown6 hgr6 hat6)
               obtain ⟨_, _, y2, _, _, y5⟩ := HF.out.1
               have hz6 := hgr6.size
               clear hown6 hgr6 hat6)))
          all_goals
            go_wp2_with fail
            go_roundw
            case rel => exact ⟨k + 1, _, by omega, by go_num, HF.out.2.1 _, HF.out.2.2.1 _, by have h9 := HF.out.2.2.2 (.slice (some ⟨g, 0, none⟩) (k + 1) capg); rw [Htk.out] at h9; rw [HT1.out]; exact h9⟩
            case measure => simp [intOf]; omega
      · have hk2 : k = L.length := by omega
        subst hk2
        rw [List.take_length] at Hout
        obtain ⟨la, lc, rfl, hinL⟩ := Outs_end Hout.out
        obtain ⟨q0, q1, q2, r0, r1, r2⟩ := H3o.out
        have hbT : Hid (Three wr (w.heap.size + 1 + 1) (.int .i64 0) (.int .i64 0) (.slice none 0 0)) := by
          refine Three.same ?_ (Hbr.out.block _ (by omega))
          rw [HW3.out]; exact Three.new 27 (by simp)
        obtain ⟨m0, m1, m2, n0, n1, n2⟩ := hbT.out
        have HinL := hide hinL
        clear hinL
        go_wp2_with fail
        obtain ⟨z0, z1, z2, _, _, _⟩ := hbT.out.set (.int .i64 0) (.int .i64 t.f) (.slice la t.args.length lc)
        simp only [set3, Nat.zero_add] at z0 z1 z2
        refine bodyPost_ret (v := .agg #[.int .i64 0, .int .i64 t.f, .slice la t.args.length lc]) (by simp [results, Try.results26, go_sem, z0, z1, z2]) rfl ⟨la, lc, by rw [hLl], InP_imp (fun k' hk' => hk'.imp id (fun h => by omega)) (InP_same (fun k' hk' _ => set3_block (b := w.heap.size + 1 + 1) (off := 0) ?_) HinL.out), below_set3 (b := w.heap.size + 1 + 1) (off := 0) (hWb.out.trans (Hbr.out.mono (by omega))) (by omega) _ _ _⟩
        rcases hk' with h | h
        · have := Hq.out k' h; omega
        · omega

end Go.Proofs.Ytbkedppkdhfpoaa

namespace Go.Proofs.Ytbkedppkdhfpoaa
open Go.RowKit

/-- What the document makes of a term that is no variable: its number of a variable is not kept. -/
theorem applyT_doc {bs : List (Int × T)} {t : T} (h : ¬ 0 < t.v) (h0 : 0 ≤ t.v) : applyT bs t = ⟨0, t.f, t.args.map (applyT bs)⟩ := applyT_fn (by omega)
theorem okP_v {ar : List Int} {t : T} (h : okP ar t) : 0 ≤ t.v := by
  have h1 := (okP_iff.1 h).1
  rw [partErr] at h1
  by_cases hv : t.v = 0
  · omega
  · rw [if_pos hv] at h1
    by_cases h2 : t.v < 1 ∨ 1000 < t.v
    · rw [if_pos h2] at h1; cases h1
    · omega

attribute [local go_sem ↓] Go.wp_at_zero Go.wp_at_succ
set_option maxRecDepth 100000 in
set_option maxHeartbeats 2000000 in
theorem applyOf_any (ar : List Int) (q : Nat → Prop) (bs : List (Int × T)) (ba : Option Addr) (bc : Nat) (hl : bs.length ≤ 9223372036854775807) (N : Nat) : ∀ (t : T) (a : Option Addr) (cap : Nat) (w : World), t.sz < N → (∀ k, q k → k < w.heap.size) → Binds q w bs ba → okP ar t → t.sz ≤ 1000 → InP q w t.args a →
    Calls Try.prog 33 #[.slice ba bs.length bc, .agg #[.int .i64 t.v, .int .i64 t.f, .slice a t.args.length cap]] w fun e w' =>
      ∃ a' cap', e = .returned (.agg #[.int .i64 (applyT bs t).v, .int .i64 (applyT bs t).f, .slice a' (applyT bs t).args.length cap']) ∧ InP (fun k => q k ∨ w.heap.size ≤ k) w' (applyT bs t).args a' ∧ Below w.heap.size w w' := by
  induction N with
  | zero => intro t a cap w hN; omega
  | succ N ih =>
    intro t a cap w hN hq hbs hok ht hin
    have Hih := hide ih
    have Hq := hide hq
    have hv0 := okP_v hok
    have hte := T.sz_eq t
    have HB := hide (fun o1 o2 => boundTo_any bs ba bc t.v ((w.alloc o1).alloc o2) q hl (Binds_below (below2 _ _ _) hbs))
    clear ih hq
    by_cases hv : 0 < t.v
    · cases hlk : lookB bs t.v with
      | none =>
        have hgoal : applyT bs t = t := by
          have hvv := ok_var hok (by omega)
          rw [applyT_none (by rw [putIn, if_pos hv, hlk]), hvv.2]
          cases t; simp_all
        rw [hgoal]
        rw [idxB_none hlk] at HB
        clear hlk hgoal
        go_enter Try.func33, Try.ntmps33
        go_wp2_with (go_at_call 70; refine (HB.out _ _).mono ?_; rintro e w' ⟨rfl, hw'⟩; obtain rfl := hw'.symm; clear hw')
        exact bodyPost_ret (v := .agg #[.int .i64 t.v, .int .i64 t.f, .slice a t.args.length cap]) (by simp [results, Try.results33, go_sem]) rfl ⟨a, cap, rfl, InP_imp (fun k h => Or.inl h) (InP_below (w := w) (below2 _ _ _) hin), below2 _ _ _⟩
      | some u =>
        obtain ⟨m, hm1, hm2, hm3⟩ := idxB_some (n := 0) hlk
        rw [Nat.zero_add] at hm1
        have hgoal : applyT bs t = u := applyT_some (by rw [putIn, if_pos hv, hlk])
        rw [hgoal]
        rw [hm1] at HB
        obtain ⟨b, off, rfl⟩ := Binds_some hbs (by omega)
        obtain ⟨a6, cap6, _, d0, d1, d2, d3, hin6⟩ := Binds_at hbs hm3
        have hmI : (m : Int) < bs.length := by omega
        have hm0 : (0 : Int) ≤ m := by omega
        have hbl := lt_of_cell d0
        have e1 : off + m * 4 + 1 + 1 = off + m * 4 + 2 := by omega
        have e2 : off + m * 4 + 1 + 2 = off + m * 4 + 3 := by omega
        rw [← e1] at d2
        rw [← e2] at d3
        have Hin6 := hide hin6
        clear hlk hgoal hm3 hin6 hm1 e1 e2 d0
        go_enter Try.func33, Try.ntmps33
        go_wp2_with (go_at_call 70; refine (HB.out _ _).mono ?_; rintro e w' ⟨rfl, hw'⟩; obtain rfl := hw'.symm; clear hw')
        exact bodyPost_ret (v := .agg #[.int .i64 u.v, .int .i64 u.f, .slice a6 u.args.length cap6]) (by simp [results, Try.results33, go_sem]) rfl ⟨a6, cap6, rfl, InP_imp (fun k h => Or.inl h) (InP_below (w := w) (below2 _ _ _) Hin6.out), below2 _ _ _⟩
    · have hgoal : applyT bs t = ⟨0, t.f, t.args.map (applyT bs)⟩ := applyT_fn (by omega)
      obtain ⟨L, hL⟩ : ∃ L, L = t.args.map (applyT bs) := ⟨_, rfl⟩
      have hLl : L.length = t.args.length := by rw [hL]; simp
      have hLk : ∀ (k : Nat) (x : T), t.args[k]? = some x → L[k]? = some (applyT bs x) := fun k x hx => by
        rw [hL]; simp [hx]
      have HLk := hide hLk
      rw [hgoal, ← hL]
      show Calls _ _ _ _ fun e w' => ∃ a' cap', e = .returned (.agg #[.int .i64 0, .int .i64 t.f, .slice a' L.length cap']) ∧ InP (fun k => q k ∨ w.heap.size ≤ k) w' L a' ∧ Below w.heap.size w w'
      have htl : t.args.length ≤ 1000 := by have := T.length_le t.args; omega
      have Hin := hide hin
      have Hbs := hide hbs
      clear hL hgoal hLk hin hbs HB
      obtain ⟨W3, hW3⟩ : ∃ W3, W3 = ((w.alloc (.cells #[.int .i64 t.v, .int .i64 t.f, .slice a t.args.length cap] 27)).alloc (.cells #[.int .i64 0, .int .i64 0, .slice none 0 0] 27)) := ⟨_, rfl⟩
      have hT3 : Hid (Three W3 w.heap.size (.int .i64 t.v) (.int .i64 t.f) (.slice a t.args.length cap)) := by rw [hW3]; exact (Three.new 27 rfl).alloc _
      have hWb : Hid (Below w.heap.size w W3) := by rw [hW3]; exact below2 _ _ _
      have HW3 := hide hW3
      clear hW3
      obtain ⟨ti, hi, hzz⟩ := Option.map_eq_some_iff.1 Try.info27
      simp only [Prod.mk.injEq] at hzz
      obtain ⟨hz0, hz1, hz2⟩ := hzz
      go_enter Try.func33, Try.ntmps33
      go_wp2_with fail
      go_loopw [7] (fun j wr => ∃ (k : Nat) (l : Value), k ≤ t.args.length ∧ j = .int .i64 k ∧ Below (w.heap.size + 1 + 1) W3 wr ∧
          Three wr (w.heap.size + 1 + 1) (.int .i64 0) (.int .i64 t.f) l ∧ Outs q (w.heap.size + 1 + 1 + 1) wr l (L.take k)) (fun j _ => t.args.length - (intOf j).toNat)
      case atStart =>
        refine ⟨0, .slice none 0 0, Nat.zero_le _, rfl, ?_, ?_, by rw [List.take_zero]; exact Outs_nil⟩
        · rw [HW3.out]
          exact (Below.refl _ _).alloc (by simp) _
        · exact Three.new 27 (by simp)
      case round =>
        obtain ⟨k, l, hk, rfl, hbr, h3o, hout⟩ := hrel
        have hzr := h3o.lt
        have HT := hide (hT3.out.same (hbr.block _ (by omega)))
        obtain ⟨c0, c1, c2, _, _, _⟩ := HT.out
        have H3o := hide h3o
        have Hbr := hide hbr
        have Hout := hide hout
        clear hout hbr
        by_cases hlt : k < t.args.length
        · obtain ⟨b1, off1, rfl⟩ := InP_some Hin.out (by omega)
          obtain ⟨x, hx⟩ : ∃ x, t.args[k]? = some x := ⟨t.args[k], List.getElem?_eq_getElem hlt⟩
          obtain ⟨a3, cap3, _, k0, k1, k2, hinx⟩ := InP_at Hin.out hx
          have hb1 := lt_of_cell k0
          have hxm := T.szL_mem (List.mem_of_getElem? hx)
          have Hxo := hide (okArg hok (List.mem_of_getElem? hx))
          have Hx3 := hide hinx
          have HT1 := hide (show L.take (k + 1) = L.take k ++ [applyT bs x] by rw [List.take_add_one, HLk.out k x hx]; rfl)
          have Htk : Hid ((L.take k).length = k) := by show (L.take k).length = k; simp; omega
          have HbW : Hid (Below w.heap.size w wr) := hWb.out.trans (Hbr.out.mono (by omega))
          have kk0 := cell_below HbW.out k0
          have kk1 := cell_below HbW.out k1
          have kk2 := cell_below HbW.out k2
          obtain ⟨q0, q1, q2, r0, r1, r2⟩ := H3o.out
          have hltI : (k : Int) < t.args.length := by omega
          have hk0 : (0 : Int) ≤ k := by omega
          obtain ⟨xs0, hown0, _⟩ := Hout.out
          have Hou0 := hide hown0
          clear k0 k1 k2 hinx hx q0 q1 r0 r1 hown0
          go_wp2_with fail
          go_region_law ((first
            | (refine step_append_lies _ rfl (.tmp 34) (.tmp 42) 25 rfl (w.heap.size + 1 + 1 + 1) 27 ti (.agg #[.int .i64 0, .int .i64 0, .slice none 0 0]) 3 40 Try.underlying25 hi hz0 hz1 hz2 rfl (by decide) l (L.take k).length xs rfl (HO.out _) ⟨w5.heap.size, 0, none⟩ 1 1 [.int .i64 (applyT bs x).v, .int .i64 (applyT bs x).f, .slice a5 (applyT bs x).args.length cap5] rfl rfl (three_new (by first | rfl | simp)) (by simp [Value.oneCell']) (by decide) (by have := Htk.out; unfold maxLen; omega) (by have := Htk.out; omega) (by simp; omega) _ rfl ?_
               intro g capg w6 hown6 hgr6 hat6 hlt6
               have HF := hide (app_facts (c := applyT bs x) (Hb.out.alloc (show w.heap.size + 1 + 1 ≤ w5.heap.size by omega) _) (H3.out.alloc _) (HO.out _) (Kids_mono (fun k' hk' hlt' => ⟨hk', (below1 _ _).block k' hlt'⟩) hkids) (fun k' hk' => by have := Hq.out k' hk'; omega) (InP_alloc _ HC.out) hown6 hgr6 hat6)
               obtain ⟨_, _, y2, _, _, y5⟩ := HF.out.1
               have hz6 := hgr6.size
               clear hown6 hgr6 hat6)
            | (go_simp
               go_at_call 33
               refine (Hih.out x a3 cap3 _ ?_ ?_ ?_ Hxo.out ?_ ?_).mono ?_
               · omega
               · exact fun k' hk' => Nat.lt_trans (Hq.out k' hk') (show w.heap.size < wr.heap.size by omega)
               · exact Binds_below (w := w) HbW.out.drew Hbs.out
               · omega
               · exact InP_below (w := w) HbW.out.drew Hx3.out
               rintro e w5 ⟨a5, cap5, rfl, hin5, hb5⟩
               have hb5' : Below wr.heap.size wr w5 := below_undrew hb5
               have hz5 := hb5'.size
               have hz5' : w.heap.size + 1 + 1 < w5.heap.size := by omega
               have Hb := hide (Hbr.out.trans (hb5'.mono (by omega)))
               have H3 := hide (H3o.out.below hb5')
               have Hou := hide (Outs_below Hout.out hb5')
               obtain ⟨xs, hown, hkids⟩ := Hou.out
               have HO := hide (fun o1 => own_same hown (w' := w5.alloc o1) (fun g hg => (below1 w5 o1).block g (own_lt hown g hg).2))
               have HC : Hid (InP (fun k' => (q k' ∨ w.heap.size + 1 + 1 + 1 ≤ k') ∧ l.ownBlock ≠ some k') w5 (applyT bs x).args a5) := InP_imp (fun k' hk' => by
                 refine ⟨hk'.imp id (fun h => by have h : wr.heap.size ≤ k' := h; omega), fun e => ?_⟩
                 have h9 := own_lt Hou0.out k' e
                 rcases hk' with h | h
                 · have := Hq.out k' h; omega
                 · have h : wr.heap.size ≤ k' := h
                   omega) hin5
               obtain ⟨_, _, s2, _, _, g2⟩ := H3.out
               clear hin5 hb5 hb5' hown)))
          all_goals
            go_wp2_with fail
            go_roundw
            case rel => exact ⟨k + 1, _, by omega, by go_num, HF.out.2.1 _, HF.out.2.2.1 _, by have h9 := HF.out.2.2.2 (.slice (some ⟨g, 0, none⟩) (k + 1) capg); rw [Htk.out] at h9; rw [HT1.out]; exact h9⟩
            case measure => simp [intOf]; omega
        · have hk2 : k = L.length := by omega
          subst hk2
          rw [List.take_length] at Hout
          obtain ⟨la, lc, rfl, hinL⟩ := Outs_end Hout.out
          obtain ⟨q0, q1, q2, r0, r1, r2⟩ := H3o.out
          have hbT : Hid (Three wr (w.heap.size + 1) (.int .i64 0) (.int .i64 0) (.slice none 0 0)) := by
            refine Three.same ?_ (Hbr.out.block _ (by omega))
            rw [HW3.out]; exact Three.new 27 (by simp)
          obtain ⟨m0, m1, m2, n0, n1, n2⟩ := hbT.out
          have HinL := hide hinL
          clear hinL
          go_wp2_with fail
          obtain ⟨z0, z1, z2, _, _, _⟩ := hbT.out.set (.int .i64 0) (.int .i64 t.f) (.slice la t.args.length lc)
          simp only [set3, Nat.zero_add] at z0 z1 z2
          refine bodyPost_ret (v := .agg #[.int .i64 0, .int .i64 t.f, .slice la t.args.length lc]) (by simp [results, Try.results33, go_sem, z0, z1, z2]) rfl ⟨la, lc, by rw [hLl], InP_imp (fun k' hk' => hk'.imp id (fun h => by omega)) (InP_same (fun k' hk' _ => set3_block (b := w.heap.size + 1) (off := 0) ?_) HinL.out), below_set3 (b := w.heap.size + 1) (off := 0) (hWb.out.trans (Hbr.out.mono (by omega))) (by omega) _ _ _⟩
          rcases hk' with h | h
          · have := Hq.out k' h; omega
          · omega

end Go.Proofs.Ytbkedppkdhfpoaa

namespace Go.Proofs.Ytbkedppkdhfpoaa
open Go.RowKit Go.Maps

theorem Try.zero27 (w : World) : (zeroValue 27).run Try.prog w = .ok (.agg #[.int .i64 0, .int .i64 0, .slice none 0 0]) w := by kernel_rfl

theorem Kids_length {p : Nat → Prop} {w : World} {ts : List T} : ∀ {cs : List Value}, Kids p w ts cs → cs.length = ts.length * 3 := by
  induction ts with
  | nil => intro cs h; rw [show cs = [] from h]; rfl
  | cons t ts ih =>
    intro cs h
    obtain ⟨a, cap, rest, rfl, _, h⟩ := h
    have := ih h
    simp only [List.length_cons]; omega

/-- A term that is being made: k of its arguments are there. -/
structure Mk (w wr : World) (v f : Int) (n : Nat) (L : List T) (k g b7 : Nat) : Prop where
  kids : ∃ cs, Kids (fun x => w.heap.size + 1 < x ∧ x ≠ g) wr (L.take k) cs ∧ ∀ j u, cs[j]? = some u → wr.cell? ⟨g, j, none⟩ = some u
  cells : ∀ j, j < n * 3 → ∃ u, wr.cell? ⟨g, j, none⟩ = some u
  fr : ∀ j, wr.frozen? ⟨g, j, none⟩ = false
  made : Three wr b7 (.int .i64 v) (.int .i64 f) (.slice (some ⟨g, 0, none⟩) n n)
  res : Three wr (w.heap.size + 1) (.int .i64 0) (.int .i64 0) (.slice none 0 0)
  below : Below w.heap.size w wr
  gg : w.heap.size + 1 < g
  gl : g < wr.heap.size
  bb : w.heap.size + 1 < b7
  ne : b7 ≠ g
theorem Mk.step {w wr w2 : World} {v f : Int} {n k g b7 : Nat} {L : List T} {c : T} {a2 : Option Addr} {cap2 : Nat} {o : Obj} (h : Mk w wr v f n L k g b7) (hL : L.length = n) (hc : L[k]? = some c) (hb : Below (wr.alloc o).heap.size (wr.alloc o) w2) (hi : InP (fun x => (wr.alloc o).heap.size ≤ x) w2 c.args a2) :
    Mk w (set3 w2 g (k * 3) (.int .i64 c.v) (.int .i64 c.f) (.slice a2 c.args.length cap2)) v f n L (k + 1) g b7 := by
  have hk : k < n := by
    rcases Nat.lt_or_ge k L.length with h | h
    · omega
    · rw [List.getElem?_eq_none h] at hc; cases hc
  have hgl := h.gl
  have hgg := h.gg
  have hwb := h.below.size
  have hb' : Below wr.heap.size wr w2 := (below1 _ _).trans (hb.mono (by simp))
  have hs2 := hb'.size
  obtain ⟨cs, hk1, hk2⟩ := h.kids
  have hcl := Kids_length hk1
  rw [List.length_take_of_le (by omega)] at hcl
  have hcells : ∀ j, j < n * 3 → ∃ u, w2.cell? ⟨g, j, none⟩ = some u := fun j hj => by
    rw [hb'.cell (p := ⟨g, j, none⟩) hgl]; exact h.cells j hj
  have hsame := set3_same (w := w2) (b := g) (off := k * 3) (u0 := .int .i64 c.v) (u1 := .int .i64 c.f) (u2 := .slice a2 c.args.length cap2) (fun j _ hj2 => hcells j (by omega))
  refine ⟨⟨cs ++ [.int .i64 c.v, .int .i64 c.f, .slice a2 c.args.length cap2], ?_, ?_⟩, ?_, ?_, (h.made.below hb').same (set3_block h.ne), (h.res.below hb').same (set3_block (by have := h.gg; omega)), below_set3 (h.below.trans (hb'.mono hwb)) (by have := h.gg; omega) _ _ _, h.gg, by rw [set3_size]; omega, h.bb, h.ne⟩
  · rw [List.take_add_one, hc]
    refine Kids_append (Kids_mono (fun x hx hxl => ⟨hx, by rw [set3_block hx.2]; exact hb'.block x hxl⟩) hk1) ⟨a2, cap2, [], rfl, ?_, rfl⟩
    refine InP_mono (fun b o v hp hv => ?_) _ _ _ (Nat.le_refl _) hi
    have hp : wr.heap.size + 1 ≤ b := by simpa using hp
    exact ⟨⟨by omega, by omega⟩, by rw [World.cell?_of_block (w := w2) (a := ⟨b, o, none⟩) (set3_block (show b ≠ g by omega))]; exact hv⟩
  · intro j u hu
    rcases Nat.lt_or_ge j cs.length with hj | hj
    · rw [List.getElem?_append_left hj] at hu
      rw [set3_cell (by omega), hb'.cell (p := ⟨g, j, none⟩) hgl]; exact hk2 j u hu
    · rw [List.getElem?_append_right hj, hcl] at hu
      have hj3 : j - k * 3 = 0 ∨ j - k * 3 = 1 ∨ j - k * 3 = 2 := by
        rcases Nat.lt_or_ge (j - k * 3) 3 with h9 | h9
        · omega
        · rw [List.getElem?_eq_none (by simpa using h9)] at hu; cases hu
      rcases hj3 with e | e | e
      · rw [e] at hu
        obtain rfl : Value.int .i64 c.v = u := by simpa using hu
        rw [show j = k * 3 by omega]; exact hsame.1
      · rw [e] at hu
        obtain rfl : Value.int .i64 c.f = u := by simpa using hu
        rw [show j = k * 3 + 1 by omega]; exact hsame.2.1
      · rw [e] at hu
        obtain rfl : Value.slice a2 c.args.length cap2 = u := by simpa using hu
        rw [show j = k * 3 + 2 by omega]; exact hsame.2.2
  · intro j hj
    by_cases h3 : j < k * 3 ∨ k * 3 + 2 < j
    · rw [set3_cell h3]; exact hcells j hj
    · have : j = k * 3 ∨ j = k * 3 + 1 ∨ j = k * 3 + 2 := by omega
      rcases this with rfl | rfl | rfl
      · exact ⟨_, hsame.1⟩
      · exact ⟨_, hsame.2.1⟩
      · exact ⟨_, hsame.2.2⟩
  · intro j
    rw [set3_frozen, hb'.frozen (p := ⟨g, j, none⟩) hgl]; exact h.fr j
theorem Mk.fin {w wr : World} {v f : Int} {n g b7 : Nat} {L : List T} (h : Mk w wr v f n L n g b7) (hL : L.length = n) : InP (fun x => w.heap.size + 1 < x) wr L (some ⟨g, 0, none⟩) := by
  obtain ⟨cs, h1, h2⟩ := h.kids
  rw [← hL, List.take_length] at h1
  exact Kids_in h.gg (Kids_mono (fun x hx _ => ⟨hx.1, rfl⟩) h1) (fun j u hu => by rw [Nat.zero_add]; exact h2 j u hu)

theorem Mk.start {w wr : World} {v f : Int} {n g b7 : Nat} {L : List T} (hg : wr.heap[g]? = some (.cells (row3 n) 27)) (h7 : Three wr b7 (.int .i64 v) (.int .i64 f) (.slice (some ⟨g, 0, none⟩) n n)) (hr : Three wr (w.heap.size + 1) (.int .i64 0) (.int .i64 0) (.slice none 0 0)) (hb : Below w.heap.size w wr) (h1 : w.heap.size + 1 < g) (h2 : w.heap.size + 1 < b7) (h3 : b7 ≠ g) : Mk w wr v f n L 0 g b7 := by
  refine ⟨⟨[], rfl, fun j u hu => by simp at hu⟩, fun j hj => ?_, fun j => frozen_of_heap hg j, h7, hr, hb, h1, (Array.getElem?_eq_some_iff.1 hg).1, h2, h3⟩
  have hs : j < (row3 n).size := by rw [size_row3]; exact hj
  refine ⟨(row3 n)[j], ?_⟩
  unfold World.cell?
  rw [hg]
  simp [hs]
theorem Mk.behind {w wr : World} {v f : Int} {n k g b7 : Nat} {L : List T} (h : Mk w wr v f n L k g b7) (hk : k < n) : ∀ (o : Obj) (w2 : World), Below (wr.alloc o).heap.size (wr.alloc o) w2 → (w2.cell? ⟨b7, 2, none⟩ = some (.slice (some ⟨g, 0, none⟩) n n)) ∧
      (∃ v0 v1 v2, w2.cell? ⟨g, k * 3, none⟩ = some v0 ∧ w2.cell? ⟨g, k * 3 + 1, none⟩ = some v1 ∧ w2.cell? ⟨g, k * 3 + 2, none⟩ = some v2) ∧ (∀ j, w2.frozen? ⟨g, j, none⟩ = false) := by
  intro o w2 hb
  have hb' : Below wr.heap.size wr w2 := (below1 _ _).trans (hb.mono (by simp))
  have hgl := h.gl
  obtain ⟨v0, e0⟩ := h.cells (k * 3) (by omega)
  obtain ⟨v1, e1⟩ := h.cells (k * 3 + 1) (by omega)
  obtain ⟨v2, e2⟩ := h.cells (k * 3 + 2) (by omega)
  exact ⟨(h.made.below hb').c2, ⟨v0, v1, v2, cell_below hb' e0, cell_below hb' e1, cell_below hb' e2⟩, fun j => by rw [hb'.frozen (p := ⟨g, j, none⟩) hgl]; exact h.fr j⟩

set_option maxRecDepth 100000 in
set_option maxHeartbeats 2000000 in
theorem applyP_any (ar : List Int) (q : Nat → Prop) (bs : List (Int × T)) (b n : Nat) (f : Int → Option Value) (hpos : ∀ v, v ≤ 0 → lookB bs v = none) (hus : ∀ v u, (v, u) ∈ bs → u.sz ≤ 1000) (N : Nat) : ∀ (t : T) (a : Option Addr) (cap : Nat) (w : World), t.sz < N → t.sz ≤ 1000 → MapAt w b n f → BMap q w bs f → okP ar t → InL w t.args a →
    Calls Try.prog 69 #[.map (some b), .agg #[.int .i64 t.v, .int .i64 t.f, .slice a t.args.length cap]] w fun e w' =>
      ∃ a' cap', e = .returned (.agg #[.int .i64 (applyT bs t).v, .int .i64 (applyT bs t).f, .slice a' (applyT bs t).args.length cap']) ∧ InP (fun k => w.heap.size ≤ k) w' (applyT bs t).args a' ∧ Below w.heap.size w w' := by
  induction N with
  | zero => intro t a cap w hN; omega
  | succ N ih =>
    intro t a cap w hN ht hM hB hok hin
    have Hih := hide ih
    have hv0 := okP_v hok
    have hv1 : t.v ≤ 1000 := by
      have h1 := (okP_iff.1 hok).1
      rw [partErr] at h1
      by_cases hv : t.v = 0
      · omega
      · rw [if_pos hv] at h1
        by_cases h2 : t.v < 1 ∨ 1000 < t.v
        · rw [if_pos h2] at h1; cases h1
        · omega
    have hte := T.sz_eq t
    have hlook := fun o1 o2 => (hM.below (below2 w o1 o2)).look_ok (t := 92) Try.underlying92 (Try.zero27 _) (k := t.v) (by omega) (by omega)
    have HM := hide hM
    have HB := hide hB
    have Hok := hide hok
    clear ih hM hB hok
    cases hlk : lookB bs t.v with
    | some u =>
      have hp : putIn bs t.v = some u := by
        rw [putIn, if_pos ?_, hlk]
        rcases Int.lt_or_le 0 t.v with h | h
        · exact h
        · rw [hpos _ h] at hlk; cases hlk
      obtain ⟨a1, cap1, hf, hin1⟩ := (HB.out t.v).2 u hlk
      rw [applyT_some hp]
      rw [hf] at hlook
      have husz := hus _ _ (lookB_mem hlk)
      have Hin1 := hide (InP_imp (q := fun _ => True) (fun _ _ => trivial) hin1)
      clear hlk hp hf hin1
      go_enter Try.func69, Try.ntmps69
      go_wp2_with fail
      refine (copyOf_any (u.sz + 1) u a1 cap1 _ (by omega) husz (InP_below (w := w) (below3 _ _ _ _) Hin1.out)).mono ?_
      rintro e w3 ⟨s, Bc, rfl, hown, _, hrg, hb3⟩
      obtain ⟨a2, cap2, rfl, hin2⟩ := In_iff.1 (Own_inP hown)
      have hz3 := hb3.size
      simp at hz3
      have HR : Hid (Three w3 (w.heap.size + 1) (.int .i64 0) (.int .i64 0) (.slice none 0 0)) := Three.below ((Three.new 27 (by simp)).alloc _) hb3
      obtain ⟨m0, m1, m2, n0, n1, n2⟩ := HR.out
      have Hin2 : Hid (InP (fun k => w.heap.size ≤ k ∧ k ≠ w.heap.size + 1) w3 u.args a2) := InP_imp (fun k hk => by have := (hrg k hk).1; simp at this; omega) hin2
      have Hb3 : Hid (Below w.heap.size w w3) := (below3 _ _ _ _).trans (hb3.mono (by simp; omega))
      clear hown hrg hb3 hin2
      go_wp2_with fail
      obtain ⟨z0, z1, z2, _, _, _⟩ := HR.out.set (.int .i64 u.v) (.int .i64 u.f) (.slice a2 u.args.length cap2)
      simp only [set3, Nat.zero_add] at z0 z1 z2
      exact bodyPost_ret (v := .agg #[.int .i64 u.v, .int .i64 u.f, .slice a2 u.args.length cap2]) (by simp [results, Try.results69, go_sem, z0, z1, z2]) rfl ⟨a2, cap2, rfl, InP_imp (fun k hk => hk.1) (InP_same (fun k hk _ => set3_block (b := w.heap.size + 1) (off := 0) hk.2) Hin2.out), below_set3 (b := w.heap.size + 1) (off := 0) Hb3.out (by omega) _ _ _⟩
    | none =>
      have hp : putIn bs t.v = none := by
        rw [putIn, hlk]; split <;> rfl
      have hf := (HB.out t.v).1 hlk
      rw [applyT_none hp]
      rw [hf] at hlook
      obtain ⟨L, hL⟩ : ∃ L, L = t.args.map (applyT bs) := ⟨_, rfl⟩
      have hLl : L.length = t.args.length := by rw [hL]; simp
      have HLk := hide (show ∀ (k : Nat) (x : T), t.args[k]? = some x → L[k]? = some (applyT bs x) from fun k x hx => by rw [hL]; simp [hx])
      rw [← hL]
      show Calls _ _ _ _ fun e w' => ∃ a' cap', e = .returned (.agg #[.int .i64 t.v, .int .i64 t.f, .slice a' L.length cap']) ∧ InP (fun k => w.heap.size ≤ k) w' L a' ∧ Below w.heap.size w w'
      have htl : t.args.length ≤ 1000 := by have := T.length_le t.args; omega
      have Hin := hide hin
      have hmk := run_make3 t.args.length (by omega)
      clear hlk hp hf hL hin
      obtain ⟨W3, hW3⟩ : ∃ W3, W3 = (((w.alloc (.cells #[.int .i64 t.v, .int .i64 t.f, .slice a t.args.length cap] 27)).alloc (.cells #[.int .i64 0, .int .i64 0, .slice none 0 0] 27)).alloc (.cells #[.int .i64 0, .int .i64 0, .slice none 0 0] 27)) := ⟨_, rfl⟩
      have hT3 : Hid (Three W3 w.heap.size (.int .i64 t.v) (.int .i64 t.f) (.slice a t.args.length cap)) := by rw [hW3]; exact ((Three.new 27 rfl).alloc _).alloc _
      have hR3 : Hid (Three W3 (w.heap.size + 1) (.int .i64 0) (.int .i64 0) (.slice none 0 0)) := by rw [hW3]; exact (Three.new 27 (by simp)).alloc _
      have hWb : Hid (Below w.heap.size w W3) := by rw [hW3]; exact below3 _ _ _ _
      have hzW : W3.heap.size = w.heap.size + 3 := by rw [hW3]; simp
      have HW3 := hide hW3
      clear hW3
      go_enter Try.func69, Try.ntmps69
      go_upto_region 4 with fail
      rw [← HW3.out]
      obtain ⟨t0, t1, t2, _, _, _⟩ := hT3.out
      go_cut [7] (fun v7 wc => ∃ g b7, v7 = .pointer (some ⟨b7, 0, none⟩) ∧ Mk w wc t.v t.f t.args.length L 0 g b7 ∧ Hid (Below W3.heap.size W3 wc))
      case first =>
        go_region
        all_goals (go_wp2_with fail; go_meet)
        · refine ⟨w.heap.size + 3, w.heap.size + 3 + 1, rfl, Mk.start ?_ ?_ ?_ ?_ (by omega) (by omega) (by omega), ?_⟩
          · rw [← hzW]; exact (Below.heap_alloc (W3.alloc _) _ _ (by simp)).trans (heap_alloc_new W3 _)
          · exact Three.same (Three.new 27 (by rw [World.size_alloc, hzW])) rfl
          · exact Three.same ((hR3.out.alloc _).alloc _) rfl
          · exact Below.drew (hWb.out.trans ((below2 _ _ _).mono (by omega)))
          · exact Below.drew (below2 _ _ _)
        · refine ⟨w.heap.size + 3 + 1, w.heap.size + 3, rfl, Mk.start ?_ ?_ ?_ ?_ (by omega) (by omega) (by omega), ?_⟩
          · have h9 := heap_alloc_new (W3.alloc (.cells #[.int .i64 t.v, .int .i64 t.f, .slice (some ⟨w.heap.size + 3 + 1, 0, none⟩) t.args.length t.args.length] 27)) (.cells (row3 t.args.length) 27)
            rw [World.size_alloc, hzW] at h9
            exact h9
          · exact Three.same ((Three.new 27 hzW.symm).alloc _) rfl
          · exact Three.same ((hR3.out.alloc _).alloc _) rfl
          · exact Below.drew (hWb.out.trans ((below2 _ _ _).mono (by omega)))
          · exact Below.drew (below2 _ _ _)
      case rest =>
        obtain ⟨g, b7, rfl, hmk0, HBc⟩ := hcut
        have Hmk0 := hide hmk0
        obtain ⟨t0, t1, t2, _, _, _⟩ := hT3.out.below HBc.out
        clear hmk0 hmk hT3 hR3 hWb HW3 hzW
        go_wp2_with fail
        go_loopw [32] (fun i wr => ∃ (k : Nat), k ≤ t.args.length ∧ i = .int .i64 k ∧ Mk w wr t.v t.f t.args.length L k g b7) (fun i _ => t.args.length - (intOf i).toNat)
        case atStart => exact ⟨0, Nat.zero_le _, rfl, Hmk0.out⟩
        case round =>
          obtain ⟨k, hk, rfl, hmk⟩ := hrel
          have Hmk := hide hmk
          have Hinr := hide (InP_below hmk.below Hin.out)
          obtain ⟨d0, d1, d2, g0, g1, g2⟩ := hmk.res
          obtain ⟨p0, p1, p2, _, _, _⟩ := hmk.made
          have hgl := hmk.gl
          have hbl := hmk.made.lt
          have hgg := hmk.gg
          clear hmk
          by_cases hlt : k < t.args.length
          · obtain ⟨b', off, rfl⟩ := InP_some Hinr.out (by omega)
            obtain ⟨c, hc⟩ : ∃ c, t.args[k]? = some c := ⟨t.args[k], List.getElem?_eq_getElem hlt⟩
            obtain ⟨a1, cap1, _, k0, k1, k2, hin1⟩ := InP_at Hinr.out hc
            have hcsz : c.sz < N ∧ c.sz ≤ 1000 := by
              have := T.szL_mem (List.mem_of_getElem? hc)
              omega
            have HLc := hide (HLk.out k c hc)
            have Hco := hide (okArg Hok.out (List.mem_of_getElem? hc))
            have Hcall := hide (Hmk.out.behind hlt)
            have Hbw := hide Hmk.out.below
            have Hin1 := hide hin1
            clear hc hin1
            have HMr := hide (HM.out.below Hbw.out)
            have HBr := hide (HB.out.mono (fun j _ hj => Hbw.out.block j hj))
            have HMo := hide (fun o => (HMr.out.below (below1 wr o)).same (w' := (wr.alloc o).drew) rfl)
            have HBo := hide (fun o => HBr.out.mono (w' := (wr.alloc o).drew) (fun j _ hj => (below1 wr o).block j hj))
            have HIo := hide (fun o => InP_heap (w := wr.alloc o) (w' := (wr.alloc o).drew) rfl (InP_alloc o Hin1.out))
            have hz1 : w.heap.size + 1 < wr.heap.size := by omega
            go_wp2_with fail
            go_region_with (go_at_call 69; refine (Hih.out c a1 cap1 _ hcsz.1 hcsz.2 (HMo.out _) (HBo.out _) Hco.out (HIo.out _)).mono ?_; rintro e w2 ⟨a2, cap2, rfl, hin2, hb1⟩; have hb2 := below_undrew hb1; clear hb1; obtain ⟨q2, ⟨v0, v1, v2, e0, e1, e2⟩, qf⟩ := Hcall.out _ w2 hb2; have q0 := qf (k * 3); have q1 := qf (k * 3 + 1); have q3 := qf (k * 3 + 2); clear qf)
            all_goals
              go_wp2_with fail
              go_roundw
              case rel => exact ⟨k + 1, by omega, by go_num, Hmk.out.step hLl HLc.out hb2 hin2⟩
              case measure => simp [intOf]; omega
          · have hk2 : k = t.args.length := by omega
            subst hk2
            have HF := hide (Hmk.out.fin hLl)
            have Hres := hide (Hmk.out.res.set (.int .i64 t.v) (.int .i64 t.f) (.slice (some ⟨g, 0, none⟩) t.args.length t.args.length))
            have Hbw := hide Hmk.out.below
            go_wp2_with fail
            obtain ⟨z0, z1, z2, _, _, _⟩ := Hres.out
            simp only [set3, Nat.zero_add] at z0 z1 z2
            exact bodyPost_ret (v := .agg #[.int .i64 t.v, .int .i64 t.f, .slice (some ⟨g, 0, none⟩) t.args.length t.args.length]) (by simp [results, Try.results69, go_sem, z0, z1, z2]) rfl ⟨some ⟨g, 0, none⟩, t.args.length, by rw [hLl], InP_imp (fun j hj => by omega) (InP_same (fun j hj _ => set3_block (b := w.heap.size + 1) (off := 0) (show j ≠ _ by omega)) HF.out), below_set3 (b := w.heap.size + 1) (off := 0) Hbw.out (by omega) _ _ _⟩

end Go.Proofs.Ytbkedppkdhfpoaa

namespace Go.Proofs.Ytbkedppkdhfpoaa
open Go.RowKit

theorem all_one {ar : List Int} (h : sigErr ar = 0) (t : T) : allErr ar [t] = termErr ar t := by
  rw [allErr, if_pos h, termsErr]
  by_cases h1 : termErr ar t = 0
  · rw [if_pos h1, h1]; rfl
  · rw [if_neg h1]

set_option maxRecDepth 100000 in
set_option maxHeartbeats 1000000 in
theorem checkBindings_any (ar : List Int) (ga : Option Addr) (gcap : Nat) (bs : List (Int × T)) (a : Option Addr) (cap : Nat) (w : World) (p : Nat → Prop) (hl : bs.length ≤ 9223372036854775807) (hg : Ints w ar ga) (hin : Binds p w bs a) :
    Calls Try.prog 67 #[.agg #[.slice ga ar.length gcap], .slice a bs.length cap] w fun e w' => e = .returned (.int .i64 (bindsErr ar bs)) ∧ Below w.heap.size w w' := by
  go_enter Try.func67, Try.ntmps67
  go_wp2_with fail
  refine (signature_any ar ga gcap _ (Ints_alloc _ hg)).mono ?_
  rintro e w1 ⟨rfl, hb1⟩
  have hz1 : w.heap.size < w1.heap.size := by have := hb1.size; simp at this; omega
  have hbw : Below w.heap.size w w1 := (below1 _ _).trans (hb1.mono (by simp))
  have cg : w1.cell? ⟨w.heap.size, 0, none⟩ = some (.slice ga ar.length gcap) := by
    rw [hb1.cell (p := ⟨w.heap.size, 0, none⟩) (by simp), cell_new _ rfl]; rfl
  clear hb1
  by_cases hs : sigErr ar = 0
  · have hfin : bindsErr ar bs = bindErr ar 0 bs := by rw [bindsErr, if_pos hs]
    have Hfin := hide hfin
    have Hone := hide (all_one hs)
    rw [hs]
    clear hfin hs
    go_wp2_with fail
    go_loopw [6, 17] (fun l i wr => ∃ (k : Nat), k ≤ bs.length ∧ i = .int .i64 k ∧ l = .int .i64 (lastB bs k) ∧ Hid (bindErr ar 0 bs = bindErr ar (lastB bs k) (bs.drop k)) ∧ Below w1.heap.size w1 wr) (fun _ i _ => bs.length - (intOf i).toNat)
    case atStart => exact ⟨0, Nat.zero_le _, rfl, rfl, rfl, Below.refl _ _⟩
    case round =>
      obtain ⟨k, hk, rfl, rfl, HL, hb⟩ := hrel
      have hzr := hb.size
      have hbR : Below w.heap.size w wr := hbw.trans (hb.mono (by omega))
      by_cases hlt : k < bs.length
      · have hin' := Binds_below hb (Binds_below hbw hin)
        have Hg' := hide (Ints_below hb (Ints_below hbw hg))
        obtain ⟨b, off, rfl⟩ := Binds_some hin (by omega)
        obtain ⟨x, hx⟩ : ∃ x, bs[k]? = some x := ⟨bs[k], List.getElem?_eq_getElem hlt⟩
        obtain ⟨a1, cap1, _, c0, c1, c2, c3, hin1⟩ := Binds_at hin' hx
        have Hst := hide (HL.out.trans (bindErr_step hx))
        have Hls := hide (lastB_succ hx)
        have cg' : wr.cell? ⟨w.heap.size, 0, none⟩ = some (.slice ga ar.length gcap) := cell_below hb cg
        have hgw : w.heap.size < wr.heap.size := by omega
        have hkI : (k : Int) < bs.length := by omega
        have hk0 : (0 : Int) ≤ k := by omega
        have HC := hide (fun o => Check_any ar ga gcap x.2 a1 cap1 (wr.alloc o) (Ints_alloc o Hg'.out) (InP_alloc o (InP_imp (q := fun _ => True) (fun _ _ => trivial) hin1)))
        have HbA := hide (fun o => hbR.alloc (show w.heap.size ≤ wr.heap.size by omega) o)
        have HbB := hide (fun o => hb.alloc hzr o)
        have hbb := lt_of_cell c0
        clear hx HL hin hin' hin1
        by_cases h1 : x.1 < 1
        · rw [if_pos (Or.inl h1)] at Hst
          go_wp2_with fail
          go_ret
          exact ⟨ret_int (by rw [Hfin.out, Hst.out]), HbA.out _⟩
        · by_cases h2 : 1000 < x.1
          · rw [if_pos (Or.inr h2)] at Hst
            go_wp2_with fail
            go_ret
            exact ⟨ret_int (by rw [Hfin.out, Hst.out]), HbA.out _⟩
          · rw [if_neg (by omega)] at Hst
            by_cases h3 : x.1 ≤ lastB bs k
            · rw [if_pos h3] at Hst
              go_wp2_with fail
              go_ret
              exact ⟨ret_int (by rw [Hfin.out, Hst.out]), HbA.out _⟩
            · rw [if_neg h3] at Hst
              go_wp2_with fail
              refine (HC.out _).mono ?_
              rintro e w2 ⟨rfl, hb2⟩
              rw [Hone.out]
              have hz2 := hb2.size
              rw [World.size_alloc] at hz2
              have Hb2 := hide ((HbB.out _).trans (hb2.mono (by rw [World.size_alloc]; omega)))
              have Hb3 := hide ((HbA.out _).trans (hb2.mono (by rw [World.size_alloc]; omega)))
              have d0 : w2.cell? ⟨wr.heap.size, 0, none⟩ = some (.int .i64 x.1) := cell_below hb2 (by rw [cell_new 0 rfl]; rfl)
              clear HC HbA HbB hb2
              by_cases h4 : termErr ar x.2 = 0
              · rw [if_pos h4] at Hst
                rw [h4]
                clear h4
                go_wp2_with fail
                go_roundw
                case rel => exact ⟨k + 1, by omega, by go_num, by rw [Hls.out], by rw [Hls.out]; exact Hst.out, Hb2.out⟩
                case measure => simp [intOf]; omega
              · rw [if_neg h4] at Hst
                have h4' : (termErr ar x.2 != 0) = true := by simpa using h4
                clear h4
                go_wp2_with fail
                go_ret
                exact ⟨ret_int (by rw [Hfin.out, Hst.out]), Hb3.out⟩
      · have hk2 : k = bs.length := by omega
        subst hk2
        have Hek : Hid (bindErr ar 0 bs = 0) := by show _ = _; rw [HL.out, List.drop_length]; rfl
        clear HL
        go_wp2_with fail
        go_ret
        exact ⟨ret_int (by rw [Hfin.out, Hek.out]), hbR⟩
  · have hfin : bindsErr ar bs = sigErr ar := by rw [bindsErr, if_neg hs]
    have Hfin := hide hfin
    have hs1 : (sigErr ar != 0) = true := by simpa using hs
    clear hfin hs
    generalize sigErr ar = sg at *
    go_wp2_with fail
    go_ret
    exact ⟨ret_int Hfin.out.symm, hbw⟩

end Go.Proofs.Ytbkedppkdhfpoaa
