/- The program's own matching: by a map that grows. What lies there while a term's parts are added to the unifier, and what is added. What a term is, by the program. The shelf at this seat: the keys of a map, sorted. The keys of a map, sorted. Variables that are numbered anew, in a term of the program's own. Does a clause hold, by which things its variables are: the program's closures. -/
import Derived.BigQuiet
import Derived.Deep.AppendLies
import Derived.Deep.DeepCutAuto
import Derived.Deep.RegionHeld3
import Derived.Ground.GgzProg
import Derived.Laws.AppendOwnNone
import Derived.Maps.AppendAt
import Derived.Shelf.SlIterI.Nil
import Derived.Test.YtbkedppkdhfpoabGreatProg
import Derived.Test.YtbkedppkdhfpoabGreatJoined5
namespace Go.Proofs.YtbkedppkdhfpoabGreat
open Go.RowKit Go.Maps

/-- Block b is a map that holds these bindings, whose terms lie in blocks of which q holds. -/
def MB (q : Nat → Prop) (b : Nat) (bs : List (Int × T)) (w : World) : Prop := (∃ f, MapAt w b bs.length f ∧ BMap q w bs f) ∧ ∀ v u, (v, u) ∈ bs → u.sz ≤ 1000
theorem MB.lt {q : Nat → Prop} {b : Nat} {bs : List (Int × T)} {w : World} (h : MB q b bs w) : b < w.heap.size := by obtain ⟨⟨f, hM, _⟩, _⟩ := h; exact hM.lt
theorem MB.below {q : Nat → Prop} {b : Nat} {bs : List (Int × T)} {w w' : World} (h : MB q b bs w) (hb : Below w.heap.size w w') : MB q b bs w' := by
  obtain ⟨⟨f, hM, hB⟩, hs⟩ := h
  exact ⟨⟨f, hM.below hb, hB.mono (fun j _ hj => hb.block j hj)⟩, hs⟩
/-- What lies in cells lies in no map's block. -/
theorem InP_notmap {p : Nat → Prop} {w : World} {b n : Nat} {f : Int → Option Value} {ts : List T} {a : Option Addr} (hM : MapAt w b n f) (h : InP p w ts a) : InP (fun k => p k ∧ k ≠ b) w ts a :=
  InP_mono (fun b' o v hp hv => ⟨⟨hp, fun e => by
    obtain ⟨D, ⟨es, clock, h1, _⟩, _⟩ := hM
    subst e
    unfold World.cell? at hv
    rw [h1] at hv
    cases hv⟩, hv⟩) _ _ _ (Nat.le_refl _) h
theorem InP_grown {p : Nat → Prop} {w w' : World} {b : Nat} {ts : List T} {a : Option Addr} (hg : w.grownBy w' (some b)) (h : InP (fun k => p k ∧ k ≠ b) w ts a) : InP (fun k => p k ∧ k ≠ b) w' ts a :=
  InP_same (fun k hk hl => hg.block k hl (fun e => hk.2 (by cases e; rfl))) h
theorem MB.notmap {q : Nat → Prop} {b : Nat} {bs : List (Int × T)} {w : World} {p : Nat → Prop} {ts : List T} {a : Option Addr} (hM : MB q b bs w) (h : InP p w ts a) : InP (fun k => p k ∧ k ≠ b) w ts a := by
  obtain ⟨⟨f, hM, _⟩, _⟩ := hM; exact InP_notmap hM h
theorem eg282 (args : Array Value) (w : World) : (callFunc 282 args).run Tryz.prog w = .ok (.enter 282 args) w := by kernel_rfl

set_option maxRecDepth 100000 in
set_option maxHeartbeats 1000000 in
theorem equalMatch_any (q : Nat → Prop) (b n : Nat) (ar : List Int)
    (hc : ∀ (p t : T) (pa : Option Addr) (pc : Nat) (ta : Option Addr) (tc : Nat) (bs : List (Int × T)) (w : World), p.sz ≤ n → bs.length + p.sz ≤ 100000 → okP ar p → t.sz ≤ 1000 → MB q b bs w → InL w p.args pa → InP q w t.args ta →
      Calls Tryz.prog 282 #[.map (some b), .agg #[.int .i64 p.v, .int .i64 p.f, .slice pa p.args.length pc], .agg #[.int .i64 t.v, .int .i64 t.f, .slice ta t.args.length tc]] w fun e w' => e = .returned (.bool (growT p t bs).isSome) ∧ w.grownBy w' (some b) ∧ ∀ b2, growT p t bs = some b2 → MB q b b2 w')
    (ps ts : List T) (pa : Option Addr) (pc : Nat) (ta : Option Addr) (tc : Nat) (bs : List (Int × T)) (w : World) (hn : T.sz.szL ps ≤ n) (h1000 : bs.length + T.sz.szL ps ≤ 100000) (hok : okP.okL ar ps) (hts : T.sz.szL ts ≤ 1000) (hM : MB q b bs w) (hin : InL w ps pa) (hin2 : InP q w ts ta) :
    Calls Tryz.prog 107 #[.slice pa ps.length pc, .slice ta ts.length tc, .func (.func 282) #[.map (some b)] #[]] w fun e w' => e = .returned (.bool (growT.growL ps ts bs).isSome) ∧ w.grownBy w' (some b) ∧ ∀ b2, growT.growL ps ts bs = some b2 → MB q b b2 w' := by
  have Hc := hide hc
  have Hin := hide (hM.notmap hin)
  have Hin2 := hide (hM.notmap hin2)
  have HM := hide hM
  have Hok := hide hok
  have e72 := eg282
  have hpl := T.length_le ps
  clear hc hin hin2 hM hok
  by_cases h3 : ps.length = ts.length
  · have e3 : ((ps.length : Int) != ts.length) = false := by simp; omega
    have H3 := hide h3
    clear h3
    go_enter Tryz.func107, Tryz.ntmps107
    go_wp2_with fail
    go_loopw [17] (fun i wr => ∃ (k : Nat) (bk : List (Int × T)), k ≤ ps.length ∧ i = .int .i64 k ∧ Hid (growT.growL (ps.take k) (ts.take k) bs = some bk) ∧ MB q b bk wr ∧ w.grownBy wr (some b)) (fun i _ => ps.length - (intOf i).toNat)
    case atStart => exact ⟨0, bs, Nat.zero_le _, rfl, rfl, HM.out, ⟨rfl, rfl, rfl, Nat.le_refl _, fun _ _ _ => rfl⟩⟩
    case round =>
      obtain ⟨k, bk, hk, rfl, HL, hMr, hgr⟩ := hrel
      have HMr := hide hMr
      have Hgr := hide hgr
      have hzr := hgr.size
      clear hMr hgr
      by_cases hlt : k < ps.length
      · have hlt2 : k < ts.length := by have := H3.out; omega
        have hinr := InP_grown Hgr.out Hin.out
        have hinr2 := InP_grown Hgr.out Hin2.out
        obtain ⟨b1, off1, rfl⟩ := InP_some hinr (by omega)
        obtain ⟨b2, off2, rfl⟩ := InP_some hinr2 (by omega)
        obtain ⟨x, hx⟩ : ∃ x, ps[k]? = some x := ⟨ps[k], List.getElem?_eq_getElem hlt⟩
        obtain ⟨y, hy⟩ : ∃ y, ts[k]? = some y := ⟨ts[k], List.getElem?_eq_getElem hlt2⟩
        obtain ⟨a3, cap3, _, k0, k1, k2, hinx⟩ := InP_at hinr hx
        obtain ⟨a4, cap4, _, m0, m1, m2, hiny⟩ := InP_at hinr2 hy
        obtain ⟨hs1, hs2⟩ := szL_take hx
        have hxe := T.sz_eq x
        have hyt := T.szL_mem (List.mem_of_getElem? hy)
        have hbk := (grow_size _).2 _ _ _ _ (Nat.le_refl _) HL.out
        have Hst := hide (growL_step H3.out hx hy HL.out)
        have Hxo := hide (okL_mem.1 Hok.out x (List.mem_of_getElem? hx))
        have hkI : (k : Int) < ps.length := by omega
        have hkJ : (k : Int) < ts.length := by omega
        have hk0 : (0 : Int) ≤ k := by omega
        have hk3 : k ≤ 100000 := by omega
        have hb1 := lt_of_cell k0
        have hb2 := lt_of_cell m0
        have Hx := hide (fun o1 o2 => Hc.out x y a3 cap3 a4 cap4 bk ((wr.alloc o1).alloc o2) (by omega) (by omega) Hxo.out (by omega) (HMr.out.below (below2 wr o1 o2)) (InP_imp (q := fun _ => True) (fun _ _ => trivial) (InP_alloc o2 (InP_alloc o1 hinx))) (InP_imp (fun _ h => h.1) (InP_alloc o2 (InP_alloc o1 hiny))))
        have HgA := hide (fun o1 o2 => Hgr.out.trans (show wr.grownBy ((wr.alloc o1).alloc o2) (some b) from ⟨rfl, rfl, rfl, by simp; omega, fun i hi _ => (below2 wr o1 o2).block i hi⟩))
        clear hx hy hinx hiny hinr hinr2 HL
        go_wp2_with fail
        refine (Hx.out _ _).mono ?_
        rintro e w3 ⟨rfl, hg3, hM3⟩
        have Hg3 := hide ((HgA.out _ _).trans hg3)
        have HM3 := hide hM3
        clear hg3 hM3 HgA Hx
        cases hgt : growT x y bk with
        | some bk2 =>
          have Hgo := hide (Hst.out.1 bk2 hgt)
          have HMk := hide (HM3.out bk2 hgt)
          clear Hst HM3 hgt
          simp only [Option.isSome_some]
          go_wp2_with fail
          go_roundw
          case rel => exact ⟨k + 1, bk2, by omega, by go_num, Hgo.out, HMk.out, Hg3.out⟩
          case measure => simp [intOf]; omega
        | none =>
          have Hfin := hide (Hst.out.2 hgt)
          clear Hst HM3 hgt
          simp only [Option.isSome_none]
          go_wp2_with fail
          go_ret
          exact ⟨ret_bool (by rw [Hfin.out]; rfl), Hg3.out, fun b2 h => by rw [Hfin.out] at h; cases h⟩
      · have hk2 : k = ps.length := by omega
        subst hk2
        have Hfin : Hid (growT.growL ps ts bs = some bk) := by
          have h5 := HL.out
          rw [List.take_length, show ps.length = ts.length from H3.out, List.take_length] at h5
          exact h5
        clear HL
        go_wp2_with fail
        go_ret
        exact ⟨ret_bool (by rw [Hfin.out]; rfl), Hgr.out, fun b2 h => by rw [Hfin.out] at h; cases h; exact HMr.out⟩
  · have hfin : growT.growL ps ts bs = none := growL_length h3
    have e3 : ((ps.length : Int) != ts.length) = true := by simp; omega
    have Hfin := hide hfin
    clear hfin h3
    go_enter Tryz.func107, Tryz.ntmps107
    go_wp2_with fail
    go_ret
    exact ⟨ret_bool (by rw [Hfin.out]; rfl), ⟨rfl, rfl, rfl, Nat.le_refl _, fun _ _ _ => rfl⟩, fun b2 h => by rw [Hfin.out] at h; cases h⟩

theorem grown_allocs2 (w : World) (b : Nat) (o1 o2 : Obj) : w.grownBy ((w.alloc o1).alloc o2) (some b) := ⟨rfl, rfl, rfl, by simp; omega, fun i hi _ => (below2 w o1 o2).block i hi⟩
theorem grown_of_below {w w' : World} (b : Nat) (h : Below w.heap.size w w') : w.grownBy w' (some b) := ⟨h.os, h.tape, h.output, h.size, fun i hi _ => h.block i hi⟩

set_option maxRecDepth 100000 in
set_option maxHeartbeats 1000000 in
theorem match_any (ar : List Int) (q : Nat → Prop) (b : Nat) (hqb : ¬ q b) (N : Nat) : ∀ (p t : T) (pa : Option Addr) (pc : Nat) (ta : Option Addr) (tc : Nat) (bs : List (Int × T)) (w : World), p.sz ≤ N → bs.length + p.sz ≤ 100000 → okP ar p → t.sz ≤ 1000 → MB q b bs w → InL w p.args pa → InP q w t.args ta →
      Calls Tryz.prog 282 #[.map (some b), .agg #[.int .i64 p.v, .int .i64 p.f, .slice pa p.args.length pc], .agg #[.int .i64 t.v, .int .i64 t.f, .slice ta t.args.length tc]] w fun e w' => e = .returned (.bool (growT p t bs).isSome) ∧ w.grownBy w' (some b) ∧ ∀ b2, growT p t bs = some b2 → MB q b b2 w' := by
  induction N with
  | zero => intro p t pa pc ta tc bs w hN; have := p.sz_pos; omega
  | succ N ih =>
    intro p t pa pc ta tc bs w hN h1000 hok ht hM hin hin2
    have hpe := T.sz_eq p
    have hte := T.sz_eq t
    have hbl := hM.lt
    have HM := hide hM
    by_cases hv : p.v = 0
    · have e0 : (p.v == 0) = true := by simpa using hv
      by_cases h1 : t.v = 0
      · have e1 : (t.v == 0) = true := by simpa using h1
        by_cases h2 : p.f = t.f
        · have e2 : (p.f == t.f) = true := by simpa using h2
          have Hfin : Hid (growT p t bs = growT.growL p.args t.args bs) := by show _ = _; rw [growT_eq, if_neg (by simp [hv]), if_neg (by simp [h1, h2])]
          have HE := hide (fun o1 o2 => equalMatch_any q b N ar (fun p' t' pa' pc' ta' tc' bs' w' hn' hl' ho' ht' hM' hi' hi2' => ih p' t' pa' pc' ta' tc' bs' w' hn' hl' ho' ht' hM' hi' hi2') p.args t.args pa pc ta tc bs ((w.alloc o1).alloc o2) (by omega) (by omega) (okP_iff.1 hok).2 (by omega) (hM.below (below2 w o1 o2)) (InP_alloc o2 (InP_alloc o1 hin)) (InP_alloc o2 (InP_alloc o1 hin2)))
          clear hv h1 h2 ih hM hok
          rw [Hfin.out]
          go_enter Tryz.func282, Tryz.ntmps282
          go_wp2_with fail
          refine (HE.out _ _).mono ?_
          rintro e w1 ⟨rfl, hg1, hM1⟩
          have Hg1 := hide ((grown_allocs2 w b _ _).trans hg1)
          have HM1 := hide hM1
          clear hg1 hM1
          go_wp2_with fail
          go_ret
          exact ⟨rfl, Hg1.out, HM1.out⟩
        · have e2 : (p.f == t.f) = false := by simpa using h2
          have Hfin : Hid (growT p t bs = none) := by show _ = _; rw [growT_eq, if_neg (by simp [hv]), if_pos (Or.inr h2)]
          clear hv h1 h2 ih hM hok
          rw [Hfin.out]
          go_enter Tryz.func282, Tryz.ntmps282
          go_wp2_with fail
          go_ret
          exact ⟨rfl, grown_allocs2 w b _ _, fun b2 h => by cases h⟩
      · have e1 : (t.v == 0) = false := by simpa using h1
        have Hfin : Hid (growT p t bs = none) := by show _ = _; rw [growT_eq, if_neg (by simp [hv]), if_pos (Or.inl h1)]
        clear hv h1 ih hM hok
        rw [Hfin.out]
        go_enter Tryz.func282, Tryz.ntmps282
        go_wp2_with fail
        go_ret
        exact ⟨rfl, grown_allocs2 w b _ _, fun b2 h => by cases h⟩
    · have e0 : (p.v == 0) = false := by simpa using hv
      have hv1 : 1 ≤ p.v ∧ p.v ≤ 1000 := by
        have h1 := (okP_iff.1 hok).1
        rw [partErr, if_pos hv] at h1
        by_cases h2 : p.v < 1 ∨ 1000 < p.v
        · rw [if_pos h2] at h1; cases h1
        · omega
      obtain ⟨⟨f, hMf, hBf⟩, hsz⟩ := HM.out
      have hlook := fun o1 o2 => (hMf.below (below2 w o1 o2)).look_ok (t := 319) Tryz.underlying319 (Tryz.zero77 _) (k := p.v) (by omega) (by omega)
      cases hlk : lookB bs p.v with
      | some u =>
        obtain ⟨a1, cap1, hf, hin1⟩ := (hBf p.v).2 u hlk
        have husz := hsz _ _ (lookB_mem hlk)
        have Hfin : Hid (growT p t bs = if sameT u t then some bs else none) := by show _ = _; rw [growT_eq, if_pos hv, hlk]
        rw [hf] at hlook
        have HS := hide (fun o1 o2 o3 => treeSame_any 1000 u t a1 cap1 ta tc (((w.alloc o1).alloc o2).alloc o3) husz husz (InP_imp (q := fun _ => True) (fun _ _ => trivial) (InP_below (below3 w o1 o2 o3) hin1)) (InP_imp (q := fun _ => True) (fun _ _ => trivial) (InP_below (below3 w o1 o2 o3) hin2)))
        clear hlk hf hin1 hv ih hM hok hMf hBf hsz
        go_enter Tryz.func282, Tryz.ntmps282
        go_wp2_with fail
        refine (HS.out _ _ _).mono ?_
        rintro e w1 ⟨rfl, hb1⟩
        have Hb1 := hide ((below3 w _ _ _).trans (hb1.mono (by simp; omega)))
        clear hb1 hlook
        go_wp2_with fail
        go_ret
        refine ⟨ret_bool (by rw [Hfin.out]; cases sameT u t <;> rfl), grown_of_below b Hb1.out, fun b2 h => ?_⟩
        rw [Hfin.out] at h
        cases hs : sameT u t with
        | true => rw [hs] at h; simp at h; rw [← h]; exact HM.out.below Hb1.out
        | false => rw [hs] at h; simp at h
      | none =>
        have hf := (hBf p.v).1 hlk
        have Hfin : Hid (growT p t bs = some (bs ++ [(p.v, t)])) := by show _ = _; rw [growT_eq, if_pos hv, hlk]
        have Hlk := hide hlk
        have Hin2 := hide (HM.out.notmap hin2)
        have HBf := hide hBf
        have Hsz := hide hsz
        rw [hf] at hlook
        clear hlk hf hv ih hM hok hBf hsz
        go_enter Tryz.func282, Tryz.ntmps282
        go_wp2_with (at_mapUpdate; refine wpList_store_map _ rfl _ _ _ 319 rfl 77 Tryz.underlying319 b bs.length f rfl (hMf.below (below3 _ _ _ _)) (by unfold maxLen; omega) p.v (.agg #[.int .i64 t.v, .int .i64 t.f, .slice ta t.args.length tc]) (by first | rfl | simp [go_sem]) (by first | rfl | simp [go_sem]) (by omega) (by omega) ?_; intro w2 hM2 hg2)
        go_ret
        have hgw : w.grownBy w2 (some b) := (grown_of_below b (below3 w _ _ _)).trans hg2
        refine ⟨ret_bool (by rw [Hfin.out]; rfl), hgw, fun b2 h => ?_⟩
        rw [Hfin.out] at h
        simp only [Option.some.injEq] at h
        subst h
        have hkeep : ∀ j, q j → j < w.heap.size → w2.heap[j]? = w.heap[j]? := fun j hj hl => hgw.block j hl (fun e => by cases e; exact hqb hj)
        refine ⟨⟨_, by rw [List.length_append]; exact hM2, fun v => ?_⟩, fun v u hm => ?_⟩
        · rw [lookB_snoc]
          by_cases ev : v = p.v
          · subst ev
            rw [Hlk.out]
            simp only [if_true]
            refine ⟨fun h => (by cases h), fun u hu => ?_⟩
            obtain rfl : t = u := by simpa using hu
            exact ⟨ta, tc, rfl, InP_same hkeep hin2⟩
          · simp only [if_neg ev]
            have ev2 : ¬ p.v = v := fun e => ev e.symm
            cases hl : lookB bs v with
            | none => simp only [if_neg ev2]; exact ⟨fun _ => (HBf.out v).1 hl, fun u hu => by cases hu⟩
            | some u =>
              refine ⟨fun h => (by cases h), fun u' hu' => ?_⟩
              obtain rfl : u = u' := by simpa using hu'
              obtain ⟨a5, c5, g1, g2⟩ := (HBf.out v).2 u hl
              exact ⟨a5, c5, g1, InP_same hkeep g2⟩
        · rcases List.mem_append.1 hm with hm | hm
          · exact Hsz.out v u hm
          · simp at hm; rw [hm.2]; exact ht

end Go.Proofs.YtbkedppkdhfpoabGreat

namespace Go.Proofs.YtbkedppkdhfpoabGreat
open Go.RowKit Go.Maps

theorem Tryz.zeroI (w : World) : (zeroValue 3).run Tryz.prog w = .ok (.int .i64 0) w := by kernel_rfl
end Go.Proofs.YtbkedppkdhfpoabGreat

namespace Go.Proofs.YtbkedppkdhfpoabGreat
open Go.RowKit

/-- A map that tells which thing each variable is. -/
def IsAt (w : World) (b m : Nat) (g : Int → Option Int) : Prop := MapAt w b m (fun k => (g k).map (Value.int .i64))
theorem IsAt.below {w w' : World} {b m : Nat} {g : Int → Option Int} (h : IsAt w b m g) (hb : Below w.heap.size w w') : IsAt w' b m g := MapAt.below h hb
theorem getD_int (g : Int → Option Int) (k : Int) : (((g k).map (Value.int .i64)).getD (.int .i64 0)) = .int .i64 ((g k).getD 0) := by cases g k <;> rfl
attribute [local go_sem ↓] Go.wp_at_zero Go.wp_at_succ
end Go.Proofs.YtbkedppkdhfpoabGreat

namespace Go.Proofs
open Go.Shelf
def Tryz.keysB_ren : Go.Shelf.Ren := ⟨fun | 7 => 306 | 10 => 315 | n => n, fun | 23 => 319 | 26 => 3 | 3 => 77 | 28 => 284 | 0 => 0 | 27 => 283 | 33 => 214 | 4 => 4 | n => n, fun | n => n⟩
theorem Tryz.keysB : Go.Proofs.SlLaysZI.n7 Tryz.prog Tryz.keysB_ren := {
  mixed := by kernel_rfl
  f7 := ⟨Tryz.f306.name, by decide, Tryz.func306.trans (congrArg some (by kernel_rfl))⟩
  f10 := ⟨Tryz.f315.name, by decide, Tryz.func315.trans (congrArg some (by kernel_rfl))⟩
  t0 := Tryz.underlying0
  a0 := Tryz.isAgg0
  z0 := Tryz.sizeOf0
  v0 := Tryz.zeroValue0
  t4 := Tryz.underlying4
  a4 := Tryz.isAgg4
  z4 := Tryz.sizeOf4
  v4 := Tryz.zeroValue4
  t23 := Tryz.underlying319
  a23 := Tryz.isAgg319
  z23 := Tryz.sizeOf319
  v23 := Tryz.zeroValue319
  t26 := Tryz.underlying3
  a26 := Tryz.isAgg3
  z26 := Tryz.sizeOf3
  v26 := Tryz.zeroValue3
  t27 := Tryz.underlying283
  a27 := Tryz.isAgg283
  z27 := Tryz.sizeOf283
  v27 := Tryz.zeroValue283
  t28 := Tryz.underlying284
  a28 := Tryz.isAgg284
  z28 := Tryz.sizeOf284
  v28 := Tryz.zeroValue284
  t33 := Tryz.underlying214
  a33 := Tryz.isAgg214
  z33 := Tryz.sizeOf214
  v33 := Tryz.zeroValue214 }
def Tryz.keysI_ren : Go.Shelf.Ren := ⟨fun | 7 => 288 | 10 => 307 | n => n, fun | 23 => 106 | 26 => 3 | 3 => 3 | 28 => 284 | 0 => 0 | 27 => 283 | 33 => 214 | 4 => 4 | n => n, fun | n => n⟩
theorem Tryz.keysI : Go.Proofs.SlLaysZI.n7 Tryz.prog Tryz.keysI_ren := {
  mixed := by kernel_rfl
  f7 := ⟨Tryz.f288.name, by decide, Tryz.func288.trans (congrArg some (by kernel_rfl))⟩
  f10 := ⟨Tryz.f307.name, by decide, Tryz.func307.trans (congrArg some (by kernel_rfl))⟩
  t0 := Tryz.underlying0
  a0 := Tryz.isAgg0
  z0 := Tryz.sizeOf0
  v0 := Tryz.zeroValue0
  t4 := Tryz.underlying4
  a4 := Tryz.isAgg4
  z4 := Tryz.sizeOf4
  v4 := Tryz.zeroValue4
  t23 := Tryz.underlying106
  a23 := Tryz.isAgg106
  z23 := Tryz.sizeOf106
  v23 := Tryz.zeroValue106
  t26 := Tryz.underlying3
  a26 := Tryz.isAgg3
  z26 := Tryz.sizeOf3
  v26 := Tryz.zeroValue3
  t27 := Tryz.underlying283
  a27 := Tryz.isAgg283
  z27 := Tryz.sizeOf283
  v27 := Tryz.zeroValue283
  t28 := Tryz.underlying284
  a28 := Tryz.isAgg284
  z28 := Tryz.sizeOf284
  v28 := Tryz.zeroValue284
  t33 := Tryz.underlying214
  a33 := Tryz.isAgg214
  z33 := Tryz.sizeOf214
  v33 := Tryz.zeroValue214 }
def Tryz.sortedB_ren : Go.Shelf.Ren := ⟨fun | 6 => 240 | 8 => 272 | 9 => 130 | 11 => 302 | 13 => 173 | 12 => 172 | 23 => 222 | 24 => 223 | 14 => 213 | 15 => 214 | 16 => 215 | 17 => 216 | 18 => 217 | 19 => 218 | 20 => 219 | 21 => 220 | 22 => 221 | 25 => 252 | 26 => 253 | 27 => 254 | 28 => 255 | 29 => 256 | 30 => 257 | 31 => 285 | n => n, fun | 26 => 3 | 28 => 284 | 24 => 22 | 0 => 0 | 3 => 3 | 37 => 218 | 48 => 267 | 50 => 269 | 4 => 4 | 40 => 260 | 39 => 259 | 45 => 264 | 5 => 5 | 9 => 9 | 51 => 290 | 55 => 294 | 57 => 321 | 58 => 322 | 33 => 214 | n => n, fun | n => n⟩
theorem Tryz.sortedB : Go.Proofs.SlLaysZI.n6 Tryz.prog Tryz.sortedB_ren := {
  mixed := by kernel_rfl
  f6 := ⟨Tryz.f240.name, by decide, Tryz.func240.trans (congrArg some (by kernel_rfl))⟩
  f8 := ⟨Tryz.f272.name, by decide, Tryz.func272.trans (congrArg some (by kernel_rfl))⟩
  f11 := ⟨Tryz.f302.name, by decide, Tryz.func302.trans (congrArg some (by kernel_rfl))⟩
  t0 := Tryz.underlying0
  a0 := Tryz.isAgg0
  z0 := Tryz.sizeOf0
  v0 := Tryz.zeroValue0
  t24 := Tryz.underlying22
  a24 := Tryz.isAgg22
  z24 := Tryz.sizeOf22
  v24 := Tryz.zeroValue22
  t26 := Tryz.underlying3
  a26 := Tryz.isAgg3
  z26 := Tryz.sizeOf3
  v26 := Tryz.zeroValue3
  t28 := Tryz.underlying284
  a28 := Tryz.isAgg284
  z28 := Tryz.sizeOf284
  v28 := Tryz.zeroValue284
  i26 := by kernel_rfl }
end Go.Proofs

namespace Go.Proofs.YtbkedppkdhfpoabGreat
open Go.RowKit Go.Maps Go.Sort Go.Shelf

theorem sorts_any (m : Nat) : AnyZI.SortsIn Tryz.prog Tryz.sortedB_ren Fence.wide m :=
  ⟨fun blk off cap ss W hH hblk hsz => callsIn_wide.2 (Go.Proofs.Tryz.slices_Sort_int blk off cap ss W hH hblk hsz),
   fun p cap W => callsIn_wide.2 (Go.Proofs.Tryz.slices_Sort_int_none p cap W)⟩

theorem keys_perm {w : World} {b n : Nat} {D : DataW Value} {f : Int → Option Value} (hD : w.ownsMap Tryz.prog 3 Rv b n D) (hf : ∀ k : Int, Maps.has D (.int .i64 k) = (f k).isSome ∧ ∀ v, f k = some v → ∀ z, D.atKey (.int .i64 k) z = .held v)
    {K : List Int} (hnd : K.Nodup) (hK : ∀ x, x ∈ K ↔ (f x).isSome = true) : K.Perm (intKeys D) :=
  CollectedI.perm (left := fun _ => false) ⟨hnd, fun x => by rw [hK x, (hf x).1]; simp⟩ hD Tryz.key3 Tryz.underlying3 (fun _ => rfl)

theorem keysB_any (mb : Option Nat) (w : World) : Calls Tryz.prog 306 #[.map mb] w fun e w' => e = .returned (.func (.func 315) #[] #[.pointer (some ⟨w.heap.size, 0, none⟩)]) ∧ w' = w.alloc (.cells #[.map mb] 319) :=
  (callsIn_wide (n := 5)).1 (AnyZI.keys_in Tryz.keysB Fence.wide 5 trivial rfl mb w)
/-- What slices.Sorted makes of an iterator over the keys K. -/
theorem sorted_of (g : Nat) (eg : ∀ args w, (callFunc g args).run Tryz.prog w = .ok (.enter g args) w) (Bm : Nat) (w : World) (K : List Int) (D : DataW Value) (N : Nat) (hN : N ≤ 100000) (hp : K.Perm (intKeys D))
    (hseq : SeqGives Fence.wide 2 Tryz.prog g #[.pointer (some ⟨Bm, 0, none⟩)] encZ (fun ss => ss.Perm (intKeys D)) N w) :
    Calls Tryz.prog 240 #[.func (.func g) #[] #[.pointer (some ⟨Bm, 0, none⟩)]] w fun e w' => ∃ v, e = .returned v ∧ OwnI w.heap.size w' v (K.mergeSort (fun x y => decide (x ≤ y))) ∧ Below w.heap.size w w' := by
  refine (callsIn_wide (n := 5)).1 ?_
  have cS := AnyZI.sorted_in Tryz.sortedB Fence.wide 5 trivial trivial trivial trivial rfl (by omega) (sorts_any _) (enters_of Tryz.func130 (by kernel_rfl) rfl) g #[.pointer (some ⟨Bm, 0, none⟩)] trivial eg _ N (by unfold maxLen; omega) (by omega) _ hseq
  change CallsIn _ _ Tryz.prog 240 _ _ _ at cS
  refine cS.mono ?_
  rintro e w' ⟨v, ss, rfl, hS, hrow, _, hb⟩
  have hpp : ss.Perm K := hS.trans hp.symm
  have e1 := mergeSort_of_perm_i hpp
  rw [show (fun x y : Int => decide (x ≤ y)) = leI from rfl, e1] at hrow
  have e2 : ss.length = (K.mergeSort leI).length := by rw [List.length_mergeSort, hpp.length_eq]
  rw [e2] at hrow
  exact ⟨v, rfl, hrow, hb⟩

theorem sortedB_any (b n : Nat) (f : Int → Option Value) (K : List Int) (hn : n ≤ 100000) (hnd : K.Nodup) (hK : ∀ x, x ∈ K ↔ (f x).isSome = true) (Bm : Nat) (w : World) (hM : MapAt w b n f) (hc : w.cell? ⟨Bm, 0, none⟩ = some (.map (some b))) :
    Calls Tryz.prog 240 #[.func (.func 315) #[] #[.pointer (some ⟨Bm, 0, none⟩)]] w fun e w' => ∃ v, e = .returned v ∧ OwnI w.heap.size w' v (K.mergeSort (fun x y => decide (x ≤ y))) ∧ Below w.heap.size w w' := by
  obtain ⟨D, hD, hf⟩ := hM
  have hsz := hD.size_le
  exact sorted_of 315 (enters_of Tryz.func315 (by kernel_rfl) rfl) Bm w K D (Maps.size D) (by omega) (keys_perm hD hf hnd hK)
    (AnyZI.keys_gives (ρ := Tryz.keysB_ren) { Tryz.keysB with } Fence.wide _ trivial rfl (by omega) Bm b n D w (lt_of_cell hc) hc hD)
end Go.Proofs.YtbkedppkdhfpoabGreat

namespace Go.Proofs.YtbkedppkdhfpoabGreat
open Go.RowKit Go.Maps

/-- The number that a variable has, once some have theirs. -/
def numF (ns : List Int) (v : Int) : Option Int := if v ∈ ns then some ((ns.idxOf v : Int) + 1) else none
def numL (v : Int) (ns : List Int) : List Int := if v = 0 ∨ v ∈ ns then ns else ns ++ [v]
def numV (v : Int) (ns : List Int) : Int := if v = 0 then 0 else ((numL v ns).idxOf v : Int) + 1
/-- A term whose variables are numbered anew, behind some that are. -/
def giveT : T → List Int → T × List Int
  | ⟨v, f, args⟩, ns => (⟨numV v ns, f, (giveL args (numL v ns)).1⟩, (giveL args (numL v ns)).2)
  where
  giveL : List T → List Int → List T × List Int
    | [], ns => ([], ns)
    | t :: ts, ns => ((giveT t ns).1 :: (giveL ts (giveT t ns).2).1, (giveL ts (giveT t ns).2).2)
theorem giveT_eq (t : T) (ns : List Int) : giveT t ns = (⟨numV t.v ns, t.f, (giveT.giveL t.args (numL t.v ns)).1⟩, (giveT.giveL t.args (numL t.v ns)).2) := by cases t; rfl
theorem giveL_snoc (x : T) : ∀ (ts : List T) (ns : List Int), giveT.giveL (ts ++ [x]) ns = ((giveT.giveL ts ns).1 ++ [(giveT x (giveT.giveL ts ns).2).1], (giveT x (giveT.giveL ts ns).2).2) := by
  intro ts
  induction ts with
  | nil => intro ns; rfl
  | cons t ts ih =>
    intro ns
    show ((giveT t ns).1 :: (giveT.giveL (ts ++ [x]) (giveT t ns).2).1, (giveT.giveL (ts ++ [x]) (giveT t ns).2).2) = _
    rw [ih]; rfl
theorem giveL_step {ts : List T} {k : Nat} {x : T} (h : ts[k]? = some x) (ns : List Int) : giveT.giveL (ts.take (k + 1)) ns = ((giveT.giveL (ts.take k) ns).1 ++ [(giveT x (giveT.giveL (ts.take k) ns).2).1], (giveT x (giveT.giveL (ts.take k) ns).2).2) := by
  rw [List.take_add_one, h]; exact giveL_snoc x _ ns
theorem giveL_length : ∀ (ts : List T) (ns : List Int), (giveT.giveL ts ns).1.length = ts.length := by
  intro ts
  induction ts with
  | nil => intro ns; rfl
  | cons t ts ih => intro ns; show (_ :: (giveT.giveL ts (giveT t ns).2).1).length = _; rw [List.length_cons, ih, List.length_cons]
theorem numL_nodup {v : Int} {ns : List Int} (h : ns.Nodup) : (numL v ns).Nodup := by
  rw [numL]
  split
  · exact h
  · rename_i h1
    rw [List.nodup_append]
    refine ⟨h, by simp, fun a ha b hb e => ?_⟩
    simp at hb
    exact h1 (Or.inr (by rw [← hb, ← e]; exact ha))
theorem numL_len (v : Int) (ns : List Int) : (numL v ns).length ≤ ns.length + 1 := by
  rw [numL]; split
  · omega
  · simp
theorem give_grow : ∀ (n : Nat), (∀ (t : T) (ns : List Int), t.sz ≤ n → ns.Nodup → (giveT t ns).2.Nodup ∧ (giveT t ns).2.length ≤ ns.length + t.sz) ∧ (∀ (ts : List T) (ns : List Int), T.sz.szL ts ≤ n → ns.Nodup → (giveT.giveL ts ns).2.Nodup ∧ (giveT.giveL ts ns).2.length ≤ ns.length + T.sz.szL ts) := by
  intro n
  induction n with
  | zero =>
    refine ⟨fun t ns h => by have := t.sz_pos; omega, fun ts ns h hn => ?_⟩
    cases ts with
    | nil => exact ⟨hn, Nat.le_add_right _ _⟩
    | cons t ts => have := t.sz_pos; rw [T.szL_cons] at h; omega
  | succ n ih =>
    have h1 : ∀ (t : T) (ns : List Int), t.sz ≤ n + 1 → ns.Nodup → (giveT t ns).2.Nodup ∧ (giveT t ns).2.length ≤ ns.length + t.sz := fun t ns h hn => by
      have he := T.sz_eq t
      rw [giveT_eq]
      have h2 := ih.2 t.args (numL t.v ns) (by omega) (numL_nodup hn)
      have h3 := numL_len t.v ns
      exact ⟨h2.1, by simp only; omega⟩
    refine ⟨h1, fun ts => ?_⟩
    induction ts with
    | nil => intro ns _ hn; exact ⟨hn, Nat.le_add_right _ _⟩
    | cons t ts iht =>
      intro ns h hn
      rw [T.szL_cons] at h ⊢
      have a1 := h1 t ns (by omega) hn
      have a2 := iht (giveT t ns).2 (by omega) a1.1
      exact ⟨a2.1, by show (giveT.giveL ts (giveT t ns).2).2.length ≤ _; omega⟩
theorem numF_new {ns : List Int} {v : Int} (h0 : v ≠ 0) (hv : v ∉ ns) (k : Int) : numF (ns ++ [v]) k = if k = v then some ((ns.length : Int) + 1) else numF ns k := by
  rw [numF]
  by_cases e : k = v
  · subst e
    rw [if_pos (by simp), if_pos rfl, List.idxOf_append, if_neg hv]
    simp
  · rw [if_neg e, numF]
    by_cases hk : k ∈ ns
    · rw [if_pos (by simp [hk]), if_pos hk, List.idxOf_append, if_pos hk]
    · rw [if_neg (by simp [hk, e]), if_neg hk]
theorem map_len {w : World} {b n : Nat} {ns : List Int} (h : IsAt w b n (numF ns)) (hn : ns.Nodup) {t e : TypeId} (ht : Tryz.prog.underlying t = some (.map 3 e)) (ty : TypeId) : (Builtin.len_ #[t] ty #[.map (some b)]).run Tryz.prog w = .ok (.int .i64 (ns.length : Nat)) w := by
  obtain ⟨D, hD, hf⟩ := h
  have hp := keys_perm hD hf hn (fun x => by rw [numF]; split <;> simp_all)
  have e1 : Maps.size D = ns.length := by
    rw [hp.length_eq]
    obtain ⟨es, rfl⟩ := hD.isMap
    simp [intKeys, Maps.size]
  rw [hD.len ht ty, e1]

/-- One of the arguments, and what it leaves if it alone is changed. -/
theorem OwnL_open {w : World} : ∀ {ts : List T} {b off : Nat} {B : List Nat} {k : Nat} {x : T}, OwnL w ts b off B → ts[k]? = some x → B.Nodup →
    ∃ s Bk, w.cell? ⟨b, off + k * 3, none⟩ = some (.int .i64 x.v) ∧ w.cell? ⟨b, off + k * 3 + 1, none⟩ = some (.int .i64 x.f) ∧ w.cell? ⟨b, off + k * 3 + 2, none⟩ = some s ∧ x.Own w s Bk ∧ (∀ j, j ∈ Bk → j ∈ B) ∧ Bk.Nodup ∧
      ∀ (w' : World) (x' : T), w'.cell? ⟨b, off + k * 3, none⟩ = some (.int .i64 x'.v) → w'.cell? ⟨b, off + k * 3 + 1, none⟩ = some (.int .i64 x'.f) → w'.cell? ⟨b, off + k * 3 + 2, none⟩ = some s → x'.Own w' s Bk →
        (∀ j, (j < off + k * 3 ∨ off + k * 3 + 2 < j) → w'.cell? ⟨b, j, none⟩ = w.cell? ⟨b, j, none⟩) → (∀ i, i ∈ B → i ∉ Bk → w'.heap[i]? = w.heap[i]?) → OwnL w' (ts.set k x') b off B := by
  intro ts
  induction ts with
  | nil => intro b off B k x _ h; simp at h
  | cons t ts ih =>
    intro b off B k x h hk hn
    obtain ⟨s, Bt, Br, rfl, h0, h1, h2, hown, hr⟩ := OwnL_cons.1 h
    rw [List.nodup_append] at hn
    cases k with
    | zero =>
      simp at hk; subst hk
      refine ⟨s, Bt, by simpa using h0, by simpa using h1, by simpa using h2, hown, fun j hj => List.mem_append_left _ hj, hn.1, fun w' x' g0 g1 g2 go gc gh => ?_⟩
      refine OwnL_cons.2 ⟨s, Bt, Br, rfl, by simpa using g0, by simpa using g1, by simpa using g2, go, ?_⟩
      exact OwnL_mono _ ts b (off + 3) Br (Nat.le_refl _) (fun i hi => gh i (List.mem_append_right _ hi) (fun hb => hn.2.2 i hb i hi rfl)) (fun j hj _ => gc j (by omega)) hr
    | succ k =>
      obtain ⟨s', Bk, a0, a1, a2, a3, a4, a5, a6⟩ := ih hr (by simpa using hk) hn.2.1
      have e : off + 3 + k * 3 = off + (k + 1) * 3 := by omega
      rw [e] at a0 a1 a2 a6
      refine ⟨s', Bk, a0, a1, a2, a3, fun j hj => List.mem_append_right _ (a4 j hj), a5, fun w' x' g0 g1 g2 go gc gh => ?_⟩
      refine OwnL_cons.2 ⟨s, Bt, Br, rfl, by rw [gc off (by omega)]; exact h0, by rw [gc (off + 1) (by omega)]; exact h1, by rw [gc (off + 2) (by omega)]; exact h2, Own_mono (fun i hi => gh i (List.mem_append_left _ hi) (fun hb => hn.2.2 i hi i (a4 i hb) rfl)) hown, ?_⟩
      exact a6 w' x' g0 g1 g2 go gc (fun i hi hb => gh i (List.mem_append_right _ hi) hb)

/-- What has changed: some blocks, a map, and a cell. -/
structure Chg (w w' : World) (B : List Nat) (mb pb po : Nat) : Prop where
  os : w'.os = w.os
  tape : w'.tape = w.tape
  output : w'.output = w.output
  size : w.heap.size ≤ w'.heap.size
  block : ∀ k, k < w.heap.size → k ≠ pb → k ≠ mb → k ∉ B → w'.heap[k]? = w.heap[k]?
  cell : ∀ j, j ≠ po → w'.cell? ⟨pb, j, none⟩ = w.cell? ⟨pb, j, none⟩
  fr : ∀ j, w'.frozen? ⟨pb, j, none⟩ = w.frozen? ⟨pb, j, none⟩
theorem Chg.refl (w : World) (B : List Nat) (mb pb po : Nat) : Chg w w B mb pb po := ⟨rfl, rfl, rfl, Nat.le_refl _, fun _ _ _ _ _ => rfl, fun _ _ => rfl, fun _ => rfl⟩
theorem Chg.below {w w' : World} {B : List Nat} {mb pb po n : Nat} (h : Chg w w' B mb pb po) (hn : n ≤ w.heap.size) (h1 : n ≤ pb) (h2 : n ≤ mb) (h3 : ∀ k, k ∈ B → n ≤ k) : Below n w w' :=
  ⟨h.os, h.tape, h.output, h.size, fun k hk => h.block k (by omega) (by omega) (by omega) (fun hb => by have := h3 k hb; omega)⟩
theorem Tryz.under143 : Tryz.prog.underlying 143 = some (.map 3 3) := by kernel_rfl
theorem eg103 (args : Array Value) (w : World) : (callFunc 103 args).run Tryz.prog w = .ok (.enter 103 args) w := by kernel_rfl

/-- The three cells of a term that may be written. -/
structure Tc (w : World) (pb po : Nat) (v f : Int) (s : Value) : Prop where
  e0 : w.cell? ⟨pb, po, none⟩ = some (.int .i64 v)
  e1 : w.cell? ⟨pb, po + 1, none⟩ = some (.int .i64 f)
  e2 : w.cell? ⟨pb, po + 2, none⟩ = some s
  fr : ∀ j, w.frozen? ⟨pb, j, none⟩ = false

theorem Tc.same {w w' : World} {pb po : Nat} {v f : Int} {s : Value} (h : Tc w pb po v f s) (hs : w'.heap[pb]? = w.heap[pb]?) : Tc w' pb po v f s :=
  ⟨by rw [World.cell?_of_block (w := w) (a := ⟨pb, po, none⟩) hs]; exact h.e0, by rw [World.cell?_of_block (w := w) (a := ⟨pb, po + 1, none⟩) hs]; exact h.e1, by rw [World.cell?_of_block (w := w) (a := ⟨pb, po + 2, none⟩) hs]; exact h.e2, fun j => by rw [World.frozen?_of_block (w := w) (a := ⟨pb, j, none⟩) hs]; exact h.fr j⟩
theorem Tc.set {w : World} {pb po : Nat} {v f : Int} {s : Value} (h : Tc w pb po v f s) (x : Int) : Tc (w.setCell ⟨pb, po, none⟩ (.int .i64 x)) pb po x f s :=
  ⟨World.cell?_setCell_same _ _ _ h.e0, by rw [World.cell?_setCell_other _ _ _ _ (fun e => by injection e with _ e; omega)]; exact h.e1, by rw [World.cell?_setCell_other _ _ _ _ (fun e => by injection e with _ e; omega)]; exact h.e2, fun j => by rw [World.frozen?_setCell]; exact h.fr j⟩
theorem Chg.set {w w' : World} {B : List Nat} {mb pb po : Nat} (h : Chg w w' B mb pb po) (x : Value) : Chg w (w'.setCell ⟨pb, po, none⟩ x) B mb pb po :=
  ⟨h.os, h.tape, h.output, by rw [World.size_setCell]; exact h.size, fun k hk h1 h2 h3 => by rw [Below.heap_setCell _ _ _ _ h1]; exact h.block k hk h1 h2 h3, fun j hj => by rw [World.cell?_setCell_other _ _ _ _ (fun e => by injection e with _ e; exact hj e.symm)]; exact h.cell j hj, fun j => by rw [World.frozen?_setCell]; exact h.fr j⟩
theorem Chg.grown {w w' : World} {mb pb po : Nat} (h : w.grownBy w' (some mb)) (hp : pb < w.heap.size) (hne : mb ≠ pb) (B : List Nat) : Chg w w' B mb pb po := by
  have hb : w'.heap[pb]? = w.heap[pb]? := h.block pb hp (fun e => hne (by injection e with e; exact e.symm))
  exact ⟨h.os, h.tape, h.output, h.size, fun k hk _ h2 _ => h.block k hk (fun e => h2 (by injection e)), fun j _ => World.cell?_of_block (w := w) (a := ⟨pb, j, none⟩) hb, fun j => World.frozen?_of_block (w := w) (a := ⟨pb, j, none⟩) hb⟩
theorem IsAt.set {w : World} {b m : Nat} {g : Int → Option Int} (h : IsAt w b m g) {pb po : Nat} (hne : b ≠ pb) (x : Value) : IsAt (w.setCell ⟨pb, po, none⟩ x) b m g := MapAt.same h (Below.heap_setCell _ _ _ _ hne)
theorem numV_of {v : Int} {ns : List Int} (h0 : v ≠ 0) : numF (numL v ns) v = some (numV v ns) := by
  have hm : v ∈ numL v ns := by
    rw [numL]; split
    · rename_i h; rcases h with h | h
      · exact absurd h h0
      · exact h
    · simp
  rw [numF, if_pos hm, numV, if_neg h0]
theorem numV_le {v : Int} {ns : List Int} (h : ns.length ≤ 100000) : 0 ≤ numV v ns ∧ numV v ns ≤ 200000 := by
  rw [numV]
  split
  · omega
  · have h1 := List.idxOf_le_length (a := v) (l := numL v ns)
    have h2 := numL_len v ns
    omega

/-- What stands while arguments are gone through. -/
structure GL (w wr : World) (mb pb po m : Nat) (args : List T) (ns1 : List Int) (nv f : Int) (s : Value) (b : Nat) (B' : List Nat) (k : Nat) : Prop where
  own : OwnL wr ((giveT.giveL (args.take k) ns1).1 ++ args.drop k) b 0 B'
  map : ∃ m', m' ≤ m + 1 + T.sz.szL (args.take k) ∧ IsAt wr mb m' (numF (giveT.giveL (args.take k) ns1).2)
  chg : Chg w wr (b :: B') mb pb po
  tc : Tc wr pb po nv f s
  fr : ∀ j, wr.frozen? ⟨b, j, none⟩ = false
theorem szL_take_step {ts : List T} {k : Nat} {x : T} (h : ts[k]? = some x) : T.sz.szL (ts.take (k + 1)) = T.sz.szL (ts.take k) + x.sz := by
  rw [List.take_add_one, h]
  have : ∀ (a : List T), T.sz.szL (a ++ [x]) = T.sz.szL a + x.sz := fun a => by
    induction a with
    | nil => rw [List.nil_append, T.szL_cons, T.szL_nil]; omega
    | cons y a ih => rw [List.cons_append, T.szL_cons, T.szL_cons, ih]; omega
  exact this _
theorem szL_take_all {ts : List T} {k : Nat} {x : T} (h : ts[k]? = some x) : T.sz.szL (ts.take k) + x.sz ≤ T.sz.szL ts := by
  have h1 := szL_take_step h
  have h2 : ∀ (l : List T) (j : Nat), T.sz.szL (l.take j) ≤ T.sz.szL l := by
    intro l
    induction l with
    | nil => intro j; simp
    | cons y l ih =>
      intro j
      cases j with
      | zero => rw [List.take_zero, T.szL_nil]; omega
      | succ j => rw [List.take_succ_cons, T.szL_cons, T.szL_cons]; have := ih j; omega
  have := h2 ts (k + 1)
  omega
theorem GL.step {w wr w2 : World} {mb pb po m : Nat} {args : List T} {ns1 : List Int} {nv f : Int} {s : Value} {b : Nat} {B' : List Nat} {k : Nat} {x : T} {s' : Value} {Bk : List Nat} (h : GL w wr mb pb po m args ns1 nv f s b B' k) (hx : args[k]? = some x) (hBn : (b :: B').Nodup) (hpB : pb ∉ b :: B') (hmB : mb ∉ b :: B') (hmp : mb ≠ pb) (hpl : pb < wr.heap.size) (hBl : ∀ j, j ∈ b :: B' → j < wr.heap.size)
    (hsub : ∀ j, j ∈ Bk → j ∈ B') (hre : ∀ (w' : World) (x' : T), w'.cell? ⟨b, 0 + k * 3, none⟩ = some (.int .i64 x'.v) → w'.cell? ⟨b, 0 + k * 3 + 1, none⟩ = some (.int .i64 x'.f) → w'.cell? ⟨b, 0 + k * 3 + 2, none⟩ = some s' → x'.Own w' s' Bk →
        (∀ j, (j < 0 + k * 3 ∨ 0 + k * 3 + 2 < j) → w'.cell? ⟨b, j, none⟩ = wr.cell? ⟨b, j, none⟩) → (∀ i, i ∈ B' → i ∉ Bk → w'.heap[i]? = wr.heap[i]?) → OwnL w' (((giveT.giveL (args.take k) ns1).1 ++ args.drop k).set k x') b 0 B')
    (g1 : Tc w2 b (k * 3) (giveT x (giveT.giveL (args.take k) ns1).2).1.v (giveT x (giveT.giveL (args.take k) ns1).2).1.f s') (g2 : (giveT x (giveT.giveL (args.take k) ns1).2).1.Own w2 s' Bk) (g3 : ∃ m', m' ≤ m + 1 + T.sz.szL (args.take k) + x.sz ∧ IsAt w2 mb m' (numF (giveT x (giveT.giveL (args.take k) ns1).2).2)) (g4 : Chg wr w2 Bk mb b (k * 3)) :
    GL w w2 mb pb po m args ns1 nv f s b B' (k + 1) := by
  have hlt := (List.getElem?_eq_some_iff.1 hx).1
  have hlen : (giveT.giveL (args.take k) ns1).1.length = k := by rw [giveL_length, List.length_take]; omega
  have hbp : b ≠ pb := fun e => hpB (by rw [e]; exact List.mem_cons_self)
  have hpk : w2.heap[pb]? = wr.heap[pb]? := g4.block pb hpl (fun e => hbp e.symm) (fun e => hmp e.symm) (fun hj => hpB (List.mem_cons_of_mem _ (hsub pb hj)))
  rw [List.nodup_cons] at hBn
  refine ⟨?_, ?_, ⟨g4.os.trans h.chg.os, g4.tape.trans h.chg.tape, g4.output.trans h.chg.output, Nat.le_trans h.chg.size g4.size, fun j hj h1 h2 h3 => ?_, fun j hj => ?_, fun j => ?_⟩, h.tc.same hpk, fun j => by rw [g4.fr j]; exact h.fr j⟩
  · have hset : ((giveT.giveL (args.take k) ns1).1 ++ args.drop k).set k (giveT x (giveT.giveL (args.take k) ns1).2).1 = (giveT.giveL (args.take (k + 1)) ns1).1 ++ args.drop (k + 1) := by
      rw [giveL_step hx, List.drop_eq_getElem_cons hlt, List.append_assoc]
      have : ∀ (A R : List T) (y z : T), A.length = k → (A ++ y :: R).set k z = A ++ ([z] ++ R) := fun A R y z hA => by
        rw [List.set_append, if_neg (by omega), hA, Nat.sub_self]; rfl
      exact this _ _ _ _ hlen
    rw [← hset]
    refine hre w2 _ (by rw [Nat.zero_add]; exact g1.e0) (by rw [Nat.zero_add]; exact g1.e1) (by rw [Nat.zero_add]; exact g1.e2) g2 (fun j hj => g4.cell j (by omega)) (fun i hi hik => g4.block i (hBl i (List.mem_cons_of_mem _ hi)) (fun e => hBn.1 (by rw [← e]; exact hi)) (fun e => hmB (by rw [← e]; exact List.mem_cons_of_mem _ hi)) hik)
  · obtain ⟨m', h1, h2⟩ := g3
    rw [giveL_step hx]
    exact ⟨m', by rw [szL_take_step hx]; omega, h2⟩
  · rw [List.mem_cons, not_or] at h3
    have hjr : j < wr.heap.size := Nat.lt_of_lt_of_le hj h.chg.size
    rw [g4.block j hjr h3.1 h2 (fun hk => h3.2 (hsub j hk))]
    exact h.chg.block j hj h1 h2 (by rw [List.mem_cons, not_or]; exact h3)
  · rw [World.cell?_of_block (w := wr) (a := ⟨pb, j, none⟩) hpk]; exact h.chg.cell j hj
  · rw [World.frozen?_of_block (w := wr) (a := ⟨pb, j, none⟩) hpk]; exact h.chg.fr j

attribute [local go_sem ↓] Go.wp_at_zero Go.wp_at_succ
set_option maxRecDepth 100000 in
set_option maxHeartbeats 2000000 in
theorem give_any (mb : Nat) (N : Nat) : ∀ (t : T) (s : Value) (B : List Nat) (pb po m : Nat) (ns : List Int) (w : World), t.sz ≤ N → t.sz ≤ 1000 → (∀ x, x ∈ parts t → 0 ≤ x.v ∧ x.v ≤ 1000) → Tc w pb po t.v t.f s → t.Own w s B → B.Nodup → pb ∉ B → mb ∉ B → mb ≠ pb → IsAt w mb m (numF ns) → ns.Nodup → ns.length + t.sz ≤ 100000 → m + t.sz ≤ 100000 → (∀ k, k ∈ B → k < w.heap.size) →
    Calls Tryz.prog 103 #[.map (some mb), .pointer (some ⟨pb, po, none⟩)] w fun e w' => e = .returned (.tuple #[]) ∧ Tc w' pb po (giveT t ns).1.v (giveT t ns).1.f s ∧ (giveT t ns).1.Own w' s B ∧ (∃ m', m' ≤ m + t.sz ∧ IsAt w' mb m' (numF (giveT t ns).2)) ∧ Chg w w' B mb pb po := by
  induction N with
  | zero => intro t s B pb po m ns w h; have := t.sz_pos; omega
  | succ N ih =>
    intro t s B pb po m ns w hN h1000 hpv htc hown hBn hpB hmB hmp hM hns hnl hml hBl
    have hts := T.sz_eq t
    have hv := hpv t (parts_self t)
    obtain ⟨p0, p1, p2, pf⟩ := htc
    have HM := hide hM
    have Hown := hide hown
    have Hih := hide ih
    have Hpv := hide hpv
    have hMl := hM.lt
    have hpl := lt_of_cell p0
    have eg := eg103
    clear hM hown ih hpv
    go_enter Tryz.func103, Tryz.ntmps103
    go_upto_if 9 with fail
    go_cut [9] (fun v9 wc => Hid (Tc wc pb po (numV t.v ns) t.f s ∧ (∃ m1, m1 ≤ m + 1 ∧ IsAt wc mb m1 (numF (numL t.v ns))) ∧ Chg w wc [] mb pb po))
    case first =>
      by_cases hv0 : t.v = 0
      · have hn0 : numV t.v ns = 0 := by rw [numV, if_pos hv0]
        have hl0 : numL t.v ns = ns := by rw [numL, if_pos (Or.inl hv0)]
        have Hfin : Hid (Tc w pb po (numV t.v ns) t.f s ∧ (∃ m1, m1 ≤ m + 1 ∧ IsAt w mb m1 (numF (numL t.v ns))) ∧ Chg w w [] mb pb po) := by
          rw [hn0, hl0]
          exact ⟨⟨by rw [← hv0]; exact p0, p1, p2, pf⟩, ⟨m, by omega, HM.out⟩, Chg.refl _ _ _ _ _⟩
        clear hn0 hl0
        go_wp2_with fail
        go_meet
        exact Hfin
      · have hlook := MapAt.look HM.out (t := 143) Tryz.under143 (Tryz.zeroI _) (k := t.v) (by omega) (by omega)
        rw [getD_int] at hlook
        have hnv := numV_of (ns := ns) hv0
        have hnle := numV_le (v := t.v) (ns := ns) (by omega)
        obtain ⟨X, hX⟩ : ∃ X, X = numV t.v ns := ⟨_, rfl⟩
        by_cases hin : t.v ∈ ns
        · have hl0 : numL t.v ns = ns := by rw [numL, if_pos (Or.inr hin)]
          rw [hl0] at hnv
          rw [hnv, ← hX] at hlook
          have hX1 : 1 ≤ X := by rw [hX, numV, if_neg hv0]; omega
          have e1 : (X == 0) = false := by simp; omega
          have e2 : X ≠ 0 := by omega
          have Hfin : Hid (Tc (w.setCell ⟨pb, po, none⟩ (.int .i64 X)) pb po (numV t.v ns) t.f s ∧ (∃ m1, m1 ≤ m + 1 ∧ IsAt (w.setCell ⟨pb, po, none⟩ (.int .i64 X)) mb m1 (numF (numL t.v ns))) ∧ Chg w (w.setCell ⟨pb, po, none⟩ (.int .i64 X)) [] mb pb po) := by
            rw [hl0, ← hX]
            exact ⟨Tc.set ⟨p0, p1, p2, pf⟩ X, ⟨m, by omega, HM.out.set hmp _⟩, (Chg.refl _ _ _ _ _).set _⟩
          clear hX hnv hl0 hin
          simp only [Option.getD_some] at hlook
          go_wp2_with fail
          go_meet
          exact Hfin
        · have hl0 : numL t.v ns = ns ++ [t.v] := by rw [numL, if_neg (fun h => h.elim hv0 hin)]
          have hf0 : numF ns t.v = none := by rw [numF, if_neg hin]
          rw [hf0] at hlook
          simp only [Option.getD_none] at hlook
          have hX1 : X = (ns.length : Int) + 1 := by rw [hX, numV, if_neg hv0, hl0, List.idxOf_append, if_neg hin]; simp
          have hMd : IsAt w.drew mb m (numF ns) := MapAt.same HM.out rfl
          have hlen := fun ty => map_len hMd hns (t := 143) Tryz.under143 ty
          obtain ⟨w7, hrun, hM7, hg7⟩ := MapAt.store hMd (t := 143) Tryz.under143 (show m < maxLen by unfold maxLen; omega) (k := t.v) (by omega) (by omega) (.int .i64 ((ns.length : Int) + 1))
          have hM7' : IsAt w7 mb (m + 1) (numF (numL t.v ns)) := by
            have hfe : (fun k => (numF (numL t.v ns) k).map (Value.int .i64)) = (fun j => if j = t.v then some (Value.int .i64 ((ns.length : Int) + 1)) else (numF ns j).map (Value.int .i64)) := funext fun k => by
              rw [hl0, numF_new hv0 hin]
              by_cases e : k = t.v
              · rw [if_pos e, if_pos e]; rfl
              · rw [if_neg e, if_neg e]
            unfold IsAt
            rw [hfe]
            exact hM7
          have hlook7 := MapAt.look hM7' (t := 143) Tryz.under143 (Tryz.zeroI _) (k := t.v) (by omega) (by omega)
          rw [getD_int, hnv, ← hX] at hlook7
          simp only [Option.getD_some] at hlook7
          have hg7' : w.grownBy w7 (some mb) := ⟨hg7.os, hg7.tape, hg7.output, hg7.size, hg7.block⟩
          have hpb : w7.heap[pb]? = w.heap[pb]? := hg7'.block pb hpl (fun e => hmp (by injection e with e; exact e.symm))
          have htc7 : Tc w7 pb po t.v t.f s := Tc.same ⟨p0, p1, p2, pf⟩ hpb
          have Hfin : Hid (Tc (w7.setCell ⟨pb, po, none⟩ (.int .i64 X)) pb po (numV t.v ns) t.f s ∧ (∃ m1, m1 ≤ m + 1 ∧ IsAt (w7.setCell ⟨pb, po, none⟩ (.int .i64 X)) mb m1 (numF (numL t.v ns))) ∧ Chg w (w7.setCell ⟨pb, po, none⟩ (.int .i64 X)) [] mb pb po) := by
            rw [← hX]
            exact ⟨htc7.set X, ⟨m + 1, by omega, hM7'.set hmp _⟩, (Chg.grown hg7' hpl hmp []).set _⟩
          obtain ⟨r0, r1, r2, rf⟩ := htc7
          have d0 : w.drew.cell? ⟨pb, po, none⟩ = some (.int .i64 t.v) := p0
          have hX2 : X ≠ 0 := by omega
          clear hX hnv hl0 hin hf0 hM7 hM7' hg7 hg7' hpb hMd hX1
          go_wp2_with fail
          go_region
          all_goals
            go_wp2_with fail
            go_meet
            exact Hfin
    case rest =>
      obtain ⟨htc1, ⟨m1, hm1, hM1⟩, hch⟩ := Hid.out hcut
      obtain ⟨nv, hnv⟩ : ∃ nv, nv = numV t.v ns := ⟨_, rfl⟩
      obtain ⟨ns1, hns1⟩ : ∃ n1, n1 = numL t.v ns := ⟨_, rfl⟩
      rw [← hnv] at htc1
      rw [← hns1] at hM1
      have hown1 : t.Own wc s B := Own_mono (fun k hk => hch.block k (hBl k hk) (fun e => hpB (by rw [← e]; exact hk)) (fun e => hmB (by rw [← e]; exact hk)) (by simp)) Hown.out
      have hns1n : ns1.Nodup := by rw [hns1]; exact numL_nodup hns
      have hns1l : ns1.length ≤ ns.length + 1 := by rw [hns1]; exact numL_len _ _
      have HG : Hid (giveT t ns = (⟨nv, t.f, (giveT.giveL t.args ns1).1⟩, (giveT.giveL t.args ns1).2)) := by show _ = _; rw [giveT_eq, ← hnv, ← hns1]
      have hplc : pb < wc.heap.size := Nat.lt_of_lt_of_le hpl hch.size
      have hBlc : ∀ k, k ∈ B → k < wc.heap.size := fun k hk => Nat.lt_of_lt_of_le (hBl k hk) hch.size
      clear hcut p0 p1 p2 pf Hown HM hnv hns1
      rcases Own_iff.1 hown1 with ⟨ha, rfl, rfl⟩ | ⟨hne, b, B', rfl, rfl, hfr, hOL⟩
      · obtain ⟨p0, p1, p2, pf⟩ := htc1
        have Hfin : Hid (Tc wc pb po (giveT t ns).1.v (giveT t ns).1.f (.slice none 0 0) ∧ (giveT t ns).1.Own wc (.slice none 0 0) [] ∧ (∃ m', m' ≤ m + t.sz ∧ IsAt wc mb m' (numF (giveT t ns).2)) ∧ Chg w wc [] mb pb po) := by
          rw [HG.out, ha]
          have := t.sz_pos
          exact ⟨⟨p0, p1, p2, pf⟩, Own_iff.2 (Or.inl ⟨rfl, rfl, rfl⟩), ⟨m1, by omega, hM1⟩, hch⟩
        clear hM1 hch HG hts
        go_wp2_with fail
        go_loopw [39] (fun i wr => i = .int .i64 0 ∧ Hid (wr = wc)) (fun _ _ => 0)
        case atStart => exact ⟨rfl, rfl⟩
        case round =>
          obtain ⟨rfl, hwr⟩ := hrel
          obtain rfl := (show wc = _ from Eq.symm hwr)
          go_wp2_with fail
          go_end0
          exact ⟨rfl, Hfin.out⟩
      · have hal : t.args.length ≤ 1000 := by have := T.length_le t.args; omega
        have HL0 : Hid (GL w wc mb pb po m t.args ns1 nv t.f (.slice (some ⟨b, 0, none⟩) t.args.length t.args.length) b B' 0) := by
          refine ⟨hOL, ⟨m1, by rw [List.take_zero, T.szL_nil]; omega, hM1⟩, ⟨hch.os, hch.tape, hch.output, hch.size, fun j hj h1 h2 _ => hch.block j hj h1 h2 (by simp), hch.cell, hch.fr⟩, htc1, hfr⟩
        have HBn := hide hBn
        have HpB := hide hpB
        have HmB := hide hmB
        obtain ⟨p0, p1, p2, pf⟩ := htc1
        clear hM1 hch hOL hown1 hBn hpB hmB
        go_wp2_with fail
        go_loopw [39] (fun i wr => ∃ k : Nat, k ≤ t.args.length ∧ i = .int .i64 (k : Int) ∧ Hid (GL w wr mb pb po m t.args ns1 nv t.f (.slice (some ⟨b, 0, none⟩) t.args.length t.args.length) b B' k) ∧ Hid (wc.heap.size ≤ wr.heap.size)) (fun i _ => t.args.length - (intOf i).toNat)
        case atStart => exact ⟨0, Nat.zero_le _, rfl, HL0, Nat.le_refl _⟩
        case round =>
          obtain ⟨k, hk, rfl, hgl, hzr⟩ := hrel
          have HGL := hide (Hid.out hgl)
          have Hzr := hide (Hid.out hzr)
          clear hgl hzr
          by_cases hlt : k < t.args.length
          · obtain ⟨x, hx⟩ : ∃ x, t.args[k]? = some x := ⟨t.args[k], List.getElem?_eq_getElem hlt⟩
            have hlen : (giveT.giveL (t.args.take k) ns1).1.length = k := by rw [giveL_length, List.length_take]; omega
            have hxa : ((giveT.giveL (t.args.take k) ns1).1 ++ t.args.drop k)[k]? = some x := by
              rw [List.getElem?_append_right (by omega), hlen, Nat.sub_self, List.getElem?_drop, Nat.add_zero]; exact hx
            have hBn2 := HBn.out
            rw [List.nodup_cons] at hBn2
            obtain ⟨s', Bk, a0, a1, a2, a3, a4, a5, a6⟩ := OwnL_open HGL.out.own hxa hBn2.2
            obtain ⟨m2, hm2, hM2⟩ := HGL.out.map
            have hxm := List.mem_of_getElem? hx
            have hxs := arg_sz hxm
            have hst := szL_take_all hx
            have hgr := (give_grow (T.sz.szL (t.args.take k))).2 (t.args.take k) ns1 (Nat.le_refl _) hns1n
            have hzr2 := Hzr.out
            have HR := hide (Hih.out x s' Bk b (k * 3) m2 (giveT.giveL (t.args.take k) ns1).2 wr (by omega) (by omega) (fun y hy => Hpv.out y (parts_arg hxm hy)) ⟨by rw [Nat.zero_add] at a0; exact a0, by rw [Nat.zero_add] at a1; exact a1, by rw [Nat.zero_add] at a2; exact a2, HGL.out.fr⟩ a3 a5 (fun hj => hBn2.1 (a4 b hj)) (fun hj => HmB.out (List.mem_cons_of_mem _ (a4 mb hj))) (fun e => HmB.out (by rw [e]; exact List.mem_cons_self)) hM2 hgr.1 (by omega) (by omega) (fun j hj => by have := hBlc j (List.mem_cons_of_mem _ (a4 j hj)); omega))
            have HSt := hide (fun (w2 : World) => GL.step (w2 := w2) HGL.out hx HBn.out HpB.out HmB.out hmp (by omega) (fun j hj => by have := hBlc j hj; omega) a4 a6)
            obtain ⟨q0, q1, q2, qf⟩ := HGL.out.tc
            have hkI : (k : Int) < t.args.length := by omega
            have hk0 : (0 : Int) ≤ k := by omega
            have Hm2 := hide hm2
            clear a0 a1 a2 a3 a4 a5 a6 hM2 hx hxa hlen hBn2 hm2 hxm hgr
            go_wp2_with fail
            refine HR.out.mono ?_
            rintro e w2 ⟨rfl, g1, g2, ⟨m3, hm3, hM3⟩, g4⟩
            have HN := hide (HSt.out w2 g1 g2 ⟨m3, by have := Hm2.out; omega, hM3⟩ g4)
            have Hz2 := hide (Nat.le_trans Hzr.out g4.size)
            clear HR HSt g1 g2 hM3 g4 q0 q1 q2 qf
            go_wp2_with fail
            go_roundw
            case rel => exact ⟨k + 1, by omega, by go_num, HN, Hz2⟩
            case measure => simp [intOf]; omega
          · have hk2 : k = t.args.length := by omega
            subst hk2
            have hgl := HGL.out
            obtain ⟨h1, ⟨m2, h2, h3⟩, h4, h5, h6⟩ := hgl
            rw [List.take_length, List.drop_length, List.append_nil] at h1
            rw [List.take_length] at h2 h3
            have Hfin : Hid (Tc wr pb po (giveT t ns).1.v (giveT t ns).1.f (.slice (some ⟨b, 0, none⟩) t.args.length t.args.length) ∧ (giveT t ns).1.Own wr (.slice (some ⟨b, 0, none⟩) t.args.length t.args.length) (b :: B') ∧ (∃ m', m' ≤ m + t.sz ∧ IsAt wr mb m' (numF (giveT t ns).2)) ∧ Chg w wr (b :: B') mb pb po) := by
              rw [HG.out]
              refine ⟨h5, Own_iff.2 (Or.inr ⟨fun e => hne ?_, b, B', by simp only; rw [giveL_length], rfl, h6, h1⟩), ⟨m2, by omega, h3⟩, h4⟩
              have := giveL_length t.args ns1
              rw [show (giveT.giveL t.args ns1).1 = [] from e] at this
              exact List.length_eq_zero_iff.1 this.symm
            clear h1 h2 h3 h4 h5 h6
            go_wp2_with fail
            go_end0
            exact ⟨rfl, Hfin.out⟩
end Go.Proofs.YtbkedppkdhfpoabGreat

namespace Go.Proofs.YtbkedppkdhfpoabGreat
open Go.RowKit

/-- Literals that are right. -/
def LitsOk (ar : List Int) (c : List Lit) : Prop := ∀ x, x ∈ c → (x.2.1.sz ≤ 120 ∧ okP ar x.2.1) ∧ (x.2.2.sz ≤ 120 ∧ okP ar x.2.2)
theorem litsErr_ok {ar : List Int} : ∀ {c : List Lit}, litsErr ar c = 0 → LitsOk ar c := by
  intro c
  induction c with
  | nil => intro _ x hx; cases hx
  | cons y c ih =>
    intro h x hx
    rw [litsErr] at h
    by_cases h1 : termErr ar y.2.1 = 0
    · rw [if_pos h1] at h
      by_cases h2 : termErr ar y.2.2 = 0
      · rw [if_pos h2] at h
        rcases List.mem_cons.1 hx with rfl | hx
        · exact ⟨termErr_iff.1 h1, termErr_iff.1 h2⟩
        · exact ih h x hx
      · rw [if_neg h2] at h; exact absurd h h2
    · rw [if_neg h1] at h; exact absurd h h1

attribute [local go_sem ↓] Go.wp_at_zero Go.wp_at_succ
/-- What the closures lean on. -/
structure HS (ar : List Int) (n : Int) (ls : List (List Int)) (ta : Option Addr) (tc b bi bm : Nat) (c : List Lit) (ca : Option Addr) (w : World) (m : Nat) (g : Int → Option Int) : Prop where
  mo : MOk ar n ls
  ok : LitsOk ar c
  len : c.length ≤ 8
  rng : ∀ k, 0 ≤ (g k).getD 0 ∧ (g k).getD 0 < n
  map : IsAt w b m g
  tabs : TabsP w ls ta
  lits : LitsP w c ca
  ci : w.cell? ⟨bi, 0, none⟩ = some (.map (some b))
  cn : w.cell? ⟨bm, 0, none⟩ = some (.int .i64 n)
  ct : w.cell? ⟨bm, 1, none⟩ = some (.slice ta ls.length tc)
theorem HS.below {ar : List Int} {n : Int} {ls : List (List Int)} {ta : Option Addr} {tc b bi bm : Nat} {c : List Lit} {ca : Option Addr} {w w' : World} {m : Nat} {g : Int → Option Int} (h : HS ar n ls ta tc b bi bm c ca w m g) (hb : Below w.heap.size w w') : HS ar n ls ta tc b bi bm c ca w' m g :=
  ⟨h.mo, h.ok, h.len, h.rng, h.map.below hb, TabsP_below hb h.tabs, LitsP_below hb h.lits, cellB hb h.ci, cellB hb h.cn, cellB hb h.ct⟩

end Go.Proofs.YtbkedppkdhfpoabGreat
