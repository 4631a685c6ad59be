/- Clauses: do a term's functions stand in another one, too? The unifier's add. The program's Match: what it answers. The program's Unify. The program's own check of bindings. -/
import Derived.BigQuiet
import Derived.Deep.RegionLaw
import Derived.Test.YtbkedppkdhfpoabGreatJoined14
namespace Go.Proofs.YtbkedppkdhfpoabGreat
open Go.RowKit

/-- A term's functions stand in another one. -/
def Cov : T → T → Prop
  | ⟨v, f, args⟩, t => v ≠ 0 ∨ (t.v = 0 ∧ f = t.f ∧ CovL args t.args)
  where
  CovL : List T → List T → Prop
  | [], us => us = []
  | p :: ps, us => ∃ t ts, us = t :: ts ∧ Cov p t ∧ CovL ps ts
theorem Cov_iff (p t : T) : Cov p t ↔ (p.v ≠ 0 ∨ (t.v = 0 ∧ p.f = t.f ∧ Cov.CovL p.args t.args)) := by cases p; rw [Cov]
theorem CovL_iff : ∀ (ps us : List T), Cov.CovL ps us ↔ (ps.length = us.length ∧ ∀ (i : Nat) (p u : T), ps[i]? = some p → us[i]? = some u → Cov p u) := by
  intro ps
  induction ps with
  | nil =>
    intro us
    rw [Cov.CovL]
    constructor
    · rintro rfl; exact ⟨rfl, fun i p u h => by simp at h⟩
    · rintro ⟨h, _⟩; exact List.length_eq_zero_iff.1 h.symm
  | cons p ps ih =>
    intro us
    rw [Cov.CovL]
    constructor
    · rintro ⟨t, ts, rfl, h1, h2⟩
      obtain ⟨h3, h4⟩ := (ih ts).1 h2
      refine ⟨by simp [h3], fun i q u hq hu => ?_⟩
      cases i with
      | zero =>
        rw [List.getElem?_cons_zero] at hq hu
        obtain rfl := Option.some.inj hq
        obtain rfl := Option.some.inj hu
        exact h1
      | succ i => exact h4 i q u (by simpa using hq) (by simpa using hu)
    · rintro ⟨h1, h2⟩
      cases us with
      | nil => simp at h1
      | cons t ts => exact ⟨t, ts, rfl, h2 0 p t rfl rfl, (ih ts).2 ⟨by simpa using h1, fun i q u hq hu => h2 (i + 1) q u (by simpa using hq) (by simpa using hu)⟩⟩
/-- What can be made another one covers it. -/
theorem cov_sub {ar : List Int} {θ : Int → T} : ∀ (n : Nat) (p : T), p.sz ≤ n → okP ar p → Cov p (sub θ p) := by
  intro n
  induction n with
  | zero => intro p h; have := p.sz_pos; omega
  | succ n ih =>
    intro p h hp
    by_cases hv : p.v = 0
    · rw [Cov_iff, sub_fn hv]
      refine Or.inr ⟨rfl, rfl, (CovL_iff _ _).2 ⟨by simp, fun i q u hq hu => ?_⟩⟩
      simp only [List.getElem?_map, hq, Option.map_some, Option.some.injEq] at hu
      rw [← hu]
      have hm := List.mem_of_getElem? hq
      exact ih q (by have := arg_sz hm; omega) (okArg hp hm)
    · rw [Cov_iff]; exact Or.inl hv

theorem eg208 (args : Array Value) (w : World) : (callFunc 208 args).run Tryz.prog w = .ok (.enter 208 args) w := by kernel_rfl
attribute [local go_sem ↓] Go.wp_at_zero Go.wp_at_succ
set_option maxRecDepth 100000 in
set_option maxHeartbeats 1000000 in
theorem equalCov_any (n : Nat) (hc : ∀ (t u : T) (a : Option Addr) (cap : Nat) (a2 : Option Addr) (cap2 : Nat) (w : World), t.sz ≤ n → InL w t.args a → InL w u.args a2 →
      Calls Tryz.prog 208 #[.agg #[.int .i64 t.v, .int .i64 t.f, .slice a t.args.length cap], .agg #[.int .i64 u.v, .int .i64 u.f, .slice a2 u.args.length cap2]] w fun e w' => Says (Cov t u) e ∧ Below w.heap.size w w')
    (ts us : List T) (a : Option Addr) (cap : Nat) (a2 : Option Addr) (cap2 : Nat) (w : World) (hn : T.sz.szL ts ≤ n) (h1000 : T.sz.szL ts ≤ 1000) (hin : InL w ts a) (hin2 : InL w us a2) :
    Calls Tryz.prog 107 #[.slice a ts.length cap, .slice a2 us.length cap2, .func (.func 208) #[] #[]] w fun e w' => Says (Cov.CovL ts us) e ∧ Below w.heap.size w w' := by
  have Hc := hide hc
  clear hc
  by_cases h3 : ts.length = us.length
  · have e3 : ((ts.length : Int) != us.length) = false := by simp; omega
    have H3 := hide h3
    clear h3
    go_enter Tryz.func107, Tryz.ntmps107
    go_wp2_with fail
    go_loopw [17] (fun i wr => ∃ k : Nat, k ≤ ts.length ∧ i = .int .i64 k ∧ Hid (∀ (i : Nat) (p u : T), i < k → ts[i]? = some p → us[i]? = some u → Cov p u) ∧ Below w.heap.size w wr) (fun i _ => ts.length - (intOf i).toNat)
    case atStart => exact ⟨0, Nat.zero_le _, rfl, hide (fun i p u h => by omega), Below.refl _ _⟩
    case round =>
      obtain ⟨k, hk, rfl, HL, hb⟩ := hrel
      by_cases hlt : k < ts.length
      · have hlt2 : k < us.length := by have := H3.out; omega
        obtain ⟨b, off, rfl⟩ := InP_some hin (by omega)
        obtain ⟨b2, off2, rfl⟩ := InP_some hin2 (by omega)
        obtain ⟨x, hx⟩ : ∃ x, ts[k]? = some x := ⟨ts[k], List.getElem?_eq_getElem hlt⟩
        obtain ⟨y, hy⟩ : ∃ y, us[k]? = some y := ⟨us[k], List.getElem?_eq_getElem hlt2⟩
        obtain ⟨a3, cap3, _, k0, k1, k2, hinx⟩ := InP_at (InP_below hb hin) hx
        obtain ⟨a4, cap4, _, m0, m1, m2, hiny⟩ := InP_at (InP_below hb hin2) hy
        have hxsz := T.szL_mem (List.mem_of_getElem? hx)
        have hk3 : k ≤ 1000 := by have := T.length_le ts; omega
        have hkI : (k : Int) < ts.length := by omega
        have hkJ : (k : Int) < us.length := by omega
        have hk0 : (0 : Int) ≤ k := by omega
        have hb1 := lt_of_cell k0
        have hb2 := lt_of_cell m0
        have Hx := hide (fun o1 o2 => Hc.out x y a3 cap3 a4 cap4 ((wr.alloc o1).alloc o2) (by omega) (InP_alloc o2 (InP_alloc o1 hinx)) (InP_alloc o2 (InP_alloc o1 hiny)))
        have Hb := hide hb
        have hz := hb.size
        have Hxy := hide (And.intro hx hy)
        clear hx hy hinx hiny hb
        go_wp2_with fail
        refine (Hx.out _ _).mono ?_
        rintro e w3 ⟨⟨r, rfl, hr⟩, hb3⟩
        have Hb3 := hide (Hb.out.trans (((below2 wr _ _).trans (hb3.mono (by simp; omega))).mono hz))
        have Hr := hide hr
        clear hb3 hr
        cases r with
        | true =>
          have Hgo : Hid (∀ (i : Nat) (p u : T), i < k + 1 → ts[i]? = some p → us[i]? = some u → Cov p u) := by
            intro i p u hi hp hu
            by_cases hik : i = k
            · subst hik
              rw [Hxy.out.1] at hp
              rw [Hxy.out.2] at hu
              obtain rfl := Option.some.inj hp
              obtain rfl := Option.some.inj hu
              exact Hr.out.1 rfl
            · exact HL.out i p u (by omega) hp hu
          go_wp2_with fail
          go_roundw
          case rel => exact ⟨k + 1, by omega, by go_num, Hgo, Hb3.out⟩
          case measure => simp [intOf]; omega
        | false =>
          have Hno : Hid (¬ Cov.CovL ts us) := fun h => by
            have h9 := ((CovL_iff ts us).1 h).2 k x y Hxy.out.1 Hxy.out.2
            exact absurd (Hr.out.2 h9) (by simp)
          go_wp2_with fail
          go_ret
          exact ⟨says_no Hno.out, Hb3.out⟩
      · have hk2 : k = ts.length := by omega
        subst hk2
        have Hyes : Hid (Cov.CovL ts us) := (CovL_iff ts us).2 ⟨H3.out, fun i p u hp hu => HL.out i p u (List.getElem?_eq_some_iff.1 hp).1 hp hu⟩
        go_wp2_with fail
        go_ret
        exact ⟨says_yes Hyes.out, hb⟩
  · have Hno : Hid (¬ Cov.CovL ts us) := fun h => h3 ((CovL_iff ts us).1 h).1
    have e3 : ((ts.length : Int) != us.length) = true := by simp; omega
    clear h3
    go_enter Tryz.func107, Tryz.ntmps107
    go_wp2_with fail
    go_ret
    exact ⟨says_no Hno.out, Below.refl _ _⟩
set_option maxRecDepth 100000 in
set_option maxHeartbeats 1000000 in
theorem covers_any (N : Nat) : ∀ (t u : T) (a : Option Addr) (cap : Nat) (a2 : Option Addr) (cap2 : Nat) (w : World), t.sz ≤ N → t.sz ≤ 1000 → InL w t.args a → InL w u.args a2 →
    Calls Tryz.prog 208 #[.agg #[.int .i64 t.v, .int .i64 t.f, .slice a t.args.length cap], .agg #[.int .i64 u.v, .int .i64 u.f, .slice a2 u.args.length cap2]] w fun e w' => Says (Cov t u) e ∧ Below w.heap.size w w' := by
  induction N with
  | zero => intro t u a cap a2 cap2 w hN; have := t.sz_pos; omega
  | succ N ih =>
    intro t u a cap a2 cap2 w hN h1000 hin hin2
    have hte := T.sz_eq t
    by_cases h0 : t.v = 0
    · have e0 : (t.v != 0) = false := by simpa using h0
      by_cases h1 : u.v = 0
      · have e1 : (u.v == 0) = true := by simpa using h1
        by_cases h2 : t.f = u.f
        · have HE := hide (fun o1 o2 => equalCov_any (min N 1000) (fun t' u' a' cap' a2' cap2' w' hn' hi hi2 => ih t' u' a' cap' a2' cap2' w' (by omega) (by omega) hi hi2) t.args u.args a cap a2 cap2 ((w.alloc o1).alloc o2) (by omega) (by omega) (InP_alloc o2 (InP_alloc o1 hin)) (InP_alloc o2 (InP_alloc o1 hin2)))
          have e2 : (t.f == u.f) = true := by simpa using h2
          have Hfin : Hid (Cov t u ↔ Cov.CovL t.args u.args) := by
            show _ ↔ _
            rw [Cov_iff]
            exact ⟨fun h => (h.resolve_left (by simpa using h0)).2.2, fun h => Or.inr ⟨h1, h2, h⟩⟩
          clear h0 h1 h2 ih
          go_enter Tryz.func208, Tryz.ntmps208
          go_wp2_with fail
          refine (HE.out _ _).mono ?_
          rintro e w1 ⟨⟨r, rfl, hr⟩, hb1⟩
          have Hb := hide ((below2 w _ _).trans (hb1.mono (by simp; omega)))
          have Hr := hide hr
          clear hb1 hr
          go_wp2_with fail
          go_ret
          exact ⟨⟨r, rfl, Hr.out.trans Hfin.out.symm⟩, Hb.out⟩
        · have e2 : (t.f == u.f) = false := by simpa using h2
          have Hno : Hid (¬ Cov t u) := by
            show ¬ _
            rw [Cov_iff]
            exact fun h => h2 (h.resolve_left (by simpa using h0)).2.1
          clear h0 h1 h2 ih
          go_enter Tryz.func208, Tryz.ntmps208
          go_wp2_with fail
          go_ret
          exact ⟨says_no Hno.out, below2 _ _ _⟩
      · have e1 : (u.v == 0) = false := by simpa using h1
        have Hno : Hid (¬ Cov t u) := by
          show ¬ _
          rw [Cov_iff]
          exact fun h => h1 (h.resolve_left (by simpa using h0)).1
        clear h0 h1 ih
        go_enter Tryz.func208, Tryz.ntmps208
        go_wp2_with fail
        go_ret
        exact ⟨says_no Hno.out, below2 _ _ _⟩
    · have e0 : (t.v != 0) = true := by simpa using h0
      have Hyes : Hid (Cov t u) := by show Cov _ _; rw [Cov_iff]; exact Or.inl h0
      clear h0 ih
      go_enter Tryz.func208, Tryz.ntmps208
      go_wp2_with fail
      go_ret
      exact ⟨says_yes Hyes.out, below2 _ _ _⟩
end Go.Proofs.YtbkedppkdhfpoabGreat

namespace Go.Proofs.YtbkedppkdhfpoabGreat
open Go.RowKit Go.Maps

/-- What add is to do, of terms of less than N parts. -/
def AddUp (ar : List Int) (base lo u mb N : Nat) : Prop := ∀ (t : T) (a : Option Addr) (cap : Nat) (s : List Pt × List (Int × Nat)) (l : Value) (c : Nat → Prop) (w : World), t.sz < N → okP ar t → s.1.length + t.sz ≤ 1000 → s.2.length + t.sz ≤ 1000 → base ≤ w.heap.size → (∀ k, c k → base ≤ k) → (∀ k, w.heap.size ≤ k → c k) → AX c base u mb w l s → InP (fun k => k < lo) w t.args a →
    Calls Tryz.prog 259 #[.pointer (some ⟨u, 0, none⟩), .agg #[.int .i64 t.v, .int .i64 t.f, .slice a t.args.length cap]] w fun e w' => ∃ l', e = .returned (.int .i64 ((addT t s).1 : Nat)) ∧ AX c base u mb w' l' (addT t s).2 ∧ AF u mb w l w' l'

/-- What holds while the arguments are added, behind the box of the term in block w.heap.size. -/
structure AL (c : Nat → Prop) (base u mb : Nat) (W1 : World) (l : Value) (args : List T) (s : List Pt × List (Int × Nat)) (k : Nat) (lr : Value) (wr : World) (l' : Value) : Prop where
  nums : OwnI W1.heap.size wr lr ((addT.addL (args.take k) s).1.map (fun n : Nat => (n : Int)))
  ax : AX (fun j => c j ∧ lr.ownBlock ≠ some j) base u mb wr l' (addT.addL (args.take k) s).2
  af : AF u mb W1 l wr l'
  dis : ∀ g, lr.ownBlock = some g → l'.ownBlock ≠ some g

theorem AL.step {c : Nat → Prop} {base u mb : Nat} {W1 : World} {l : Value} {args : List T} {s : List Pt × List (Int × Nat)} {k : Nat} {lr : Value} {wr w5 w6 : World} {l' l5 v6 : Value} {x : T} {o1 o2 : Obj} (h : AL c base u mb W1 l args s k lr wr l') (hx : args[k]? = some x) (hbase : base ≤ W1.heap.size)
    (hA5 : AX (fun j => c j ∧ lr.ownBlock ≠ some j) base u mb w5 l5 (addT x (addT.addL (args.take k) s).2).2) (hF5 : AF u mb (wr.alloc o1) l' w5 l5)
    (hown : OwnI W1.heap.size w6 v6 ((addT.addL (args.take k) s).1.map (fun n : Nat => (n : Int)) ++ [((addT x (addT.addL (args.take k) s).2).1 : Int)])) (hg : (w5.alloc o2).grownBy w6 lr.ownBlock) (hat : v6.ownBlock = lr.ownBlock ∨ v6.ownBlock = some (w5.alloc o2).heap.size) : AL c base u mb W1 l args s (k + 1) v6 w6 l5 := by
  have hl5 := hA5.outs.row
  have hlr : ∀ g, lr.ownBlock = some g → W1.heap.size ≤ g ∧ g < wr.heap.size := own_lt h.nums
  have hdis5 : ∀ g, lr.ownBlock = some g → l5.ownBlock ≠ some g := fun g hg' e => by
    rcases hF5.row with h1 | ⟨g', h1, h2⟩
    · exact h.dis g hg' (h1.symm.trans e)
    · rw [h1] at e; cases e
      have := (hlr g hg').2
      rw [World.size_alloc] at h2; omega
  have hub := hA5.ub
  have hmbb := hA5.mbb
  have hul := lt_of_cell hA5.list
  have hml := hA5.mp.lt
  have hkeep : ∀ j, j < w5.heap.size → lr.ownBlock ≠ some j → w6.heap[j]? = w5.heap[j]? := fun j hj hne => by
    rw [hg.block j (by rw [World.size_alloc]; omega) (fun e => hne e.symm)]; exact (below1 w5 o2).block j hj
  refine ⟨?_, ?_, ?_, ?_⟩
  · rw [addL_step hx, List.map_append]; exact hown
  · rw [addL_step hx]
    refine hA5.mono (fun j hc hj hlt => ⟨⟨hc.1, ?_⟩, hkeep j hlt hc.2⟩) (fun g hg' => hkeep g (hl5 g hg').2 (fun e => hdis5 g e hg')) (hkeep u hul (fun e => by have := (hlr u e).1; omega)) (hkeep mb hml (fun e => by have := (hlr mb e).1; omega))
    rcases hat with h1 | h1
    · rw [h1]; exact hc.2
    · rw [h1, World.size_alloc]; intro e; cases e; omega
  · refine AF.grown ((h.af.trans (AF.of_below (below1 wr o1))).trans (hF5.trans (AF.of_below (below1 w5 o2)))) hg (fun g hg' => (hlr g hg').1)
  · intro g hg' e
    rcases hat with h1 | h1
    · exact hdis5 g (h1.symm.trans hg') e
    · have h2 := (hl5 g e).2
      rw [h1, World.size_alloc] at hg'; cases hg'; omega

theorem AX.stored {c : Nat → Prop} {base u mb : Nat} {w w7 : World} {l : Value} {P : List Pt} {vs : List (Int × Nat)} {v : Int} {n : Nat} (h : AX c base u mb w l (P, vs)) (hcb : ∀ k, c k → base ≤ k) (hM : MapAt w7 mb (vs.length + 1) (fun j => if j = v then some (.int .i64 (n : Int)) else (lookN vs j).map (fun n : Nat => Value.int .i64 (n : Int)))) (hg : w.grownBy w7 (some mb)) : AX c base u mb w7 l (P, (v, n) :: vs) ∧ AF u mb w l w7 l := by
  have hne := h.ne
  have hmbb := h.mbb
  have hrow := h.outs.row
  have hul := lt_of_cell h.list
  have hk : ∀ k, k < w.heap.size → k ≠ mb → w7.heap[k]? = w.heap[k]? := fun k hk hm => hg.block k hk (fun e => hm (by simpa using e))
  have hu := hk u hul hne
  refine ⟨⟨(World.cell?_of_block (w := w) (a := ⟨u, 0, none⟩) hu).trans h.list, (World.cell?_of_block (w := w) (a := ⟨u, 1, none⟩) hu).trans h.map, h.outs.mono (fun k hc _ hlt => ⟨hc, hk k hlt (by have := hcb k hc; omega)⟩) (fun g hg' => hk g (hrow g hg').2 (by have := (hrow g hg').1; omega)), ?_, fun k => (World.frozen?_of_block (w := w) (a := ⟨u, k, none⟩) hu).trans (h.fru k), h.ub, h.mbb, h.ne⟩, hg.os, hg.tape, hg.output, hg.size, fun k hk' _ h2 _ => hk k hk' h2, Or.inl rfl⟩
  refine hM.congr (fun k => ?_)
  show _ = (if v = k then some n else lookN vs k).map _
  by_cases e : k = v
  · rw [if_pos e, if_pos e.symm]; rfl
  · rw [if_neg e, if_neg (fun e' => e e'.symm)]

set_option maxRecDepth 100000 in
set_option maxHeartbeats 2000000 in
theorem add_any (ar : List Int) (base lo u mb : Nat) (hlu : lo ≤ u) (hlm : lo ≤ mb) (N : Nat) : AddUp ar base lo u mb N := by
  induction N with
  | zero => intro t a cap s l c w h; omega
  | succ N ih =>
    intro t a cap s l c w hN hok hs1 hs2 hbase hcb hcn hS hin
    have hv := okP_le hok
    have hub := hS.ub
    have hul : u < w.heap.size := lt_of_cell hS.list
    have cu1 := hS.map
    have hlook := fun o => (hS.mp.below (below1 w o)).look_ok (t := 106) Tryz.under99 (Tryz.zeroI _) (k := t.v) (by omega) (by omega)
    have hlook2 := fun o => (hS.mp.below (Below.drew (below1 w o))).look_ok (t := 106) Tryz.under99 (Tryz.zeroI _) (k := t.v) (by omega) (by omega)
    have HS := hide hS
    cases hlk : lookN s.2 t.v with
    | some n =>
      rw [addT_known hlk]
      rw [hlk] at hlook hlook2
      have HbA := hide (fun o n => below_drewN (below1 w o) n)
      clear hlk hin hok ih hS hcb hcn
      go_enter Tryz.func259, Tryz.ntmps259
      go_wp2_with fail
      go_region
      go_wp2_with fail
      go_ret
      exact ⟨l, rfl, HS.out.below (HbA.out _ 1), AF.of_below (HbA.out _ 1)⟩
    | none =>
      have hts := T.sz_eq t
      have htl : t.args.length ≤ 1000 := by have := T.length_le t.args; omega
      rw [addT_new hlk]
      rw [hlk] at hlook hlook2
      obtain ⟨ns, P, vs, hR⟩ : ∃ ns P vs, addT.addL t.args s = (ns, P, vs) := ⟨_, _, _, rfl⟩
      have hnl : ns.length ≤ 1000 := by have h9 := addL_length t.args s; rw [hR] at h9; have h9 : ns.length = t.args.length := h9; omega
      have hPl : P.length ≤ 1000 ∧ vs.length ≤ 1000 := by have h9 := (add_size _).2 t.args s (Nat.le_refl _); rw [hR] at h9; have h9 : P.length ≤ _ ∧ vs.length ≤ _ := h9; omega
      rw [hR]
      show Calls _ _ _ _ fun e w' => ∃ l', e = .returned (.int .i64 (P.length : Nat)) ∧ AX c base u mb w' l' (P ++ [⟨t.v, t.f, ns, P.length, 0⟩], if t.v = 0 then vs else (t.v, P.length) :: vs) ∧ AF u mb w l w' l'
      obtain ⟨V, hV⟩ : ∃ V, V = if t.v = 0 then vs else (t.v, P.length) :: vs := ⟨_, rfl⟩
      rw [← hV]
      have HV := hide hV
      have HR := hide hR
      clear hR hV
      have Hih := hide ih
      have Hcb := hide hcb
      have Hcn := hide hcn
      have Hin := hide hin
      have Hok := hide (okP_iff.1 hok).2
      obtain ⟨W1, hW1⟩ : ∃ W1, W1 = w.alloc (.cells #[.int .i64 t.v, .int .i64 t.f, .slice a t.args.length cap] 77) := ⟨_, rfl⟩
      have HW1 := hide hW1
      have H3 : Hid (Three W1 w.heap.size (.int .i64 t.v) (.int .i64 t.f) (.slice a t.args.length cap)) := by rw [hW1]; exact Three.new 77 rfl
      have HB1 : Hid (Below w.heap.size w W1) := by rw [hW1]; exact below1 _ _
      have HZ1 : Hid (W1.heap.size = w.heap.size + 1) := by rw [hW1]; exact World.size_alloc _ _
      have hlr0 := HS.out.outs.row
      have Hl0 := hide hlr0
      clear hlk hin hok ih hS hcb hcn hW1 hlr0
      go_enter Tryz.func259, Tryz.ntmps259
      go_wp2_with fail
      go_region
      go_wp2_with fail
      go_loopw [7, 26] (fun lv i wr => ∃ (k : Nat) (l' lr : Value), k ≤ t.args.length ∧ i = .int .i64 k ∧ lv = lr ∧ AL c base u mb W1 l t.args s k lr wr l') (fun _ i _ => t.args.length - (intOf i).toNat)
      case atStart =>
        refine ⟨0, l, .slice none 0 0, Nat.zero_le _, rfl, rfl, ⟨rfl, Or.inl ⟨rfl, rfl⟩⟩, ?_, ?_, fun g hg => by cases hg⟩
        · rw [← HW1.out]
          exact (HS.out.below HB1.out).mono (fun k hc _ _ => ⟨⟨hc, fun e => by cases e⟩, rfl⟩) (fun _ _ => rfl) rfl rfl
        · rw [← HW1.out]
          exact AF.of_below ⟨rfl, rfl, rfl, Nat.le_refl _, fun _ _ => rfl⟩
      case round =>
        obtain ⟨k, l', lr, hk, rfl, hlv, hal⟩ := hrel
        obtain rfl := hlv.symm
        clear hlv
        have Hal := hide hal
        have hmbb := HS.out.mbb
        have H3r := hide (H3.out.same (w' := wr) (hal.af.block w.heap.size (by rw [HZ1.out]; omega) (by omega) (by omega) (fun e => by have := (Hl0.out _ e).2; omega)))
        obtain ⟨b0, b1, b2, _, _, _⟩ := H3r.out
        have hzW : W1.heap.size ≤ wr.heap.size := hal.af.size
        have hzr : w.heap.size + 1 ≤ wr.heap.size := by have := HZ1.out; omega
        have hbW : base ≤ W1.heap.size := by have := HZ1.out; omega
        by_cases hlt : k < t.args.length
        · obtain ⟨b, off, rfl⟩ := InP_some Hin.out (by omega)
          obtain ⟨x, hx⟩ : ∃ x, t.args[k]? = some x := ⟨t.args[k], List.getElem?_eq_getElem hlt⟩
          have hinr : InP (fun j => j < lo) wr t.args (some ⟨b, off, none⟩) := InP_same (w := w) (fun j hj hjl => by
            have hj : j < lo := hj
            rw [hal.af.block j (by omega) (by omega) (by omega) (fun e => by have := (Hl0.out j e).1; omega)]; exact HB1.out.block j hjl) Hin.out
          obtain ⟨a3, cap3, _, k0, k1, k2, hin3⟩ := InP_at hinr hx
          obtain ⟨hs3, hs4⟩ := szL_take hx
          have hxe := T.sz_eq x
          have hsk := (add_size _).2 (t.args.take k) s (Nat.le_refl _)
          have hxok := okL_mem.1 Hok.out x (List.mem_of_getElem? hx)
          have Hx := hide (fun o1 => Hih.out x a3 cap3 (addT.addL (t.args.take k) s).2 l' (fun j => c j ∧ lr.ownBlock ≠ some j) (wr.alloc o1) (by omega) hxok (by omega) (by omega) (by rw [World.size_alloc]; omega) (fun j hj => Hcb.out j hj.1) (fun j hj => ⟨Hcn.out j (by rw [World.size_alloc] at hj; omega), fun e => by have := (own_lt hal.nums j e).2; rw [World.size_alloc] at hj; omega⟩) (hal.ax.below (below1 wr o1)) (InP_alloc o1 hin3))
          have Hxk := hide hx
          have hkI : (k : Int) < t.args.length := by omega
          have hk0 : (0 : Int) ≤ k := by omega
          clear hx hinr hin3 hs3 hs4 hxe hsk hxok hal
          go_wp2_with fail
          refine (Hx.out _).mono ?_
          rintro e w5 ⟨l5, rfl, hA5, hF5⟩
          have hz5 : wr.heap.size + 1 ≤ w5.heap.size := by have := hF5.size; rw [World.size_alloc] at this; exact this
          have hO5 : OwnI W1.heap.size w5 lr ((addT.addL (t.args.take k) s).1.map (fun n : Nat => (n : Int))) := own_same Hal.out.nums (fun g hg => by
            have h1 := own_lt Hal.out.nums g hg
            rw [hF5.block g (by rw [World.size_alloc]; omega) (by omega) (by omega) (Hal.out.dis g hg)]; exact (below1 wr _).block g h1.2)
          have HO5 := hide (fun o2 => OwnI.below hO5 (below1 w5 o2))
          have HA5 := hide hA5
          have HF5 := hide hF5
          have HL : Hid ((addT.addL (t.args.take k) s).1.length ≤ 1000) := by show _ ≤ _; rw [addL_length, List.length_take]; omega
          clear hO5 hA5 hF5 Hx
          go_wp2_with (at_builtin; go_must (refine wpList_append_ints rfl (.tmp 30) (.tmp 34) rfl W1.heap.size lr ((addT.addL (t.args.take k) s).1.map (fun n : Nat => (n : Int))) rfl (HO5.out _) (.slice (some ⟨w5.heap.size, 0, none⟩) 1 1) [((addT x (addT.addL (t.args.take k) s).2).1 : Int)] rfl (src_one (cell_new 0 rfl)) (by have := HL.out; rw [List.length_map, List.length_singleton]; omega) (by rw [World.size_alloc]; omega) ?_))
          intro v6 w6 hown6 hgr6 hat6
          have Hst := hide (Hal.out.step Hxk.out hbW HA5.out HF5.out hown6 hgr6 (by rw [World.size_alloc]; exact hat6))
          clear hown6 hgr6 hat6
          go_wp2_with fail
          go_roundw
          case rel => exact ⟨k + 1, l5, v6, by omega, by go_num, rfl, Hst.out⟩
          case measure => simp [intOf]; omega
        · have hk2 : k = t.args.length := by omega
          subst hk2
          obtain ⟨hn0, hx0, hf0, hd0⟩ := hal
          rw [List.take_length, HR.out] at hn0 hx0
          have hq0 : ∀ g, lr.ownBlock = some g → c g ∧ l'.ownBlock ≠ some g := fun g hg => ⟨Hcn.out g (by have := (own_lt hn0 g hg).1; have := HZ1.out; omega), hd0 g hg⟩
          obtain ⟨aa, ac, hlr, hnq⟩ := numsQ_own (ns := ns) (q := fun g => c g ∧ l'.ownBlock ≠ some g) hn0 hq0 (by omega)
          have hxc : AX c base u mb wr l' (P, vs) := hx0.mono (fun j hj _ _ => ⟨hj.1, rfl⟩) (fun _ _ => rfl) rfl rfl
          obtain ⟨xs, hown, hkids⟩ := hxc.outs
          obtain ⟨la, lc, hl'⟩ := own_shape hown
          subst hlr
          subst hl'
          have hru := hide hxc.outs.row
          have q0 := hxc.list
          have q1 := hxc.map
          have q2 := hxc.fru 0
          have HXC := hide hxc
          have HN := hide hnq
          have HK := hide hkids
          have HF := hide hf0
          have HO := hide (fun (o1 : Obj) (w' : World) (h : w'.heap = (wr.alloc o1).heap) => own_same hown (w' := w') (fun g hg => by rw [h]; exact (below1 wr o1).block g (own_lt hown g hg).2))
          have hur : u < wr.heap.size := by omega
          have HB0 : Hid ((Value.slice la P.length lc).ownBlock ≠ some w.heap.size) := fun e => by
            rcases hf0.row with h | ⟨g, h, h'⟩
            · have := (Hl0.out _ (h.symm.trans e)).2; omega
            · rw [h] at e; cases e; have := HZ1.out; omega
          clear hn0 hx0 hf0 hd0 hq0 hnq hxc hkids hown Hal
          go_wp2_with fail
          go_region_law ((first
            | (refine step_append_u rfl (.tmp 46) (.tmp 51) rfl base P.length 1 (.slice la P.length lc) xs [.int .i64 t.v, .int .i64 t.f, .slice a t.args.length cap, .slice aa ns.length ac, .int .i64 (P.length : Int), .int .i64 0] rfl (HO.out (.cells #[.int .i64 t.v, .int .i64 t.f, .slice a t.args.length cap, .slice aa ns.length ac, .int .i64 (P.length : Int), .int .i64 0] 326) _ rfl) (.slice (some ⟨wr.heap.size, 0, none⟩) 1 1) rfl (srcU_heap (w := wr) (e := 326) rfl rfl (by simp [Value.oneCell'])) (by omega) (by simp; omega) ?_
               intro v6 w6 hown6 hgr6 hat6
               obtain ⟨va6, vc6, hv6⟩ := own_shape hown6
               subst hv6
               have HP := hide (AX_push (x := ⟨t.v, t.f, ns, P.length, 0⟩) HXC.out Hcb.out (by exact ⟨rfl, rfl, rfl, (below1 wr _).size, (below1 wr _).block⟩) HK.out HN.out hown6 hgr6 (by first | exact hat6 | (rw [World.size_alloc]; exact hat6)))
               obtain ⟨_, _, y0, y1, y2, y3⟩ := HP.out
               have z0 : w6.cell? ⟨w.heap.size, 0, none⟩ = some (.int .i64 t.v) := (World.cell?_of_block (w := wr) (a := ⟨w.heap.size, 0, none⟩) (y3 w.heap.size (by omega) (by omega) HB0.out)).trans b0
               clear y3 hown6 hgr6 hat6)))
          all_goals
            by_cases hv0 : t.v = 0
            · have e0 : (t.v != 0) = false := by simpa using hv0
              have HV0 : Hid (V = vs) := by show _ = _; rw [HV.out, if_pos hv0]
              clear hv0
              go_wp2_with fail
              go_ret
              exact ⟨rfl, _, by rw [HV0.out]; exact HP.out.1, (AF.of_below HB1.out).trans (HF.out.trans HP.out.2.1)⟩
            · have e0 : (t.v != 0) = true := by simpa using hv0
              have HV0 : Hid (V = (t.v, P.length) :: vs) := by show _ = _; rw [HV.out, if_neg hv0]
              have HM := hide (fun (w' : World) (h : w'.heap = (w6.setCell ⟨u, 0, none⟩ (.slice va6 (P.length + 1) vc6)).heap) => HP.out.1.mp.same (w' := w') (by rw [h]))
              obtain ⟨w7, hrun, hM7, hg7⟩ := (HM.out ((w6.setCell ⟨u, 0, none⟩ (.slice va6 (P.length + 1) vc6)).drew) rfl).store Tryz.under99 (show vs.length < maxLen by unfold maxLen; omega) (k := t.v) (by omega) (by omega) (.int .i64 (P.length : Int))
              have HQ := hide (HP.out.1.stored Hcb.out hM7 ⟨hg7.os, hg7.tape, hg7.output, hg7.size, hg7.block⟩)
              clear hv0 hM7 hg7 HM
              go_wp2_with fail
              go_region
              all_goals
                go_wp2_with fail
                go_ret
                exact ⟨_, rfl, by rw [HV0.out]; exact HQ.out.1, (AF.of_below HB1.out).trans (HF.out.trans (HP.out.2.1.trans HQ.out.2))⟩

end Go.Proofs.YtbkedppkdhfpoabGreat

namespace Go.Proofs.YtbkedppkdhfpoabGreat
open Go.RowKit Go.Maps

set_option maxRecDepth 100000 in
set_option maxHeartbeats 400000 in
theorem subCheck_any (ar : List Int) (ga : Option Addr) (gcap : Nat) (t : T) (a : Option Addr) (cap : Nat) (u : T) (a2 : Option Addr) (cap2 : Nat) (w : World) (hg : Ints w ar ga) (hin : InL w t.args a) (hin2 : InL w u.args a2) :
    Calls Tryz.prog 258 #[.agg #[.slice ga ar.length gcap], .agg #[.int .i64 t.v, .int .i64 t.f, .slice a t.args.length cap], .agg #[.int .i64 u.v, .int .i64 u.f, .slice a2 u.args.length cap2]] w fun e w' =>
      e = .returned (.int .i64 (allErr ar [t, u])) ∧ Below w.heap.size w w' := by
  have H1 := hide (fun o1 o2 o3 => Check_any ar ga gcap t a cap (((w.alloc o1).alloc o2).alloc o3) (Ints_alloc o3 (Ints_alloc o2 (Ints_alloc o1 hg))) (InP_alloc o3 (InP_alloc o2 (InP_alloc o1 hin))))
  have Hp := hide (allErr_pair ar t u)
  go_enter Tryz.func258, Tryz.ntmps258
  go_wp2_with fail
  refine (H1.out _ _ _).mono ?_
  rintro e w1 ⟨rfl, hb1⟩
  have hz1 : w.heap.size + 3 ≤ w1.heap.size := by have := hb1.size; simp at this; omega
  have hbw : Below w.heap.size w w1 := (((below1 _ _).alloc (by simp) _).alloc (by simp; omega) _).trans (hb1.mono (by simp; omega))
  have cg : w1.cell? ⟨w.heap.size, 0, none⟩ = some (.slice ga ar.length gcap) := by
    rw [hb1.cell (p := ⟨w.heap.size, 0, none⟩) (by simp; omega), cell_alloc_lt (by simp; omega), cell_alloc_lt (by simp), cell_new _ rfl]; rfl
  have h3u : Three w1 (w.heap.size + 1 + 1) (.int .i64 u.v) (.int .i64 u.f) (.slice a2 u.args.length cap2) := (Three.new _ (by simp)).below hb1
  obtain ⟨d0, d1, d2, _, _, _⟩ := h3u
  have H2 := hide (Check_any ar ga gcap u a2 cap2 w1 (Ints_below hbw hg) (InP_below hbw hin2))
  clear hb1
  by_cases h : allErr ar [t] = 0
  · have He : Hid (allErr ar [t, u] = allErr ar [u]) := by show _ = _; rw [Hp.out, if_pos h]
    rw [h]
    clear h
    go_wp2_with fail
    refine H2.out.mono ?_
    rintro e w2 ⟨rfl, hb2⟩
    go_wp2_with fail
    go_ret
    exact ⟨ret_int He.out.symm, hbw.trans (hb2.mono (by omega))⟩
  · have hb : (allErr ar [t] != 0) = true := by simpa using h
    have He : Hid (allErr ar [t, u] = allErr ar [t]) := by show _ = _; rw [Hp.out, if_neg h]
    clear h
    go_wp2_with fail
    go_ret
    exact ⟨ret_int He.out.symm, hbw⟩

theorem once_snoc {bs : List (Int × T)} {v : Int} {t : T} (h : Once bs) (hn : lookB bs v = none) : Once (bs ++ [(v, t)]) := by
  have hv : ∀ (i : Nat) (x : Int × T), bs[i]? = some x → x.1 ≠ v := fun i x hx e => by
    have hm : v ∈ bs.map (·.1) := List.mem_map.2 ⟨x, List.mem_of_getElem? hx, e⟩
    rw [lookB_isSome, hn] at hm
    cases hm
  have cs : ∀ (i : Nat) (x : Int × T), (bs ++ [(v, t)])[i]? = some x → bs[i]? = some x ∨ (i = bs.length ∧ x = (v, t)) := fun i x hx => by
    rcases Nat.lt_or_ge i bs.length with h1 | h1
    · rw [List.getElem?_append_left h1] at hx; exact Or.inl hx
    · rw [List.getElem?_append_right h1] at hx
      have h2 : i - bs.length = 0 := by
        rcases Nat.lt_or_ge (i - bs.length) 1 with h3 | h3
        · omega
        · rw [List.getElem?_eq_none (by simpa using h3)] at hx; cases hx
      rw [h2] at hx
      exact Or.inr ⟨by omega, by simpa using hx.symm⟩
  intro i j x y hx hy e
  rcases cs i x hx with h1 | ⟨h1, rfl⟩ <;> rcases cs j y hy with h2 | ⟨h2, rfl⟩
  · exact h i j x y h1 h2 e
  · exact absurd e (hv i x h1)
  · exact absurd e.symm (hv j y h2)
  · omega
/-- What growing keeps. -/
theorem grow_keeps {ar : List Int} : ∀ (n : Nat), (∀ (p t : T) (bs b2 : List (Int × T)), p.sz ≤ n → okP ar p → growT p t bs = some b2 → (Once bs ∧ ∀ x, x ∈ bs → 1 ≤ x.1 ∧ x.1 ≤ 1000) → (Once b2 ∧ ∀ x, x ∈ b2 → 1 ≤ x.1 ∧ x.1 ≤ 1000)) ∧
    (∀ (ps ts : List T) (bs b2 : List (Int × T)), T.sz.szL ps ≤ n → okP.okL ar ps → growT.growL ps ts bs = some b2 → (Once bs ∧ ∀ x, x ∈ bs → 1 ≤ x.1 ∧ x.1 ≤ 1000) → (Once b2 ∧ ∀ x, x ∈ b2 → 1 ≤ x.1 ∧ x.1 ≤ 1000)) := by
  intro n
  induction n with
  | zero =>
    refine ⟨fun p t bs b2 h => by have := p.sz_pos; omega, fun ps ts bs b2 h _ hg hk => ?_⟩
    cases ps with
    | nil =>
      cases ts with
      | nil => simp [growT.growL] at hg; rw [← hg]; exact hk
      | cons t ts => cases hg
    | cons p ps => have := p.sz_pos; rw [T.szL_cons] at h; omega
  | succ n ih =>
    have h1 : ∀ (p t : T) (bs b2 : List (Int × T)), p.sz ≤ n + 1 → okP ar p → growT p t bs = some b2 → (Once bs ∧ ∀ x, x ∈ bs → 1 ≤ x.1 ∧ x.1 ≤ 1000) → (Once b2 ∧ ∀ x, x ∈ b2 → 1 ≤ x.1 ∧ x.1 ≤ 1000) := fun p t bs b2 h hok hg hk => by
      have hpe := T.sz_eq p
      rw [growT_eq] at hg
      by_cases hv : p.v ≠ 0
      · rw [if_pos hv] at hg
        cases hl : lookB bs p.v with
        | some u =>
          rw [hl] at hg
          by_cases hs : sameT u t = true
          · simp only [hs, if_true, Option.some.injEq] at hg
            rw [← hg]; exact hk
          · simp [hs] at hg
        | none =>
          rw [hl] at hg
          simp only [Option.some.injEq] at hg
          have hv1 : 1 ≤ p.v ∧ p.v ≤ 1000 := by
            have h1 := (okP_iff.1 hok).1
            rw [partErr, if_pos hv] at h1
            by_cases h2 : p.v < 1 ∨ 1000 < p.v
            · rw [if_pos h2] at h1; cases h1
            · omega
          rw [← hg]
          refine ⟨once_snoc hk.1 hl, fun x hx => ?_⟩
          rcases List.mem_append.1 hx with hx | hx
          · exact hk.2 x hx
          · simp at hx; rw [hx]; exact hv1
      · rw [if_neg hv] at hg
        by_cases hc : t.v ≠ 0 ∨ p.f ≠ t.f
        · rw [if_pos hc] at hg; cases hg
        · rw [if_neg hc] at hg
          exact ih.2 p.args t.args bs b2 (by omega) (okP_iff.1 hok).2 hg hk
    refine ⟨h1, fun ps => ?_⟩
    induction ps with
    | nil =>
      intro ts bs b2 _ _ hg hk
      cases ts with
      | nil => simp [growT.growL] at hg; rw [← hg]; exact hk
      | cons t ts => cases hg
    | cons p ps iht =>
      intro ts bs b2 h hok hg hk
      rw [T.szL_cons] at h
      cases ts with
      | nil => cases hg
      | cons t ts =>
        rw [growL_cons] at hg
        cases hgt : growT p t bs with
        | none => rw [hgt] at hg; cases hg
        | some b3 =>
          rw [hgt] at hg
          exact iht ts b3 b2 (by omega) (okL_cons.1 hok).2 hg (h1 p t bs b3 (by omega) (okL_cons.1 hok).1 hgt hk)

/-- What Match answers. -/
def matchSpec (ar : List Int) (p t : T) : List (Int × T) × Bool × Int :=
  if allErr ar [p, t] = 0 then (match growT p t [] with | some bs => (sortB bs, true, 0) | none => ([], false, 0)) else ([], false, allErr ar [p, t])
/-- Bindings, a yes or no, and an error handed back. -/
def GivesB (x : List (Int × T) × Bool × Int) (base : Nat) (e : Ending) (w' : World) : Prop :=
  ∃ a cap, e = .returned (.tuple #[.slice a x.1.length cap, .bool x.2.1, .int .i64 x.2.2]) ∧ Binds (fun k => base ≤ k) w' x.1 a

set_option maxRecDepth 100000 in
set_option maxHeartbeats 1000000 in
theorem Match_any (ar : List Int) (ga : Option Addr) (gcap : Nat) (s : T) (sa : Option Addr) (sc : Nat) (t : T) (ta : Option Addr) (tc : Nat) (w : World) (hg : Ints w ar ga) (hin : InL w s.args sa) (hin2 : InL w t.args ta) :
    Calls Tryz.prog 249 #[.agg #[.slice ga ar.length gcap], .agg #[.int .i64 s.v, .int .i64 s.f, .slice sa s.args.length sc], .agg #[.int .i64 t.v, .int .i64 t.f, .slice ta t.args.length tc]] w fun e w' => GivesB (matchSpec ar s t) w.heap.size e w' ∧ Below w.heap.size w w' := by
  have H1 := hide (fun o1 o2 o3 => subCheck_any ar ga gcap s sa sc t ta tc (((w.alloc o1).alloc o2).alloc o3) (Ints_alloc o3 (Ints_alloc o2 (Ints_alloc o1 hg))) (InP_alloc o3 (InP_alloc o2 (InP_alloc o1 hin))) (InP_alloc o3 (InP_alloc o2 (InP_alloc o1 hin2))))
  have hmm := @run_makeMap Tryz.prog
  obtain ⟨E, hE⟩ : ∃ E, E = allErr ar [s, t] := ⟨_, rfl⟩
  rw [← hE] at H1
  have HE := hide hE
  clear hE
  go_enter Tryz.func249, Tryz.ntmps249
  go_wp2_with fail
  refine (H1.out _ _ _).mono ?_
  rintro e w1 ⟨rfl, hb1⟩
  have hz1 : w.heap.size + 3 ≤ w1.heap.size := by have := hb1.size; simp at this; omega
  have hbw : Below w.heap.size w w1 := (((below1 _ _).alloc (by simp) _).alloc (by simp; omega) _).trans (hb1.mono (by simp; omega))
  have h3s : Three w1 (w.heap.size + 1) (.int .i64 s.v) (.int .i64 s.f) (.slice sa s.args.length sc) := ((Three.new _ (by simp)).alloc _).below hb1
  have h3t : Three w1 (w.heap.size + 1 + 1) (.int .i64 t.v) (.int .i64 t.f) (.slice ta t.args.length tc) := (Three.new _ (by simp)).below hb1
  obtain ⟨c0, c1, c2, _, _, _⟩ := h3s
  obtain ⟨d0, d1, d2, _, _, _⟩ := h3t
  clear hb1
  by_cases h : E = 0
  · obtain ⟨k1, k2, k3, k4⟩ := ok_two (HE.out.symm.trans h)
    have Hsp : Hid (matchSpec ar s t = match growT s t [] with | some bs => (sortB bs, true, 0) | none => ([], false, 0)) := by show _ = _; rw [matchSpec, if_pos (HE.out.symm.trans h)]
    have hM0 : MB (fun k => k < w1.heap.size) w1.heap.size [] (w1.alloc (.map #[] 0)) := ⟨⟨fun _ => none, MapAt.made w1, fun v => ⟨fun _ => rfl, fun u hu => by cases hu⟩⟩, fun v u hm => by cases hm⟩
    have H2 := hide (match_any ar (fun k => k < w1.heap.size) w1.heap.size (by omega) s.sz s t sa sc ta tc [] (w1.alloc (.map #[] 0)) (Nat.le_refl _) (by simp; omega) k2 (by omega) hM0 (InP_alloc _ (InP_below hbw hin)) (InP_alloc _ (InP_imp (fun _ hk => hk.2) (InP_lt (InP_below hbw hin2)))))
    have Hk := hide (fun bs => (grow_keeps (ar := ar) s.sz).1 s t [] bs (Nat.le_refl _) k2)
    have Hs := hide (fun bs => (grow_size s.sz).1 s t [] bs (Nat.le_refl _))
    have hzA : w.heap.size + 1 < w1.heap.size := by omega
    have hzB : w.heap.size + 1 + 1 < w1.heap.size := by omega
    have m0 : (w1.alloc (.map #[] 0)).cell? ⟨w.heap.size + 1, 0, none⟩ = some (.int .i64 s.v) := by rw [cell_alloc_lt hzA]; exact c0
    have m1 : (w1.alloc (.map #[] 0)).cell? ⟨w.heap.size + 1, 1, none⟩ = some (.int .i64 s.f) := by rw [cell_alloc_lt hzA]; exact c1
    have m2 : (w1.alloc (.map #[] 0)).cell? ⟨w.heap.size + 1, 2, none⟩ = some (.slice sa s.args.length sc) := by rw [cell_alloc_lt hzA]; exact c2
    have n0 : (w1.alloc (.map #[] 0)).cell? ⟨w.heap.size + 1 + 1, 0, none⟩ = some (.int .i64 t.v) := by rw [cell_alloc_lt hzB]; exact d0
    have n1 : (w1.alloc (.map #[] 0)).cell? ⟨w.heap.size + 1 + 1, 1, none⟩ = some (.int .i64 t.f) := by rw [cell_alloc_lt hzB]; exact d1
    have n2 : (w1.alloc (.map #[] 0)).cell? ⟨w.heap.size + 1 + 1, 2, none⟩ = some (.slice ta t.args.length tc) := by rw [cell_alloc_lt hzB]; exact d2
    subst h
    clear k2 k4 hM0
    go_wp2_with fail
    refine H2.out.mono ?_
    rintro e w2 ⟨rfl, hg2, hM2⟩
    have hzg := hg2.size
    rw [World.size_alloc] at hzg
    have Hb2 : Hid (Below w.heap.size w w2) := (hbw.alloc (by omega) _).grown hg2 (by rw [World.size_alloc]; omega) (fun j hj => by cases hj; omega)
    have HM2 := hide hM2
    clear hg2 hM2 hmm H2
    cases hgt : growT s t [] with
    | none =>
      have Hsp2 : Hid (matchSpec ar s t = ([], false, 0)) := by show _ = _; rw [Hsp.out, hgt]
      simp only [Option.isSome_none]
      clear hgt Hsp Hk Hs HM2
      go_wp2_with fail
      go_ret3
      exact ⟨by rw [Hsp2.out]; exact ⟨none, 0, rfl, trivial⟩, Hb2.out⟩
    | some bs =>
      have Hsp2 : Hid (matchSpec ar s t = (sortB bs, true, 0)) := by show _ = _; rw [Hsp.out, hgt]
      have hkk := Hk.out bs hgt ⟨fun i j x y hx => by simp at hx, fun x hx => by cases hx⟩
      have hss := Hs.out bs hgt
      have hbl : bs.length ≤ 1000 := by simp at hss; omega
      have H3 := hide (bindingsP_any _ w1.heap.size bs w2 hkk.1 hbl hkk.2 (HM2.out bs hgt))
      simp only [Option.isSome_some]
      clear hgt Hsp Hk Hs HM2 hkk hss
      go_wp2_with fail
      refine H3.out.mono ?_
      rintro e w3 ⟨a3, cap3, rfl, hin3, hb3⟩
      have Hb3 := hide (Hb2.out.trans (hb3.mono Hb2.out.size))
      have Hin3 := hide (Binds_imp (q := fun k => w.heap.size ≤ k) (fun k hk => Nat.le_trans Hb2.out.size hk) hin3)
      clear hb3 hin3
      go_wp2_with fail
      go_ret3
      exact ⟨by rw [Hsp2.out]; exact ⟨a3, cap3, (congrArg (fun n => Ending.returned (.tuple #[.slice a3 n cap3, .bool true, .int .i64 0])) (sortB_length bs).symm), Hin3.out⟩, Hb3.out⟩
  · have hb : (E != 0) = true := by simpa using h
    have Hsp : Hid (matchSpec ar s t = ([], false, E)) := by show _ = _; rw [matchSpec, if_neg (fun h' => h (HE.out.trans h')), HE.out]
    clear h
    go_wp2_with fail
    go_ret3
    exact ⟨by rw [Hsp.out]; exact ⟨none, 0, rfl, trivial⟩, hbw⟩

end Go.Proofs.YtbkedppkdhfpoabGreat

namespace Go.Proofs.YtbkedppkdhfpoabGreat
open Go.RowKit Go.Maps

/-- The unifier as it begins. -/
theorem AX.begun (w1 : World) : AX (fun k => w1.heap.size + 1 + 1 ≤ k) (w1.heap.size + 1 + 1) (w1.heap.size + 1) w1.heap.size ((w1.alloc (.map #[] 0)).alloc (.cells #[.slice none 0 0, .map (some w1.heap.size)] 298)) (.slice none 0 0) ([], []) := by
  have hz : (w1.alloc (.map #[] 0)).heap.size = w1.heap.size + 1 := World.size_alloc _ _
  refine ⟨cell_new 0 hz.symm, cell_new 1 hz.symm, ⟨[], ⟨rfl, Or.inl ⟨rfl, rfl⟩⟩, rfl⟩, ?_, fun k => ?_, by omega, by omega, by omega⟩
  · exact ((MapAt.made w1).below (below1 _ _)).congr (fun k => rfl)
  · rw [← hz]; simp

/-- What is handed back. -/
def UniOut (w w' : World) (r : List (Int × T) × Bool × Int) (e : Ending) : Prop :=
  ∃ la lc, e = .returned (.tuple #[.slice la r.1.length lc, .bool r.2.1, .int .i64 r.2.2]) ∧ Binds (fun k => w.heap.size ≤ k) w' r.1 la ∧ Below w.heap.size w w'
theorem UniOut.no {w w' : World} {x : Bool} {e : Int} (hb : Below w.heap.size w w') : UniOut w w' ([], x, e) (.returned (.tuple #[.slice none 0 0, .bool x, .int .i64 e])) := ⟨none, 0, rfl, trivial, hb⟩

set_option maxRecDepth 100000 in
set_option maxHeartbeats 1000000 in
theorem Unify_any (ar : List Int) (ga : Option Addr) (gcap : Nat) (s : T) (sa : Option Addr) (sc : Nat) (t : T) (ta : Option Addr) (tc : Nat) (w : World) (hg : Ints w ar ga) (hin : InL w s.args sa) (hin2 : InL w t.args ta) (N : Nat) (r : List (Int × T) × Bool × Int) (hr : unifyF N s t = some r) (hok : allErr ar [s, t] = 0) :
    Calls Tryz.prog 225 #[.agg #[.slice ga ar.length gcap], .agg #[.int .i64 s.v, .int .i64 s.f, .slice sa s.args.length sc], .agg #[.int .i64 t.v, .int .i64 t.f, .slice ta t.args.length tc]] w fun e w' => UniOut w w' r e := by
  obtain ⟨k1, k2, k3, k4⟩ := ok_two hok
  have hmm := @run_makeMap Tryz.prog
  have H1 := hide (fun o1 o2 o3 => subCheck_any ar ga gcap s sa sc t ta tc (((w.alloc o1).alloc o2).alloc o3) (Ints_alloc o3 (Ints_alloc o2 (Ints_alloc o1 hg))) (InP_alloc o3 (InP_alloc o2 (InP_alloc o1 hin))) (InP_alloc o3 (InP_alloc o2 (InP_alloc o1 hin2))))
  rw [hok] at H1
  have Hin := hide hin
  have Hin2 := hide hin2
  have K := hide (And.intro k1 (And.intro k2 (And.intro k3 k4)))
  have Hr := hide (unifyF_some hr)
  clear hg hin hin2 hr hok k1 k2 k3 k4
  go_enter Tryz.func225, Tryz.ntmps225
  go_wp2_with fail
  refine (H1.out _ _ _).mono ?_
  rintro e w1 ⟨rfl, hb1⟩
  have hz1 : w.heap.size + 3 ≤ w1.heap.size := by have := hb1.size; simp at this; omega
  have hbw : Below w.heap.size w w1 := (((below1 _ _).alloc (by simp) _).alloc (by simp; omega) _).trans (hb1.mono (by simp; omega))
  have h3s : Three w1 (w.heap.size + 1) (.int .i64 s.v) (.int .i64 s.f) (.slice sa s.args.length sc) := ((Three.new _ (by simp)).alloc _).below hb1
  have h3t : Three w1 (w.heap.size + 1 + 1) (.int .i64 t.v) (.int .i64 t.f) (.slice ta t.args.length tc) := (Three.new _ (by simp)).below hb1
  have hA0 := AX.begun w1
  obtain ⟨WU, hWU⟩ : ∃ WU, WU = (w1.alloc (.map #[] 0)).alloc (.cells #[.slice none 0 0, .map (some w1.heap.size)] 298) := ⟨_, rfl⟩
  rw [← hWU] at hA0
  have hzU : WU.heap.size = w1.heap.size + 1 + 1 := by rw [hWU, World.size_alloc, World.size_alloc]
  have hbU : Below w1.heap.size w1 WU := by rw [hWU]; exact below2 _ _ _
  obtain ⟨c0, c1, c2, _, _, _⟩ := (h3s.alloc (.map #[] 0)).alloc (.cells #[.slice none 0 0, .map (some w1.heap.size)] 298)
  have hinS : InP (fun k => k < w1.heap.size) WU s.args sa := InP_imp (fun k h => by have h : True ∧ k < w.heap.size := h; omega) (InP_below (hbw.trans (hbU.mono (by omega))) (InP_lt Hin.out))
  have hinT : InP (fun k => k < w1.heap.size) WU t.args ta := InP_imp (fun k h => by have h : True ∧ k < w.heap.size := h; omega) (InP_below (hbw.trans (hbU.mono (by omega))) (InP_lt Hin2.out))
  have H2 := hide (add_any ar (w1.heap.size + 1 + 1) w1.heap.size (w1.heap.size + 1) w1.heap.size (by omega) (Nat.le_refl _) (s.sz + 1) s sa sc ([], []) (.slice none 0 0) (fun k => w1.heap.size + 1 + 1 ≤ k) WU (by omega) K.out.2.1 (by have := K.out.1; simp; omega) (by have := K.out.1; simp; omega) (by omega) (fun k h => h) (fun k h => by omega) hA0 hinS)
  have H3T := hide (h3t.below hbU)
  have HinT := hide hinT
  have HA0 := hide hA0
  have HbU := hide hbU
  have Hbw := hide hbw
  have HzU := hide hzU
  have HWU := hide hWU
  clear h3s h3t hA0 hbU hbw hzU hinS hinT hb1
  go_wp2_with fail
  rw [← HWU.out]
  refine H2.out.mono ?_
  rintro e wA ⟨lA, rfl, hAX, hAF⟩
  clear H2 H1 hmm c0 c1 c2
  have hbA : Below w1.heap.size WU wA := hAF.below (by have := HzU.out; omega) (by omega) (Nat.le_refl _) (fun g hg => by cases hg)
  have hsA := (add_size _).1 s ([], []) (Nat.le_refl _)
  have hkA := (add_keys (ar := ar) _).1 s ([], []) (Nat.le_refl _) K.out.2.1 ⟨List.nodup_nil, fun x hx => by cases hx⟩
  obtain ⟨c0, c1, c2, _, _, _⟩ := H3T.out.same (hbA.block _ (by omega))
  have hzA := hAF.size
  obtain ⟨iA, hiA⟩ : ∃ i, i = (addT s ([], [])).1 := ⟨_, rfl⟩
  obtain ⟨SA, hSA⟩ : ∃ S, S = (addT s ([], [])).2 := ⟨_, rfl⟩
  have Hr2 := Hr.out
  rw [← hiA] at Hr2 ⊢
  rw [← hSA] at hsA hkA hAX Hr2
  have hsA : SA.1.length ≤ 0 + s.sz ∧ SA.2.length ≤ 0 + s.sz := hsA
  have HkA := hide hkA
  have H2 := hide (add_any ar (w1.heap.size + 1 + 1) w1.heap.size (w1.heap.size + 1) w1.heap.size (by omega) (Nat.le_refl _) (t.sz + 1) t ta tc SA lA (fun k => w1.heap.size + 1 + 1 ≤ k) wA (by omega) K.out.2.2.2 (by have := K.out; omega) (by have := K.out; omega) (by have := HzU.out; omega) (fun k h => h) (fun k h => by have := HzU.out; omega) hAX (InP_same (fun k hk _ => hbA.block k hk) HinT.out))
  have HAX := hide hAX
  have HbA := hide hbA
  have Hr3 := hide Hr2
  clear hAX hAF hbA hkA hiA hSA Hr2 Hr
  go_wp2_with fail
  refine H2.out.mono ?_
  rintro e wB ⟨lB, rfl, hBX, hBF⟩
  clear H2 c0 c1 c2
  have hbB : Below w1.heap.size wA wB := hBF.below (by have := HzU.out; omega) (by omega) (Nat.le_refl _) (fun g hg => by have := (HAX.out.outs.row g hg).1; omega)
  have hsB := (add_size _).1 t SA (Nat.le_refl _)
  have hkB := (add_keys (ar := ar) _).1 t SA (Nat.le_refl _) K.out.2.2.2 HkA.out
  have hzB := hBF.size
  obtain ⟨iB, hiB⟩ : ∃ i, i = (addT t SA).1 := ⟨_, rfl⟩
  obtain ⟨SB, hSB⟩ : ∃ S, S = (addT t SA).2 := ⟨_, rfl⟩
  have Hr2 := Hr3.out
  rw [← hiB] at Hr2 ⊢
  rw [← hSB] at hsB hkB hBX Hr2
  obtain ⟨ok, P2, hj, hrest⟩ := Hr2
  have hlen : SB.1.length ≤ 1000 ∧ SB.2.length ≤ 1000 := by have := K.out; omega
  have hPB : 0 < SB.1.length := by obtain ⟨_, x, _, _, h, _⟩ := joinF_some hj; have := headF_lt h; omega
  obtain ⟨b, c, _, hbb, hU⟩ := OutsU_end (base := w1.heap.size + 1 + 1) hBX.outs hBX.list hBX.ub hBX.fru hPB (by omega)
  have HJ := hide (show Calls Tryz.prog 260 _ wB fun e w' => e = .returned (.bool ok) ∧ UAt (fun k => w1.heap.size + 1 + 1 ≤ k ∧ k ≠ b) w' (w1.heap.size + 1) b c P2 ∧ wB.grownBy w' (some b) from join_any _ _ b c N SB.1 iA iB (ok, P2) wB hU hj)
  have Hbb := hide hbb
  have HBX := hide hBX
  have HkB := hide hkB
  have Hrest := hide hrest
  have HB3 := hide (Hbw.out.trans ((HbU.out.trans (HbA.out.trans hbB)).mono (by omega)))
  clear hBX hBF hbB hkB hiB hSB Hr3 hj hrest hU hbb hPB hsA hsB HkA HAX
  go_wp2_with fail
  refine HJ.out.mono ?_
  rintro e wC ⟨rfl, hUC, hgC⟩
  have HBC := hide (HB3.out.grown hgC (by have := HzU.out; omega) (fun k hk => by cases hk; have := Hbb.out; omega))
  have hzC := hgC.size
  have HUC := hide hUC
  have HgC := hide hgC
  clear HJ hUC hgC
  cases ok with
  | false =>
    have Hr4 : Hid (r = ([], false, 0)) := by
      rcases Hrest.out with ⟨_, h⟩ | ⟨h, _⟩
      · exact h
      · cases h
    clear Hrest
    go_wp2_with fail
    go_ret3
    rw [Hr4.out]
    exact UniOut.no HBC.out
  | true =>
    obtain ⟨m, P3, hm, hrest⟩ : ∃ m P3, measF N P2 iA = some (m, P3) ∧ _ := by
      rcases Hrest.out with ⟨h, _⟩ | ⟨_, h⟩
      · cases h
      · exact h
    have HM := hide (show Calls Tryz.prog 261 _ wC fun e w' => e = .returned (.int .i64 m) ∧ UAt (fun k => w1.heap.size + 1 + 1 ≤ k ∧ k ≠ b) w' (w1.heap.size + 1) b c P3 ∧ Upon b wC w' from meas_any _ _ b c N P2 iA (m, P3) wC HUC.out hm)
    have Hrest2 := hide hrest
    clear hm hrest Hrest
    go_wp2_with fail
    refine HM.out.mono ?_
    rintro e wD ⟨rfl, hUD, hupD⟩
    have HBD := hide (HBC.out.trans (hupD.below (by have := Hbb.out; omega)))
    have hzD : wD.heap.size = wC.heap.size := hupD.size
    have HUD := hide hUD
    have HupD := hide hupD
    have HzD := hide hzD
    clear HM hUD hupD hzD
    by_cases e1 : m = -1
    · have Hr4 : Hid (r = ([], false, 0)) := by
        rcases Hrest2.out with ⟨_, h⟩ | ⟨h, _⟩ | ⟨h, _⟩
        · exact h
        · exact absurd e1 h
        · exact absurd e1 h
      subst e1
      clear Hrest2
      go_wp2_with fail
      go_ret3
      rw [Hr4.out]
      exact UniOut.no HBD.out
    · have f1 : (m == -1) = false := by simpa using e1
      by_cases e2 : 120 < m
      · have Hr4 : Hid (r = ([], false, 2)) := by
          rcases Hrest2.out with ⟨h, _⟩ | ⟨_, _, h⟩ | ⟨_, h, _⟩
          · exact absurd h e1
          · exact h
          · exact absurd e2 (by omega)
        clear e1 Hrest2
        go_wp2_with fail
        go_ret3
        rw [Hr4.out]
        exact UniOut.no HBD.out
      · obtain ⟨bs, hbs, hrr⟩ : ∃ bs, outF P3 N (fun v => (lookN SB.2 v).getD 0) ((SB.2.map Prod.fst).mergeSort (fun x y => decide (x ≤ y))) = some bs ∧ r = (bs, true, 0) := by
          rcases Hrest2.out with ⟨h, _⟩ | ⟨_, h, _⟩ | ⟨_, _, h⟩
          · exact absurd h e1
          · exact absurd h e2
          · exact h
        have hul : w1.heap.size + 1 < wB.heap.size := by have := HzU.out; omega
        have hmc : wD.cell? ⟨w1.heap.size + 1, 1, none⟩ = some (.map (some w1.heap.size)) := by
          rw [HupD.out.cell (by have := Hbb.out; omega), World.cell?_of_block (w := wB) (a := ⟨w1.heap.size + 1, 1, none⟩) (HgC.out.block (w1.heap.size + 1) hul (fun e => by have h9 := Hbb.out; have h8 : w1.heap.size + 1 = b := (by simpa using e); omega))]
          exact HBX.out.map
        have hMD : MapAt wD w1.heap.size SB.2.length (fun v => (lookN SB.2 v).map (fun n : Nat => Value.int .i64 (n : Int))) := HBX.out.mp.same (by
          rw [HupD.out.block _ (by have := Hbb.out; omega), HgC.out.block _ (by omega) (fun e => by have := Hbb.out; cases e; omega)])
        have H4 := hide (bindU_any _ _ b c P3 N w1.heap.size SB.2.length _ (SB.2.map Prod.fst) (fun v => (lookN SB.2 v).getD 0) bs wD HUD.out hmc hMD (by omega) HkB.out.1 (fun x => by rw [lookN_isSome]; cases lookN SB.2 x <;> rfl) (fun x hx => by
          have h1 := HkB.out.2 x hx
          rw [lookN_isSome] at hx
          refine ⟨?_, h1.1, by omega⟩
          cases hl : lookN SB.2 x with
          | none => rw [hl] at hx; cases hx
          | some n => rfl) (by rw [List.length_map]; omega) hbs)
        have Hrr := hide hrr
        clear e1 hbs hrr hmc hMD Hrest2 HBX
        go_wp2_with fail
        refine H4.out.mono ?_
        rintro e wE ⟨a3, cap3, rfl, hin3, hb3⟩
        have Hb3 := hide (HBD.out.trans (hb3.mono HBD.out.size))
        have Hin3 := hide (Binds_imp (q := fun k => w.heap.size ≤ k) (fun k hk => Nat.le_trans HBD.out.size hk) hin3)
        clear hb3 hin3
        go_wp2_with fail
        go_ret3
        rw [Hrr.out]
        exact ⟨a3, cap3, rfl, Hin3.out, Hb3.out⟩

end Go.Proofs.YtbkedppkdhfpoabGreat

namespace Go.Proofs.YtbkedppkdhfpoabGreat
open Go.RowKit

theorem all_one {ar : List Int} (h : sigErr ar = 0) (t : T) : allErr ar [t] = termErr ar t := by
  rw [allErr, if_pos h, termsErr]
  by_cases h1 : termErr ar t = 0
  · rw [if_pos h1, h1]; rfl
  · rw [if_neg h1]

set_option maxRecDepth 100000 in
set_option maxHeartbeats 1000000 in
theorem checkBindings_any (ar : List Int) (ga : Option Addr) (gcap : Nat) (bs : List (Int × T)) (a : Option Addr) (cap : Nat) (w : World) (p : Nat → Prop) (hl : bs.length ≤ 9223372036854775807) (hg : Ints w ar ga) (hin : Binds p w bs a) :
    Calls Tryz.prog 294 #[.agg #[.slice ga ar.length gcap], .slice a bs.length cap] w fun e w' => e = .returned (.int .i64 (bindsErr ar bs)) ∧ Below w.heap.size w w' := by
  go_enter Tryz.func294, Tryz.ntmps294
  go_wp2_with fail
  refine (signature_any ar ga gcap _ (Ints_alloc _ hg)).mono ?_
  rintro e w1 ⟨rfl, hb1⟩
  have hz1 : w.heap.size < w1.heap.size := by have := hb1.size; simp at this; omega
  have hbw : Below w.heap.size w w1 := (below1 _ _).trans (hb1.mono (by simp))
  have cg : w1.cell? ⟨w.heap.size, 0, none⟩ = some (.slice ga ar.length gcap) := by
    rw [hb1.cell (p := ⟨w.heap.size, 0, none⟩) (by simp), cell_new _ rfl]; rfl
  clear hb1
  by_cases hs : sigErr ar = 0
  · have hfin : bindsErr ar bs = bindErr ar 0 bs := by rw [bindsErr, if_pos hs]
    have Hfin := hide hfin
    have Hone := hide (all_one hs)
    rw [hs]
    clear hfin hs
    go_wp2_with fail
    go_loopw [6, 17] (fun l i wr => ∃ (k : Nat), k ≤ bs.length ∧ i = .int .i64 k ∧ l = .int .i64 (lastB bs k) ∧ Hid (bindErr ar 0 bs = bindErr ar (lastB bs k) (bs.drop k)) ∧ Below w1.heap.size w1 wr) (fun _ i _ => bs.length - (intOf i).toNat)
    case atStart => exact ⟨0, Nat.zero_le _, rfl, rfl, rfl, Below.refl _ _⟩
    case round =>
      obtain ⟨k, hk, rfl, rfl, HL, hb⟩ := hrel
      have hzr := hb.size
      have hbR : Below w.heap.size w wr := hbw.trans (hb.mono (by omega))
      by_cases hlt : k < bs.length
      · have hin' := Binds_below hb (Binds_below hbw hin)
        have Hg' := hide (Ints_below hb (Ints_below hbw hg))
        obtain ⟨b, off, rfl⟩ := Binds_some hin (by omega)
        obtain ⟨x, hx⟩ : ∃ x, bs[k]? = some x := ⟨bs[k], List.getElem?_eq_getElem hlt⟩
        obtain ⟨a1, cap1, _, c0, c1, c2, c3, hin1⟩ := Binds_at hin' hx
        have Hst := hide (HL.out.trans (bindErr_step hx))
        have Hls := hide (lastB_succ hx)
        have cg' : wr.cell? ⟨w.heap.size, 0, none⟩ = some (.slice ga ar.length gcap) := cell_below hb cg
        have hgw : w.heap.size < wr.heap.size := by omega
        have hkI : (k : Int) < bs.length := by omega
        have hk0 : (0 : Int) ≤ k := by omega
        have HC := hide (fun o => Check_any ar ga gcap x.2 a1 cap1 (wr.alloc o) (Ints_alloc o Hg'.out) (InP_alloc o (InP_imp (q := fun _ => True) (fun _ _ => trivial) hin1)))
        have HbA := hide (fun o => hbR.alloc (show w.heap.size ≤ wr.heap.size by omega) o)
        have HbB := hide (fun o => hb.alloc hzr o)
        have hbb := lt_of_cell c0
        clear hx HL hin hin' hin1
        by_cases h1 : x.1 < 1
        · rw [if_pos (Or.inl h1)] at Hst
          go_wp2_with fail
          go_ret
          exact ⟨ret_int (by rw [Hfin.out, Hst.out]), HbA.out _⟩
        · by_cases h2 : 1000 < x.1
          · rw [if_pos (Or.inr h2)] at Hst
            go_wp2_with fail
            go_ret
            exact ⟨ret_int (by rw [Hfin.out, Hst.out]), HbA.out _⟩
          · rw [if_neg (by omega)] at Hst
            by_cases h3 : x.1 ≤ lastB bs k
            · rw [if_pos h3] at Hst
              go_wp2_with fail
              go_ret
              exact ⟨ret_int (by rw [Hfin.out, Hst.out]), HbA.out _⟩
            · rw [if_neg h3] at Hst
              go_wp2_with fail
              refine (HC.out _).mono ?_
              rintro e w2 ⟨rfl, hb2⟩
              rw [Hone.out]
              have hz2 := hb2.size
              rw [World.size_alloc] at hz2
              have Hb2 := hide ((HbB.out _).trans (hb2.mono (by rw [World.size_alloc]; omega)))
              have Hb3 := hide ((HbA.out _).trans (hb2.mono (by rw [World.size_alloc]; omega)))
              have d0 : w2.cell? ⟨wr.heap.size, 0, none⟩ = some (.int .i64 x.1) := cell_below hb2 (by rw [cell_new 0 rfl]; rfl)
              clear HC HbA HbB hb2
              by_cases h4 : termErr ar x.2 = 0
              · rw [if_pos h4] at Hst
                rw [h4]
                clear h4
                go_wp2_with fail
                go_roundw
                case rel => exact ⟨k + 1, by omega, by go_num, by rw [Hls.out], by rw [Hls.out]; exact Hst.out, Hb2.out⟩
                case measure => simp [intOf]; omega
              · rw [if_neg h4] at Hst
                have h4' : (termErr ar x.2 != 0) = true := by simpa using h4
                clear h4
                go_wp2_with fail
                go_ret
                exact ⟨ret_int (by rw [Hfin.out, Hst.out]), Hb3.out⟩
      · have hk2 : k = bs.length := by omega
        subst hk2
        have Hek : Hid (bindErr ar 0 bs = 0) := by show _ = _; rw [HL.out, List.drop_length]; rfl
        clear HL
        go_wp2_with fail
        go_ret
        exact ⟨ret_int (by rw [Hfin.out, Hek.out]), hbR⟩
  · have hfin : bindsErr ar bs = sigErr ar := by rw [bindsErr, if_neg hs]
    have Hfin := hide hfin
    have hs1 : (sigErr ar != 0) = true := by simpa using hs
    clear hfin hs
    generalize sigErr ar = sg at *
    go_wp2_with fail
    go_ret
    exact ⟨ret_int Hfin.out.symm, hbw⟩

end Go.Proofs.YtbkedppkdhfpoabGreat
