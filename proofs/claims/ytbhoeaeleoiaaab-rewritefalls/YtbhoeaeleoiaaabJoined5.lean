/- What the program's order asks of two parts, and keeps in its table. The program's order of two terms. The program's Greater and Compare. Putting in, as plain data: what stays right, how big it becomes, and that the order stays. No word of the program's memory here. Rules, as they lie there; the program's Check of them. Matching, as plain data: by which bindings is a pattern a term? No word of the program's memory here. All parts of a term, in a list of the call's own. A list of terms of the call's own, and what lies behind each of them. The document's FirstVars. Numbers appended to a list of the call's own: some, or none. The document's Rising. What stands fast within one round of the document's own order: what the round reads, and where it lies. How bindings lie in memory; which one a variable has. What is wrong with bindings: the document's check, and the program's. -/
import Derived.BigQuiet
import Derived.Deep.CutBlock
import Derived.Deep.DeepCutAuto
import Derived.Deep.DrawnRows
import Derived.Deep.RegionHeld3
import Derived.Deep.RegionLaw
import Derived.Laws.AppendOwnNone
import Derived.Lib.SlicesCompact
import Derived.Maps.AppendAt
import Derived.Test.YtbhoeaeleoiaaabJoined4
namespace Go.Proofs.Ytbhoeaeleoiaaab
open Go.RowKit

theorem belowT (w : World) (o1 o2 o3 : Obj) : Below w.heap.size w (((w.alloc o1).alloc o2).alloc o3) := (below2 w o1 o2).alloc (by simp; omega) o3

set_option maxRecDepth 100000 in
set_option maxHeartbeats 2000000 in
theorem ask_any (b : TB) (n : Nat) (hup : IsUp b n) (s : T) (i : Nat) (t : T) (j : Nat) (sa : Option Addr) (sc : Nat) (spa : Option Addr) (spc : Nat) (ta : Option Addr) (tc : Nat) (tpa : Option Addr) (tpc : Nat) (w : World) (hn : s.sz + t.sz ≤ n + 1) (hs : PA b b.PS w s i sa spa spc) (ht : PA b b.PT w t j ta tpa tpc) (htab : TabOK b n w) :
    Calls Try.prog 107 #[tv b, pv s i sa sc spa spc, pv t j ta tc tpa tpc] w fun e w' => e = .returned (.int .i8 (cmpS s t)) ∧ GS b n w w' := by
  have hsl : s.args.length ≤ 1000 := by have := T.length_le s.args; have := T.sz_eq s; have := hs.sz; omega
  have htl : t.args.length ≤ 1000 := by have := T.length_le t.args; have := T.sz_eq t; have := ht.sz; omega
  have hb := fun o1 o2 o3 => belowT w o1 o2 o3
  have hk := fun o1 o2 o3 => KT.of_below (b := b) (belowT w o1 o2 o3)
  by_cases h0 : s.v = 0
  · have e0 : (s.v != 0) = false := by simpa using h0
    by_cases hA : t.v ≠ 0 ∨ s.f < t.f
    · have Hfin := hide (cmp_byArg hs.ok ht.ok h0 hA)
      have HA := hide (fun o1 o2 o3 => byArg_any b n hup s.args (i + 1) spa spc t j ta tc tpa tpc (((w.alloc o1).alloc o2).alloc o3) (fun x hx => by
        have h9 := arg_sz hx
        have h8 := hs.sz
        exact ⟨okArg hs.ok hx, by omega, by omega⟩) hsl (PL_kt (hk o1 o2 o3) hs.pl) hs.sub (ht.kt (hk o1 o2 o3)) (htab.gs (GS.of_below (hb o1 o2 o3))))
      have HB := hide (fun o1 o2 o3 => GS.of_below (b := b) (n := n) (hb o1 o2 o3))
      obtain ⟨Z, hZ⟩ : ∃ Z, Z = cmpS s t := ⟨_, rfl⟩
      rw [← Hfin.out, ← hZ] at HA
      rw [← hZ]
      clear Hfin hZ hb hk hup hs ht htab h0
      by_cases h1 : t.v = 0
      · have e1 : (t.v != 0) = false := by simpa using h1
        have hlt : s.f < t.f := hA.resolve_left (fun h => h h1)
        clear hA h1
        go_enter Try.func107, Try.ntmps107
        go_wp2_with fail
        refine (HA.out _ _ _).mono ?_
        rintro e w4 ⟨rfl, hg4⟩
        have H4 := hide ((HB.out _ _ _).trans hg4)
        clear hg4
        go_wp2_with fail
        go_ret
        exact ⟨rfl, H4.out⟩
      · have e1 : (t.v != 0) = true := by simpa using h1
        clear hA h1
        go_enter Try.func107, Try.ntmps107
        go_wp2_with fail
        refine (HA.out _ _ _).mono ?_
        rintro e w4 ⟨rfl, hg4⟩
        have H4 := hide ((HB.out _ _ _).trans hg4)
        clear hg4
        go_wp2_with fail
        go_ret
        exact ⟨rfl, H4.out⟩
    · have h1 : t.v = 0 := by
        rcases Classical.em (t.v = 0) with h | h
        · exact h
        · exact absurd (Or.inl h) hA
      have hnl : ¬ s.f < t.f := fun h => hA (Or.inr h)
      have e1 : (t.v != 0) = false := by simpa using h1
      by_cases hgt : t.f < s.f
      · have Hfin := hide (cmp_above hs.ok ht.ok h0 h1 hgt)
        have HA := hide (fun o1 o2 o3 => above_any b n hup s i sa sc spa spc t.args (j + 1) tpa tpc (((w.alloc o1).alloc o2).alloc o3) (fun x hx => by
          have h9 := arg_sz hx
          have h8 := ht.sz
          exact ⟨okArg ht.ok hx, by omega, by omega⟩) htl (PL_kt (hk o1 o2 o3) ht.pl) ht.sub (hs.kt (hk o1 o2 o3)) (htab.gs (GS.of_below (hb o1 o2 o3))))
        have HB := hide (fun o1 o2 o3 => GS.of_below (b := b) (n := n) (hb o1 o2 o3))
        obtain ⟨Z, hZ⟩ : ∃ Z, Z = cmpS s t := ⟨_, rfl⟩
        rw [← Hfin.out, ← hZ] at HA
        rw [← hZ]
        clear Hfin hZ hb hk hup hs ht htab h0 h1 hA
        go_enter Try.func107, Try.ntmps107
        go_wp2_with fail
        refine (HA.out _ _ _).mono ?_
        rintro e w4 ⟨rfl, hg4⟩
        have H4 := hide ((HB.out _ _ _).trans hg4)
        clear hg4
        go_wp2_with fail
        go_ret
        exact ⟨rfl, H4.out⟩
      · have hf : s.f = t.f := by omega
        have HA := hide (fun o1 o2 o3 => askArgs_any b n hup s i t j sa sc spa spc ta tc tpa tpc (((w.alloc o1).alloc o2).alloc o3) hn h0 h1 hf (hs.kt (hk o1 o2 o3)) (ht.kt (hk o1 o2 o3)) (htab.gs (GS.of_below (hb o1 o2 o3))))
        have HB := hide (fun o1 o2 o3 => GS.of_below (b := b) (n := n) (hb o1 o2 o3))
        obtain ⟨Z, hZ⟩ : ∃ Z, Z = cmpS s t := ⟨_, rfl⟩
        rw [← hZ] at HA ⊢
        clear hZ hb hk hup hs ht htab h0 h1 hA hf
        go_enter Try.func107, Try.ntmps107
        go_wp2_with fail
        refine (HA.out _ _ _).mono ?_
        rintro e w4 ⟨rfl, hg4⟩
        have H4 := hide ((HB.out _ _ _).trans hg4)
        clear hg4
        go_wp2_with fail
        go_ret
        exact ⟨rfl, H4.out⟩
  · have e0 : (s.v != 0) = true := by simpa using h0
    have Hfin := hide (cmp_var hs.ok ht.ok h0)
    obtain ⟨Z, hZ⟩ : ∃ Z, Z = cmpS s t := ⟨_, rfl⟩
    rw [← hZ] at Hfin ⊢
    have HB := hide (fun o1 o2 o3 => GS.of_below (b := b) (n := n) (hb o1 o2 o3))
    by_cases h1 : s.v = t.v
    · have e1 : (s.v == t.v) = true := by simpa using h1
      obtain rfl : Z = 2 := by rw [Hfin.out, if_pos h1]
      clear hZ hb hk hup hs ht htab h0 h1 Hfin
      go_enter Try.func107, Try.ntmps107
      go_wp2_with fail
      go_ret
      exact ⟨rfl, HB.out _ _ _⟩
    · have e1 : (s.v == t.v) = false := by simpa using h1
      obtain rfl : Z = 3 := by rw [Hfin.out, if_neg h1]
      clear hZ hb hk hup hs ht htab h0 h1 Hfin
      go_enter Try.func107, Try.ntmps107
      go_wp2_with fail
      go_ret
      exact ⟨rfl, HB.out _ _ _⟩

theorem cellT {w w' : World} {b o : Nat} {v : Value} (hb : Below w.heap.size w w') (h : w.cell? ⟨b, o, none⟩ = some v) : w'.cell? ⟨b, o, none⟩ = some v := by
  rw [hb.cell (p := ⟨b, o, none⟩) (lt_of_cell h)]; exact h
/-- What was asked is written down. -/
theorem memo_step {b : TB} {n : Nat} {w w4 : World} {i j : Nat} {s t : T} (hi : i < b.R) (hj : j < b.C) (hs : b.PS[i]? = some s) (ht : b.PT[j]? = some t) (hn1 : s.sz + t.sz = n + 1) (hg : GS b n w w4) : GS b (n + 1) w (w4.setCell ⟨b.K, i * b.C + j, none⟩ (.int .i8 (cmpS s t))) := by
  refine ⟨hg.kt.set _ _, fun M hM hC => ?_⟩
  obtain ⟨M', g1, g2, g3⟩ := hg.st M hM (hC.mono (by omega))
  refine ⟨_, g1.set hi hj (cmpS s t), fun i' j' s' t' hs' ht' hz => ?_, fun i' j' s' t' hs' ht' hz => ?_⟩
  · by_cases e : i' = i ∧ j' = j
    · obtain ⟨rfl, rfl⟩ := e
      rw [hs] at hs'; rw [ht] at ht'
      obtain rfl : s = s' := Option.some.inj hs'
      obtain rfl : t = t' := Option.some.inj ht'
      simp
    · simp only [if_neg e]
      rcases Nat.lt_or_ge n (s'.sz + t'.sz) with h | h
      · rw [g3 i' j' s' t' hs' ht' h]; exact hC i' j' s' t' hs' ht' hz
      · exact g2 i' j' s' t' hs' ht' h
  · have e : ¬ (i' = i ∧ j' = j) := fun e => by
      obtain ⟨rfl, rfl⟩ := e
      rw [hs] at hs'; rw [ht] at ht'
      obtain rfl : s = s' := Option.some.inj hs'
      obtain rfl : t = t' := Option.some.inj ht'
      omega
    simp only [if_neg e]
    exact g3 i' j' s' t' hs' ht' (by omega)

set_option maxRecDepth 100000 in
set_option maxHeartbeats 2000000 in
theorem isUp (b : TB) (hok : b.Ok) : ∀ n, IsUp b n := by
  intro n
  induction n with
  | zero => intro s i t j sa sc spa spc ta tc tpa tpc w hn; have := s.sz_pos; omega
  | succ n ih =>
    intro s i t j sa sc spa spc ta tc tpa tpc w hn hs ht htab
    rcases Nat.lt_or_ge n (s.sz + t.sz) with hlt | hlt
    · have hn1 : s.sz + t.sz = n + 1 := by omega
      rw [hn1] at htab ⊢
      have hi : i < b.R := by
        rw [hok.hR]
        rcases Nat.lt_or_ge i b.PS.length with h | h
        · exact h
        · have := hs.num; rw [List.getElem?_eq_none h] at this; cases this
      have hj : j < b.C := by
        rw [hok.hC]
        rcases Nat.lt_or_ge j b.PT.length with h | h
        · exact h
        · have := ht.num; rw [List.getElem?_eq_none h] at this; cases this
      have htab0 := htab
      obtain ⟨M, hM, hC⟩ := htab
      have hr1 := hok.r1
      have hc1 := hok.c1
      have hNb : b.R * b.C ≤ 1000000 := Nat.mul_le_mul hr1 hc1
      have hql := idx_lt hi hj
      obtain ⟨p, hp⟩ : ∃ p, p = i * b.C := ⟨_, rfl⟩
      obtain ⟨q, hq⟩ : ∃ q, q = p + j := ⟨_, rfl⟩
      have hqe : i * b.C + j = q := by rw [hq, hp]
      have hw1 : IntKind.i64.wrap ((i : Int) * (b.C : Int)) = (p : Int) := by
        have e : ((i : Int) * (b.C : Int)) = (p : Int) := by rw [hp, Int.natCast_mul]
        rw [e]; exact wrap_ok _ (by omega) (by omega)
      have hw2 : IntKind.i64.wrap ((p : Int) + (j : Int)) = (q : Int) := by
        have e : ((p : Int) + (j : Int)) = (q : Int) := by rw [hq]; omega
        rw [e]; exact wrap_ok _ (by omega) (by omega)
      have cE := hM.ent i j hi hj
      have fE := hM.fr q
      have lK := hM.lt
      rw [hqe] at cE hql
      have Hqe := hide hqe
      obtain ⟨NN, hNN⟩ : ∃ NN, NN = b.R * b.C := ⟨_, rfl⟩
      have HNN := hide hNN
      have hq0 : (0 : Int) ≤ (q : Int) := by omega
      have hq1 : (q : Int) < (NN : Int) := by omega
      show Calls Try.prog 72 #[.agg #[.slice (some ⟨b.K, 0, none⟩) (b.R * b.C) (b.R * b.C), .int .i64 (b.C : Int)], pv s i sa sc spa spc, pv t j ta tc tpa tpc] w _
      rw [← hNN]
      have hb := fun o1 o2 o3 => belowT w o1 o2 o3
      have HB := hide (fun o1 o2 o3 => GS.of_below (b := b) (n := n + 1) (hb o1 o2 o3))
      have HZ0 := hide (show cmpS s t ≠ 0 from by rcases cmpS_range s t with h | h | h <;> rw [h] <;> decide)
      by_cases h0 : M i j = 0
      · rw [h0] at cE
        have HA := hide (fun o1 o2 o3 => (show Calls Try.prog 107 #[.agg #[.slice (some ⟨b.K, 0, none⟩) NN NN, .int .i64 (b.C : Int)], pv s i sa sc spa spc, pv t j ta tc tpa tpc] (((w.alloc o1).alloc o2).alloc o3) (fun e w' => e = .returned (.int .i8 (cmpS s t)) ∧ GS b n (((w.alloc o1).alloc o2).alloc o3) w') from by rw [hNN]; exact ask_any b n ih s i t j sa sc spa spc ta tc tpa tpc (((w.alloc o1).alloc o2).alloc o3) (by omega) (hs.kt (KT.of_below (hb o1 o2 o3))) (ht.kt (KT.of_below (hb o1 o2 o3))) ((htab0.mono (by omega)).gs (GS.of_below (hb o1 o2 o3)))))
        have HM := hide (fun (w4 : World) (hg : GS b n w w4) => memo_step hi hj hs.num ht.num hn1 hg)
        have HC4 := hide (fun (w4 : World) (hg : GS b n w w4) => (show (∃ v, w4.cell? ⟨b.K, q, none⟩ = some (.int .i8 v)) ∧ w4.frozen? ⟨b.K, q, none⟩ = false from by
          obtain ⟨M', g1, _, _⟩ := hg.st M hM (hC.mono (by omega))
          have h9 := g1.ent i j hi hj
          rw [hqe] at h9
          exact ⟨⟨_, h9⟩, g1.fr q⟩))
        have HB2 := hide (fun o1 o2 o3 => GS.of_below (b := b) (n := n) (hb o1 o2 o3))
        obtain ⟨Z, hZ⟩ : ∃ Z, Z = cmpS s t := ⟨_, rfl⟩
        rw [← hZ] at HA HM ⊢
        have cE3 := fun o1 o2 o3 => cellT (belowT w o1 o2 o3) cE
        clear hZ HZ0 HB hb hM hC htab0 hs ht ih h0 hNN hqe hp hq hNb hql hn1 hlt hn hok cE
        go_enter Try.func72, Try.ntmps72
        go_wp2_with fail
        with_reducible refine (HA.out _ _ _).mono ?_
        rintro e w4 ⟨rfl, hg4⟩
        have Hg4 := hide ((HB2.out _ _ _).trans hg4)
        obtain ⟨⟨v4, c4⟩, f4⟩ := HC4.out _ Hg4.out
        have HF := hide (HM.out _ Hg4.out)
        rw [Hqe.out] at HF
        clear hg4 HM HC4 HA
        go_wp2_with fail
        go_ret
        exact ⟨rfl, HF.out⟩
      · have hv : M i j = cmpS s t := (hC i j s t hs.num ht.num (by omega)).resolve_left h0
        rw [hv] at cE
        obtain ⟨Z, hZ⟩ : ∃ Z, Z = cmpS s t := ⟨_, rfl⟩
        rw [← hZ] at cE HZ0 ⊢
        have hz0 : (Z == 0) = false := by simpa using HZ0.out
        have cE3 := fun o1 o2 o3 => cellT (belowT w o1 o2 o3) cE
        clear hZ HZ0 hb hM hC htab0 hs ht ih h0 hNN hqe hp hq hNb hql hn1 hlt hn hok hv cE
        go_enter Try.func72, Try.ntmps72
        go_wp2_with fail
        go_ret
        exact ⟨rfl, HB.out _ _ _⟩
    · exact ih s i t j sa sc spa spc ta tc tpa tpc w hlt hs ht htab

end Go.Proofs.Ytbhoeaeleoiaaab

namespace Go.Proofs.Ytbhoeaeleoiaaab
open Go.RowKit

theorem Try.underlying113 : Try.prog.underlying 113 = some (.slice 116) := by kernel_rfl
theorem Try.info116 : (Try.prog.info? 116).map (fun i => (i.zero, i.size, i.bytes)) = some (some (.int .i8 0), 1, 1) := by kernel_rfl

def row8 (n : Nat) : Array Value := madeCells #[.int .i8 0] (n * 1)
theorem run_make8 (n : Nat) (hn : n ≤ 1000000) (w : World) : (Instr.makeSlice 113 (.int .i64 (n : Int)) (.int .i64 (n : Int))).run Try.prog w = .ok (.slice (some ⟨w.heap.size, 0, none⟩) n n) (w.alloc (.cells (row8 n) 116)) := by
  obtain ⟨i, hi, hzz⟩ := Option.map_eq_some_iff.1 Try.info116
  simp only [Prod.mk.injEq] at hzz
  obtain ⟨hz, hs, hb⟩ := hzz
  have hr := run_make (P := Try.prog) w 113 116 i _ Try.underlying113 hi hz .i64 .i64 n n (by omega) (Int.le_refl _) (by rw [hb]; omega) (by omega)
  simp only [Int.toNat_natCast, hs] at hr
  exact hr
theorem row8_at {n j : Nat} (h : j < n) : (row8 n)[j]? = some (.int .i8 0) := by
  simp [row8, madeCells, h, Nat.mod_one]

theorem pre_head (t : T) : (pre t)[0]? = some t := by rw [pre_eq]; rfl
theorem pre_subs (t : T) : Subs (pre t) 1 t.args := ⟨[], by rw [pre_eq, List.append_nil]; rfl⟩
theorem pre_len (t : T) : (pre t).length = t.sz := (pre_length _).1 t (Nat.le_refl _)

theorem numbered0 (r : Nat → Prop) (t : T) (a : Option Addr) (cap : Nat) (w : World) (h120 : t.sz ≤ 120) (hr : ∀ k, r k → k < w.heap.size) (hin : InP r w t.args a) :
    Calls Try.prog 71 #[.agg #[.int .i64 t.v, .int .i64 t.f, .slice a t.args.length cap], .int .i64 0] w fun e w' =>
      ∃ pa pc, e = .returned (.tuple #[.agg #[.int .i64 t.v, .int .i64 t.f, .slice a t.args.length cap, .int .i64 0, .slice pa t.args.length pc], .int .i64 (t.sz : Int)]) ∧
        t.args.length ≤ pc ∧ PL (fun k => w.heap.size ≤ k) r w' t.args 1 pa ∧ Below w.heap.size w w' := by
  have h := numbered_any r 120 t 0 a cap w h120 (by omega) (by omega) hr hin
  rw [Nat.zero_add, Nat.zero_add] at h
  exact h

set_option maxRecDepth 100000 in
set_option maxHeartbeats 2000000 in
theorem great_any (ar : List Int) (s : T) (sa : Option Addr) (sc : Nat) (t : T) (ta : Option Addr) (tc : Nat) (w : World) (hs : okP ar s) (ht : okP ar t) (hs1 : s.sz ≤ 120) (ht1 : t.sz ≤ 120) (hin : InL w s.args sa) (hin2 : InL w t.args ta) :
    Calls Try.prog 35 #[.agg #[.int .i64 s.v, .int .i64 s.f, .slice sa s.args.length sc], .agg #[.int .i64 t.v, .int .i64 t.f, .slice ta t.args.length tc]] w fun e w' => e = .returned (.bool (gt s t)) ∧ Below w.heap.size w w' := by
  have hNb : s.sz * t.sz ≤ 14400 := Nat.mul_le_mul hs1 ht1
  obtain ⟨N, hN⟩ : ∃ N, N = s.sz * t.sz := ⟨_, rfl⟩
  have hwm : IntKind.i64.wrap ((s.sz : Int) * (t.sz : Int)) = (N : Int) := by
    have e : ((s.sz : Int) * (t.sz : Int)) = (N : Int) := by rw [hN, Int.natCast_mul]
    rw [e]; exact wrap_ok _ (by omega) (by omega)
  have hmk8 := run_make8 N (by omega)
  have HN := hide hN
  have H1 := hide (fun o1 o2 => numbered0 (fun k => k < w.heap.size) s sa sc ((w.alloc o1).alloc o2) hs1 (fun k hk => by have hk : k < w.heap.size := hk; simp; omega) (InP_alloc o2 (InP_alloc o1 (InP_imp (fun _ h => h.2) (InP_lt hin)))))
  clear hN hNb
  go_enter Try.func35, Try.ntmps35
  go_wp2_with fail
  refine (H1.out _ _).mono ?_
  rintro e w1 ⟨pa1, pc1, rfl, hpc1, hpl1, hb1⟩
  have hz1 := hb1.size
  simp at hz1
  have hbw1 : Below w.heap.size w w1 := (below2 _ _ _).trans (hb1.mono (by simp; omega))
  have h3t : Three w1 (w.heap.size + 1) (.int .i64 t.v) (.int .i64 t.f) (.slice ta t.args.length tc) := (Three.new 28 (by simp)).below hb1
  obtain ⟨d0, d1, d2, _, _, _⟩ := h3t
  have hq1 : w.heap.size + 1 < w1.heap.size := by omega
  have H2 := hide (fun o => numbered0 (fun k => k < w.heap.size) t ta tc (w1.alloc o) ht1 (fun k hk => by have hk : k < w.heap.size := hk; simp; omega) (InP_alloc o (InP_below hbw1 (InP_imp (fun _ h => h.2) (InP_lt hin2)))))
  have Hpl1 := hide hpl1
  have Hpc1 := hide hpc1
  clear H1 hpl1 hb1 hpc1
  go_wp2_with fail
  refine (H2.out _).mono ?_
  rintro e w2 ⟨pa2, pc2, rfl, hpc2, hpl2, hb2⟩
  have hz2 := hb2.size
  simp at hz2
  have hb12 : Below w1.heap.size w1 w2 := (below1 _ _).trans (hb2.mono (by simp))
  have hbw2 : Below w.heap.size w w2 := hbw1.trans (hb12.mono (by omega))
  obtain ⟨WT, hWT⟩ : ∃ WT, WT = ((w2.alloc (.cells #[.int .i64 t.v, .int .i64 t.f, .slice ta t.args.length tc, .int .i64 0, .slice pa2 t.args.length pc2] 110)).alloc (.cells (row8 N) 116)).alloc (.cells #[.slice (some ⟨w2.heap.size + 1, 0, none⟩) N N, .int .i64 (t.sz : Int)] 115) := ⟨_, rfl⟩
  have hb2T : Below w2.heap.size w2 WT := by rw [hWT]; exact ((below1 _ _).alloc (by simp) _).alloc (by simp; omega) _
  have hb1T : Below w1.heap.size w1 WT := hb12.trans (hb2T.mono (by omega))
  have hbwT : Below w.heap.size w WT := hbw1.trans (hb1T.mono (by omega))
  have g1 : ∀ o, (w2.alloc o).heap.size = w2.heap.size + 1 := fun o => World.size_alloc _ _
  have g2 : ∀ o o', ((w2.alloc o).alloc o').heap.size = w2.heap.size + 1 + 1 := fun o o' => by rw [World.size_alloc, g1]
  have hzT : WT.heap.size = w2.heap.size + 1 + 1 + 1 := by rw [hWT, World.size_alloc, g2]
  have hheap : WT.heap[w2.heap.size + 1]? = some (.cells (row8 N) 116) := by
    rw [hWT, Below.heap_alloc _ _ _ (by rw [g2]; omega)]
    have h9 := heap_alloc_new (w2.alloc (.cells #[.int .i64 t.v, .int .i64 t.f, .slice ta t.args.length tc, .int .i64 0, .slice pa2 t.args.length pc2] 110)) (.cells (row8 N) 116)
    rw [g1] at h9
    exact h9
  obtain ⟨bt, hbt⟩ : ∃ bt : TB, bt = { K := w2.heap.size + 1, R := s.sz, C := t.sz, PS := pre s, PT := pre t, ar := ar } := ⟨_, rfl⟩
  have hq : ∀ b', b' < w2.heap.size + 1 → bt.q b' := fun b' hb' => by
    subst hbt
    show b' ≠ w2.heap.size + 1
    omega
  have hok : bt.Ok := by
    subst hbt
    exact ⟨(pre_len s).symm, (pre_len t).symm, by show s.sz ≤ 1000; omega, by show t.sz ≤ 1000; omega⟩
  have hpas : PA bt bt.PS WT s 0 sa pa1 pc1 := by
    refine ⟨by subst hbt; exact hs, by subst hbt; exact pre_head s, by subst hbt; exact pre_subs s, ?_, ?_, by omega, Hpc1.out⟩
    · exact InP_imp (fun k' hk' => hq k' (by have := hk'.2; omega)) (InP_below hbwT (InP_lt hin))
    · exact PL_mono (fun b' o v hp hv => ⟨hq b' (by have := lt_of_cell hv; omega), by rw [hb1T.cell (p := ⟨b', o, none⟩) (lt_of_cell hv)]; exact hv⟩) (fun b' o v hp hv => ⟨hq b' (by have := lt_of_cell hv; omega), by rw [hb1T.cell (p := ⟨b', o, none⟩) (lt_of_cell hv)]; exact hv⟩) _ _ _ _ (Nat.le_refl _) Hpl1.out
  have hpat : PA bt bt.PT WT t 0 ta pa2 pc2 := by
    refine ⟨by subst hbt; exact ht, by subst hbt; exact pre_head t, by subst hbt; exact pre_subs t, ?_, ?_, by omega, hpc2⟩
    · exact InP_imp (fun k' hk' => hq k' (by have := hk'.2; omega)) (InP_below hbwT (InP_lt hin2))
    · exact PL_mono (fun b' o v hp hv => ⟨hq b' (by have := lt_of_cell hv; omega), by rw [hb2T.cell (p := ⟨b', o, none⟩) (lt_of_cell hv)]; exact hv⟩) (fun b' o v hp hv => ⟨hq b' (by have := lt_of_cell hv; omega), by rw [hb2T.cell (p := ⟨b', o, none⟩) (lt_of_cell hv)]; exact hv⟩) _ _ _ _ (Nat.le_refl _) hpl2
  have htab : TabOK bt (s.sz + t.sz) WT := by
    refine ⟨fun _ _ => 0, ?_, fun _ _ _ _ _ _ _ => Or.inl rfl⟩
    subst hbt
    refine ⟨fun i j hi hj => ?_, fun k => frozen_of_heap hheap k, by show w2.heap.size + 1 < _; omega⟩
    show WT.cell? ⟨w2.heap.size + 1, i * t.sz + j, none⟩ = some (.int .i8 0)
    have h9 : i * t.sz + j < N := by rw [HN.out]; exact idx_lt (show i < s.sz from hi) (show j < t.sz from hj)
    simp [World.cell?, hheap, row8_at h9]
  have hgr := isUp bt hok (s.sz + t.sz) s 0 t 0 sa sc pa1 pc1 ta tc pa2 pc2 WT (Nat.le_refl _) hpas hpat htab
  have HG : Hid (Calls Try.prog 72 #[.agg #[.slice (some ⟨w2.heap.size + 1, 0, none⟩) N N, .int .i64 (t.sz : Int)], .agg #[.int .i64 s.v, .int .i64 s.f, .slice sa s.args.length sc, .int .i64 0, .slice pa1 s.args.length pc1], .agg #[.int .i64 t.v, .int .i64 t.f, .slice ta t.args.length tc, .int .i64 0, .slice pa2 t.args.length pc2]] WT fun e w' =>
      e = .returned (.int .i8 (cmpS s t)) ∧ GS bt (s.sz + t.sz) WT w') := by
    rw [HN.out]
    subst hbt
    exact hgr
  have h5s : Five w2 w1.heap.size 0 (.int .i64 s.v) (.int .i64 s.f) (.slice sa s.args.length sc) (.int .i64 0) (.slice pa1 s.args.length pc1) := (Five.of_heap (heap_alloc_new w1 _)).same (hb2.block w1.heap.size (by simp))
  have h5 := fun o1 o2 o3 => h5s.same ((belowT w2 o1 o2 o3).block w1.heap.size (by omega))
  have a0 := fun o1 o2 o3 => (h5 o1 o2 o3).1
  have a1 := fun o1 o2 o3 => (h5 o1 o2 o3).2.1
  have a2 := fun o1 o2 o3 => (h5 o1 o2 o3).2.2.1
  have a3 := fun o1 o2 o3 => (h5 o1 o2 o3).2.2.2.1
  have a4 := fun o1 o2 o3 => (h5 o1 o2 o3).2.2.2.2
  have h6 := fun o2 o3 => (Five.of_heap (e := 110) (fr := (0, 0)) (heap_alloc_new w2 (.cells #[.int .i64 t.v, .int .i64 t.f, .slice ta t.args.length tc, .int .i64 0, .slice pa2 t.args.length pc2] 110))).same ((below2 (w2.alloc (.cells #[.int .i64 t.v, .int .i64 t.f, .slice ta t.args.length tc, .int .i64 0, .slice pa2 t.args.length pc2] 110)) o2 o3).block w2.heap.size (by simp))
  have c0 := fun o2 o3 => (h6 o2 o3).1
  have c1 := fun o2 o3 => (h6 o2 o3).2.1
  have c2 := fun o2 o3 => (h6 o2 o3).2.2.1
  have c3 := fun o2 o3 => (h6 o2 o3).2.2.2.1
  have c4 := fun o2 o3 => (h6 o2 o3).2.2.2.2
  have hlw1 : w1.heap.size < w2.heap.size := by omega
  have HbT := hide hbwT
  have Hrb : Hid (∀ k', k' < w.heap.size → k' ≠ bt.K) := fun k' hk' => by
    subst hbt
    show k' ≠ w2.heap.size + 1
    omega
  have HWT := hide hWT
  have Hz := hide (show (cmpS s t == 1) = gt s t from by
    cases hgt : gt s t with
    | true => rw [cmpS_one.2 hgt]; rfl
    | false => rw [beq_eq_false_iff_ne]; exact fun h => by rw [cmpS_one.1 h] at hgt; cases hgt)
  obtain ⟨Z, hZ⟩ : ∃ Z, Z = cmpS s t := ⟨_, rfl⟩
  rw [← hZ] at HG Hz
  clear hgr hpas hpat htab hok hq hbt hbwT hb1T hb2T hWT hheap g1 g2 hzT hZ hpl2 hpc2 hb2 hb12 H2 Hpl1 Hpc1 hin hin2 hs ht d0 d1 d2 h5s h5 h6
  go_wp2_with fail
  rw [← HWT.out]
  with_reducible refine HG.out.mono ?_
  rintro e w5 ⟨rfl, hg5⟩
  have Hfin : Hid (Below w.heap.size w w5) := ⟨hg5.kt.os.trans HbT.out.os, hg5.kt.tape.trans HbT.out.tape, hg5.kt.output.trans HbT.out.output, Nat.le_trans HbT.out.size hg5.kt.size, fun k' hk' => (hg5.kt.block k' (by have := HbT.out.size; omega) (Hrb.out k' hk')).trans (HbT.out.block k' hk')⟩
  clear hg5
  go_wp2_with fail
  go_ret
  exact ⟨ret_bool Hz.out, Hfin.out⟩

end Go.Proofs.Ytbhoeaeleoiaaab

namespace Go.Proofs.Ytbhoeaeleoiaaab
open Go.RowKit

/-- What Greater and Compare answer beside the error. -/
def grSpec (ar : List Int) (s t : T) : Bool := decide (allErr ar [s, t] = 0) && gt s t
def cmpSpec (ar : List Int) (s t : T) : Int := if allErr ar [s, t] = 0 then (if gt s t then 1 else if gt t s then -1 else 0) else 0

set_option maxRecDepth 100000 in
set_option maxHeartbeats 400000 in
theorem Greater_any (ar : List Int) (ga : Option Addr) (gcap : Nat) (s : T) (sa : Option Addr) (sc : Nat) (t : T) (ta : Option Addr) (tc : Nat) (w : World) (hg : Ints w ar ga) (hin : InL w s.args sa) (hin2 : InL w t.args ta) :
    Calls Try.prog 31 #[.agg #[.slice ga ar.length gcap], .agg #[.int .i64 s.v, .int .i64 s.f, .slice sa s.args.length sc], .agg #[.int .i64 t.v, .int .i64 t.f, .slice ta t.args.length tc]] w fun e w' =>
      e = .returned (.tuple #[.bool (grSpec ar s t), .int .i64 (allErr ar [s, t])]) ∧ Below w.heap.size w w' := by
  have H1 := hide (fun o1 o2 o3 => ordCheck_any ar ga gcap s sa sc t ta tc (((w.alloc o1).alloc o2).alloc o3) (Ints_alloc o3 (Ints_alloc o2 (Ints_alloc o1 hg))) (InP_alloc o3 (InP_alloc o2 (InP_alloc o1 hin))) (InP_alloc o3 (InP_alloc o2 (InP_alloc o1 hin2))))
  obtain ⟨E, hE⟩ : ∃ E, E = allErr ar [s, t] := ⟨_, rfl⟩
  obtain ⟨G, hG⟩ : ∃ G, G = grSpec ar s t := ⟨_, rfl⟩
  rw [← hE] at H1 ⊢
  rw [← hG]
  have HE := hide hE
  have HG := hide hG
  clear hE hG
  go_enter Try.func31, Try.ntmps31
  go_wp2_with fail
  refine (H1.out _ _ _).mono ?_
  rintro e w1 ⟨rfl, hb1⟩
  have hz1 : w.heap.size + 3 ≤ w1.heap.size := by have := hb1.size; simp at this; omega
  have hbw : Below w.heap.size w w1 := (((below1 _ _).alloc (by simp) _).alloc (by simp; omega) _).trans (hb1.mono (by simp; omega))
  have h3s : Three w1 (w.heap.size + 1) (.int .i64 s.v) (.int .i64 s.f) (.slice sa s.args.length sc) := ((Three.new _ (by simp)).alloc _).below hb1
  have h3t : Three w1 (w.heap.size + 1 + 1) (.int .i64 t.v) (.int .i64 t.f) (.slice ta t.args.length tc) := (Three.new _ (by simp)).below hb1
  obtain ⟨c0, c1, c2, _, _, _⟩ := h3s
  obtain ⟨d0, d1, d2, _, _, _⟩ := h3t
  clear hb1
  by_cases h : E = 0
  · obtain ⟨k1, k2, k3, k4⟩ := ok_two (HE.out.symm.trans h)
    have H2 := hide (great_any ar s sa sc t ta tc w1 k2 k4 k1 k3 (InP_below hbw hin) (InP_below hbw hin2))
    have HG2 : Hid (gt s t = G) := by show _ = _; rw [HG.out, grSpec, decide_eq_true (HE.out.symm.trans h), Bool.true_and]
    subst h
    clear k1 k2 k3 k4
    go_wp2_with fail
    refine H2.out.mono ?_
    rintro e w2 ⟨rfl, hb2⟩
    rw [HG2.out]
    have Hb := hide (hbw.trans (hb2.mono (by omega)))
    clear hb2
    go_wp2_with fail
    go_ret2
    exact ⟨rfl, Hb.out⟩
  · have hb : (E != 0) = true := by simpa using h
    have hG0 : G = false := by rw [HG.out, grSpec, decide_eq_false (fun h' => h (HE.out.trans h')), Bool.false_and]
    subst hG0
    clear h
    go_wp2_with fail
    go_ret2
    exact ⟨rfl, hbw⟩

set_option maxRecDepth 100000 in
set_option maxHeartbeats 400000 in
theorem Compare_any (ar : List Int) (ga : Option Addr) (gcap : Nat) (s : T) (sa : Option Addr) (sc : Nat) (t : T) (ta : Option Addr) (tc : Nat) (w : World) (hg : Ints w ar ga) (hin : InL w s.args sa) (hin2 : InL w t.args ta) :
    Calls Try.prog 9 #[.agg #[.slice ga ar.length gcap], .agg #[.int .i64 s.v, .int .i64 s.f, .slice sa s.args.length sc], .agg #[.int .i64 t.v, .int .i64 t.f, .slice ta t.args.length tc]] w fun e w' =>
      e = .returned (.tuple #[.int .i64 (cmpSpec ar s t), .int .i64 (allErr ar [s, t])]) ∧ Below w.heap.size w w' := by
  have H1 := hide (fun o1 o2 o3 => ordCheck_any ar ga gcap s sa sc t ta tc (((w.alloc o1).alloc o2).alloc o3) (Ints_alloc o3 (Ints_alloc o2 (Ints_alloc o1 hg))) (InP_alloc o3 (InP_alloc o2 (InP_alloc o1 hin))) (InP_alloc o3 (InP_alloc o2 (InP_alloc o1 hin2))))
  obtain ⟨E, hE⟩ : ∃ E, E = allErr ar [s, t] := ⟨_, rfl⟩
  obtain ⟨G, hG⟩ : ∃ G, G = cmpSpec ar s t := ⟨_, rfl⟩
  rw [← hE] at H1 ⊢
  rw [← hG]
  have HE := hide hE
  have HG := hide hG
  clear hE hG
  go_enter Try.func9, Try.ntmps9
  go_wp2_with fail
  refine (H1.out _ _ _).mono ?_
  rintro e w1 ⟨rfl, hb1⟩
  have hz1 : w.heap.size + 3 ≤ w1.heap.size := by have := hb1.size; simp at this; omega
  have hbw : Below w.heap.size w w1 := (((below1 _ _).alloc (by simp) _).alloc (by simp; omega) _).trans (hb1.mono (by simp; omega))
  have h3s : Three w1 (w.heap.size + 1) (.int .i64 s.v) (.int .i64 s.f) (.slice sa s.args.length sc) := ((Three.new _ (by simp)).alloc _).below hb1
  have h3t : Three w1 (w.heap.size + 1 + 1) (.int .i64 t.v) (.int .i64 t.f) (.slice ta t.args.length tc) := (Three.new _ (by simp)).below hb1
  have H3s := hide h3s
  have H3t := hide h3t
  obtain ⟨c0, c1, c2, _, _, _⟩ := h3s
  obtain ⟨d0, d1, d2, _, _, _⟩ := h3t
  clear hb1
  by_cases h : E = 0
  · obtain ⟨k1, k2, k3, k4⟩ := ok_two (HE.out.symm.trans h)
    have H2 := hide (great_any ar s sa sc t ta tc w1 k2 k4 k1 k3 (InP_below hbw hin) (InP_below hbw hin2))
    have HG2 : Hid (G = if gt s t then 1 else if gt t s then -1 else 0) := by show _ = _; rw [HG.out, cmpSpec, if_pos (HE.out.symm.trans h)]
    have K := hide (And.intro k1 (And.intro k2 (And.intro k3 k4)))
    subst h
    clear k1 k2 k3 k4
    go_wp2_with fail
    refine H2.out.mono ?_
    rintro e w2 ⟨rfl, hb2⟩
    have hz2 := hb2.size
    have hbw2 : Below w.heap.size w w2 := hbw.trans (hb2.mono (by omega))
    obtain ⟨e0, e1, e2, _, _, _⟩ := H3s.out.below hb2
    obtain ⟨f0, f1, f2, _, _, _⟩ := H3t.out.below hb2
    have H4 := hide (great_any ar t ta tc s sa sc w2 K.out.2.2.2 K.out.2.1 K.out.2.2.1 K.out.1 (InP_below hbw2 hin2) (InP_below hbw2 hin))
    have Hb2 := hide hbw2
    clear hb2 hbw2 c0 c1 c2 d0 d1 d2
    rcases Bool.eq_false_or_eq_true (gt s t) with hgt | hgt
    · rw [hgt] at HG2 ⊢
      obtain rfl : G = 1 := HG2.out
      clear hgt
      go_wp2_with fail
      go_ret2
      exact ⟨rfl, Hb2.out⟩
    · rw [hgt] at HG2 ⊢
      have HG3 : Hid (G = if gt t s then -1 else 0) := HG2.out
      clear hgt
      go_wp2_with fail
      refine H4.out.mono ?_
      rintro e w4 ⟨rfl, hb4⟩
      have Hb4 := hide (Hb2.out.trans (hb4.mono Hb2.out.size))
      clear hb4
      rcases Bool.eq_false_or_eq_true (gt t s) with hgt2 | hgt2
      · rw [hgt2] at HG3 ⊢
        obtain rfl : G = -1 := HG3.out
        clear hgt2
        go_wp2_with fail
        go_ret2
        exact ⟨rfl, Hb4.out⟩
      · rw [hgt2] at HG3 ⊢
        obtain rfl : G = 0 := HG3.out
        clear hgt2
        go_wp2_with fail
        go_ret2
        exact ⟨rfl, Hb4.out⟩
  · have hb : (E != 0) = true := by simpa using h
    have hG0 : G = 0 := by rw [HG.out, cmpSpec, if_neg (fun h' => h (HE.out.trans h'))]
    subst hG0
    clear h
    go_wp2_with fail
    go_ret2
    exact ⟨rfl, hbw⟩

end Go.Proofs.Ytbhoeaeleoiaaab

namespace Go.Proofs.Ytbhoeaeleoiaaab

/-- What a variable is bound to. -/
def lookB : List (Int × T) → Int → Option T
  | [], _ => none
  | (w, u) :: bs, v => if w = v then some u else lookB bs v
/-- What is put in for a term alone, if it is a variable that is bound. -/
def putIn (bs : List (Int × T)) (v : Int) : Option T := if 0 < v then lookB bs v else none
def applyT (bs : List (Int × T)) : T → T
  | ⟨v, f, args⟩ => match putIn bs v with
    | some u => u
    | none => ⟨v, f, applyL args⟩
  where
  applyL : List T → List T
    | [] => []
    | t :: ts => applyT bs t :: applyL ts
theorem applyT_eq (bs : List (Int × T)) (t : T) : applyT bs t = match putIn bs t.v with
    | some u => u
    | none => ⟨t.v, t.f, applyT.applyL bs t.args⟩ := by cases t; rfl
theorem applyL_map (bs : List (Int × T)) (ts : List T) : applyT.applyL bs ts = ts.map (applyT bs) := by
  induction ts with
  | nil => rfl
  | cons t ts ih => rw [applyT.applyL, ih]; rfl
theorem applyT_some {bs : List (Int × T)} {t u : T} (h : putIn bs t.v = some u) : applyT bs t = u := by rw [applyT_eq, h]
theorem applyT_none {bs : List (Int × T)} {t : T} (h : putIn bs t.v = none) : applyT bs t = ⟨t.v, t.f, t.args.map (applyT bs)⟩ := by rw [applyT_eq, h, applyL_map]
theorem putIn_fn {bs : List (Int × T)} {v : Int} (h : v = 0) : putIn bs v = none := by rw [putIn, if_neg (by omega)]
theorem applyT_fn {bs : List (Int × T)} {t : T} (h : t.v = 0) : applyT bs t = ⟨0, t.f, t.args.map (applyT bs)⟩ := by rw [applyT_none (putIn_fn h), h]
theorem lookB_mem {bs : List (Int × T)} {v : Int} {u : T} (h : lookB bs v = some u) : (v, u) ∈ bs := by
  induction bs with
  | nil => cases h
  | cons b bs ih =>
    obtain ⟨w, x⟩ := b
    rw [lookB] at h
    by_cases e : w = v
    · rw [if_pos e] at h
      simp only [Option.some.injEq] at h
      rw [e, h]; exact List.mem_cons_self
    · rw [if_neg e] at h
      exact List.mem_cons_of_mem _ (ih h)
theorem putIn_mem {bs : List (Int × T)} {v : Int} {u : T} (h : putIn bs v = some u) : (v, u) ∈ bs ∧ 0 < v := by
  rw [putIn] at h
  by_cases h0 : 0 < v
  · rw [if_pos h0] at h; exact ⟨lookB_mem h, h0⟩
  · rw [if_neg h0] at h; cases h

/-- Right terms put into a right term make a right one. -/
theorem okP_apply_aux {ar : List Int} {bs : List (Int × T)} (hb : ∀ v u, (v, u) ∈ bs → okP ar u) : ∀ (n : Nat) (t : T), t.sz ≤ n → okP ar t → okP ar (applyT bs t) := by
  intro n
  induction n with
  | zero => intro t h; have := t.sz_pos; omega
  | succ n ih =>
    intro t hn ht
    cases h : putIn bs t.v with
    | some u => rw [applyT_some h]; exact hb _ _ (putIn_mem h).1
    | none =>
      rw [applyT_none h]
      refine okP_iff.2 ⟨?_, okL_mem.2 fun a ha => ?_⟩
      · have := (okP_iff.1 ht).1
        simpa using this
      · obtain ⟨c, hc, rfl⟩ := List.mem_map.1 ha
        have := arg_sz hc
        exact ih c (by omega) (okArg ht hc)
theorem okP_apply {ar : List Int} {bs : List (Int × T)} (hb : ∀ v u, (v, u) ∈ bs → okP ar u) {t : T} (ht : okP ar t) : okP ar (applyT bs t) := okP_apply_aux hb _ t (Nat.le_refl _) ht

/-- The order stays, whatever is put in. -/
theorem gt_stable_aux {ar : List Int} {bs : List (Int × T)} (hb : ∀ v u, (v, u) ∈ bs → okP ar u) : ∀ (n : Nat) (s t : T), s.sz + t.sz ≤ n → okP ar s → okP ar t → gt s t = true → gt (applyT bs s) (applyT bs t) = true := by
  intro n
  induction n with
  | zero => intro s t h; have := s.sz_pos; omega
  | succ n ih =>
    intro s t hn hs ht h
    have os := okP_apply hb hs
    have ot := okP_apply hb ht
    rcases (gt_iff hs ht).1 h with ⟨hv, a, ha, h3⟩ | ⟨hv, htv, hf, hall, hlast⟩
    · have hasz := arg_sz ha
      have hm : applyT bs a ∈ (applyT bs s).args := by rw [applyT_fn hv]; exact List.mem_map_of_mem ha
      refine (gt_iff os ot).2 (Or.inl ⟨by rw [applyT_fn hv], applyT bs a, hm, ?_⟩)
      rcases h3 with h3 | rfl
      · exact Or.inl (ih a t (by omega) (okArg hs ha) ht h3)
      · exact Or.inr rfl
    · have hall2 : ∀ c, c ∈ (applyT bs t).args → gt (applyT bs s) c = true := fun c hc => by
        rw [applyT_fn htv] at hc
        obtain ⟨d, hd, rfl⟩ := List.mem_map.1 hc
        have := arg_sz hd
        exact ih s d (by omega) hs (okArg ht hd) (hall d hd)
      refine (gt_iff os ot).2 (Or.inr ⟨by rw [applyT_fn hv], by rw [applyT_fn htv], by rw [applyT_fn hv, applyT_fn htv]; exact hf, hall2, ?_⟩)
      rw [applyT_fn hv, applyT_fn htv]
      rcases hlast with hl | ⟨hl, hx⟩
      · exact Or.inl hl
      · refine Or.inr ⟨hl, ?_⟩
        obtain ⟨k, a, b, q1, q2, q3, q4, q5⟩ := firstN_iff.1 hx
        have ma := List.mem_of_getElem? q1
        have mb := List.mem_of_getElem? q2
        have za := arg_sz ma
        have zb := arg_sz mb
        have hg := ih a b (by omega) (okArg hs ma) (okArg ht mb) q4
        refine firstN_iff.2 ⟨k, applyT bs a, applyT bs b, by simp [q1], by simp [q2], fun e => ?_, hg, fun i hi => by simp [q5 i hi]⟩
        rw [e, gt_irr (okP_apply hb (okArg ht mb))] at hg
        cases hg
theorem gt_stable {ar : List Int} {bs : List (Int × T)} (hb : ∀ v u, (v, u) ∈ bs → okP ar u) {s t : T} (hs : okP ar s) (ht : okP ar t) (h : gt s t = true) : gt (applyT bs s) (applyT bs t) = true := gt_stable_aux hb _ s t (Nat.le_refl _) hs ht h

end Go.Proofs.Ytbhoeaeleoiaaab

namespace Go.Proofs.Ytbhoeaeleoiaaab
open Go.RowKit

/-- Six cells a rule, and its terms behind them, in blocks of which p holds. -/
def RulesP (p : Nat → Prop) (w : World) : List (T × T) → Option Addr → Prop
  | [], _ => True
  | x :: rs, a => ∃ b off a1 c1 a2 c2, a = some ⟨b, off, none⟩ ∧ p b ∧ w.cell? ⟨b, off, none⟩ = some (.int .i64 x.1.v) ∧ w.cell? ⟨b, off + 1, none⟩ = some (.int .i64 x.1.f) ∧ w.cell? ⟨b, off + 2, none⟩ = some (.slice a1 x.1.args.length c1) ∧
      w.cell? ⟨b, off + 3, none⟩ = some (.int .i64 x.2.v) ∧ w.cell? ⟨b, off + 4, none⟩ = some (.int .i64 x.2.f) ∧ w.cell? ⟨b, off + 5, none⟩ = some (.slice a2 x.2.args.length c2) ∧ InP p w x.1.args a1 ∧ InP p w x.2.args a2 ∧ RulesP p w rs (some ⟨b, off + 6, none⟩)
theorem RulesP_some {p : Nat → Prop} {w : World} {rs : List (T × T)} {a : Option Addr} (h : RulesP p w rs a) (hp : 0 < rs.length) : ∃ b off, a = some ⟨b, off, none⟩ := by
  cases rs with
  | nil => simp at hp
  | cons x rs => obtain ⟨b, off, _, _, _, _, rfl, _⟩ := h; exact ⟨b, off, rfl⟩
theorem RulesP_mono {p q : Nat → Prop} {w w' : World} (hs : ∀ b o v, p b → w.cell? ⟨b, o, none⟩ = some v → q b ∧ w'.cell? ⟨b, o, none⟩ = some v) : ∀ {rs : List (T × T)} {a : Option Addr}, RulesP p w rs a → RulesP q w' rs a := by
  intro rs
  induction rs with
  | nil => intro a _; trivial
  | cons x rs ih =>
    intro a h
    obtain ⟨b, off, a1, c1, a2, c2, rfl, hp, h0, h1, h2, h3, h4, h5, hi, hi2, hr⟩ := h
    exact ⟨b, off, a1, c1, a2, c2, rfl, (hs _ _ _ hp h0).1, (hs _ _ _ hp h0).2, (hs _ _ _ hp h1).2, (hs _ _ _ hp h2).2, (hs _ _ _ hp h3).2, (hs _ _ _ hp h4).2, (hs _ _ _ hp h5).2, InP_mono hs _ _ _ (Nat.le_refl _) hi, InP_mono hs _ _ _ (Nat.le_refl _) hi2, ih hr⟩
theorem RulesP_below {p : Nat → Prop} {w w' : World} {rs : List (T × T)} {a : Option Addr} (hb : Below w.heap.size w w') (h : RulesP p w rs a) : RulesP p w' rs a :=
  RulesP_mono (fun b o v hp hv => ⟨hp, by rw [hb.cell (p := ⟨b, o, none⟩) (lt_of_cell hv)]; exact hv⟩) h
theorem RulesP_lt {p : Nat → Prop} {w : World} {rs : List (T × T)} {a : Option Addr} (h : RulesP p w rs a) : RulesP (fun k => p k ∧ k < w.heap.size) w rs a := RulesP_mono (fun _ _ _ hp hv => ⟨⟨hp, lt_of_cell hv⟩, hv⟩) h
theorem RulesP_at {p : Nat → Prop} {w : World} : ∀ {rs : List (T × T)} {b off k : Nat} {x : T × T}, RulesP p w rs (some ⟨b, off, none⟩) → rs[k]? = some x →
    ∃ a1 c1 a2 c2, p b ∧ w.cell? ⟨b, off + k * 6, none⟩ = some (.int .i64 x.1.v) ∧ w.cell? ⟨b, off + k * 6 + 1, none⟩ = some (.int .i64 x.1.f) ∧ w.cell? ⟨b, off + k * 6 + 2, none⟩ = some (.slice a1 x.1.args.length c1) ∧
      w.cell? ⟨b, off + k * 6 + 3, none⟩ = some (.int .i64 x.2.v) ∧ w.cell? ⟨b, off + k * 6 + 4, none⟩ = some (.int .i64 x.2.f) ∧ w.cell? ⟨b, off + k * 6 + 5, none⟩ = some (.slice a2 x.2.args.length c2) ∧ InP p w x.1.args a1 ∧ InP p w x.2.args a2 := by
  intro rs
  induction rs with
  | nil => intro b off k x _ h; simp at h
  | cons y rs ih =>
    intro b off k x h hk
    obtain ⟨b', off', a1, c1, a2, c2, hb, hp, h0, h1, h2, h3, h4, h5, hi, hi2, hr⟩ := h
    simp only [Option.some.injEq, Addr.mk.injEq] at hb
    obtain ⟨rfl, rfl, _⟩ := hb
    cases k with
    | zero =>
      simp at hk; subst hk
      exact ⟨a1, c1, a2, c2, hp, by simpa using h0, by simpa using h1, by simpa using h2, by simpa using h3, by simpa using h4, by simpa using h5, hi, hi2⟩
    | succ k =>
      have h9 := ih hr (by simpa using hk)
      rw [show off + (k + 1) * 6 = off + 6 + k * 6 by omega]
      exact h9

/-- What Check says of rules behind the first ones. -/
def ruleErr (ar : List Int) : List (T × T) → Int
  | [] => 0
  | x :: rs => if allErr ar [x.1, x.2] = 0 then (if gt x.1 x.2 then ruleErr ar rs else 4) else allErr ar [x.1, x.2]
def rulesErr (ar : List Int) (rs : List (T × T)) : Int := if sigErr ar = 0 then (if 20 < rs.length then 2 else ruleErr ar rs) else sigErr ar
theorem ruleErr_drop {ar : List Int} {rs : List (T × T)} {k : Nat} {x : T × T} (hx : rs[k]? = some x) : ruleErr ar (rs.drop k) = if allErr ar [x.1, x.2] = 0 then (if gt x.1 x.2 then ruleErr ar (rs.drop (k + 1)) else 4) else allErr ar [x.1, x.2] := by
  have hlt := (List.getElem?_eq_some_iff.1 hx).1
  have e : rs.drop k = x :: rs.drop (k + 1) := by
    rw [List.getElem?_eq_getElem hlt] at hx
    simp at hx
    rw [← hx, List.getElem_cons_drop]
  rw [e, ruleErr]

set_option maxRecDepth 100000 in
set_option maxHeartbeats 1000000 in
theorem rwCheck_any (ar : List Int) (ga : Option Addr) (gcap : Nat) (rs : List (T × T)) (ra : Option Addr) (rc : Nat) (w : World) (hg : Ints w ar ga) (hl : rs.length ≤ 9223372036854775807) (hr : RulesP (fun _ => True) w rs ra) :
    Calls Try.prog 30 #[.agg #[.slice ga ar.length gcap], .slice ra rs.length rc] w fun e w' => e = .returned (.int .i64 (rulesErr ar rs)) ∧ Below w.heap.size w w' := by
  have H1 := hide (fun o => signature_any ar ga gcap (w.alloc o) (Ints_alloc o hg))
  obtain ⟨E, hE⟩ : ∃ E, E = sigErr ar := ⟨_, rfl⟩
  obtain ⟨Z, hZ⟩ : ∃ Z, Z = rulesErr ar rs := ⟨_, rfl⟩
  rw [← hE] at H1
  rw [← hZ]
  have HE := hide hE
  have HZ := hide hZ
  have Hg := hide hg
  have Hr := hide hr
  clear hE hZ hg hr
  go_enter Try.func30, Try.ntmps30
  go_wp2_with fail
  refine (H1.out _).mono ?_
  rintro e w1 ⟨rfl, hb1⟩
  have hz1 : w.heap.size + 1 ≤ w1.heap.size := by have := hb1.size; simp at this; omega
  have hbw : Below w.heap.size w w1 := (below1 _ _).trans (hb1.mono (by simp))
  have cg : w1.cell? ⟨w.heap.size, 0, none⟩ = some (.slice ga ar.length gcap) := by
    rw [hb1.cell (p := ⟨w.heap.size, 0, none⟩) (by simp)]; exact cell_new 0 rfl
  have Hbw := hide hbw
  clear hb1 hbw H1
  by_cases h0 : E = 0
  · have HZ1 : Hid (Z = if 20 < rs.length then 2 else ruleErr ar rs) := by show _ = _; rw [HZ.out, rulesErr, if_pos (HE.out.symm.trans h0)]
    subst h0
    by_cases h20 : 20 < rs.length
    · obtain rfl : Z = 2 := by rw [HZ1.out, if_pos h20]
      have e20 : (20 : Int) < rs.length := by omega
      clear HZ1 HZ h20
      go_wp2_with fail
      go_ret
      exact ⟨rfl, Hbw.out⟩
    · have HZ2 : Hid (Z = ruleErr ar rs) := by show _ = _; rw [HZ1.out, if_neg h20]
      have e20 : ¬ (20 : Int) < rs.length := by omega
      clear HZ1 HZ
      go_wp2_with fail
      go_loopw [20] (fun iv wr => ∃ k : Nat, k ≤ rs.length ∧ iv = .int .i64 k ∧ Hid (Z = ruleErr ar (rs.drop k)) ∧ Below w1.heap.size w1 wr) (fun iv _ => rs.length - (intOf iv).toNat)
      case atStart => exact ⟨0, Nat.zero_le _, rfl, by rw [List.drop_zero]; exact HZ2, Below.refl _ _⟩
      case round =>
        obtain ⟨k, hk, rfl, HZk, hbr⟩ := hrel
        have Hbr := hide hbr
        have Hbwr := hide (Hbw.out.trans (hbr.mono Hbw.out.size))
        have cgr : wr.cell? ⟨w.heap.size, 0, none⟩ = some (.slice ga ar.length gcap) := by rw [hbr.cell (p := ⟨w.heap.size, 0, none⟩) (show w.heap.size < w1.heap.size by omega)]; exact cg
        have hzr := hbr.size
        by_cases hlt : k < rs.length
        · obtain ⟨b, off, rfl⟩ := RulesP_some Hr.out (by omega)
          obtain ⟨x, hx⟩ : ∃ x, rs[k]? = some x := ⟨rs[k], List.getElem?_eq_getElem hlt⟩
          obtain ⟨a1, c1, a2, c2, _, k0, k1, k2, k3, k4, k5, hi1, hi2⟩ := RulesP_at (RulesP_below Hbwr.out Hr.out) hx
          have hst := ruleErr_drop (ar := ar) hx
          rw [← HZk.out] at hst
          have HG := hide (fun o => Greater_any ar ga gcap x.1 a1 c1 x.2 a2 c2 (wr.alloc o) (Ints_alloc o (Ints_below Hbwr.out Hg.out)) (InP_alloc o hi1) (InP_alloc o hi2))
          obtain ⟨F, hF⟩ : ∃ F, F = allErr ar [x.1, x.2] := ⟨_, rfl⟩
          obtain ⟨B, hB⟩ : ∃ B, B = grSpec ar x.1 x.2 := ⟨_, rfl⟩
          rw [← hF, ← hB] at HG
          rw [← hF] at hst
          have HB := hide (show F = 0 → B = gt x.1 x.2 from fun h => by rw [hB, grSpec, decide_eq_true (hF.symm.trans h), Bool.true_and])
          have Hst := hide hst
          have hkI : (k : Int) < rs.length := by omega
          have hk0 : (0 : Int) ≤ k := by omega
          have hbl := lt_of_cell k0
          have hzw : w.heap.size < wr.heap.size := by omega
          clear hst hF hB hx hi1 hi2 hbr HZk
          go_wp2_with fail
          refine (HG.out _).mono ?_
          rintro e w2 ⟨rfl, hb2⟩
          have hb12 : Below wr.heap.size wr w2 := (below1 _ _).trans (hb2.mono (by simp))
          have Hb2 := hide (Hbr.out.trans (hb12.mono hzr))
          have Hbf := hide (Hbw.out.trans (Hb2.out.mono Hbw.out.size))
          clear hb2 hb12 HG
          by_cases hF0 : F = 0
          · have hBg := HB.out hF0
            have Hs2 : Hid (Z = if gt x.1 x.2 then ruleErr ar (rs.drop (k + 1)) else 4) := by show _ = _; rw [Hst.out, if_pos hF0]
            subst hF0
            clear Hst HB
            cases hgt : gt x.1 x.2 with
            | true =>
              rw [hgt] at hBg Hs2
              subst hBg
              have Hs3 : Hid (Z = ruleErr ar (rs.drop (k + 1))) := Hs2.out
              clear Hs2 hgt
              go_wp2_with fail
              go_roundw
              case rel => exact ⟨k + 1, by omega, by go_num, Hs3, Hb2.out⟩
              case measure => simp [intOf]; omega
            | false =>
              rw [hgt] at hBg Hs2
              subst hBg
              obtain rfl : Z = 4 := Hs2.out
              clear Hs2 hgt
              go_wp2_with fail
              go_ret
              exact ⟨rfl, Hbf.out⟩
          · have hFb : (F != 0) = true := by simpa using hF0
            obtain rfl : Z = F := by rw [Hst.out, if_neg hF0]
            clear Hst HB hF0
            go_wp2_with fail
            go_ret
            exact ⟨rfl, Hbf.out⟩
        · have hk2 : k = rs.length := by omega
          subst hk2
          obtain rfl : Z = 0 := by rw [HZk.out, List.drop_length]; rfl
          clear hbr HZk
          go_wp2_with fail
          go_ret
          exact ⟨rfl, Hbwr.out⟩
  · have h0b : (E != 0) = true := by simpa using h0
    obtain rfl : Z = E := by rw [HZ.out, rulesErr, if_neg (fun h => h0 (HE.out.trans h)), HE.out]
    clear HZ HE h0
    go_wp2_with fail
    go_ret
    exact ⟨rfl, Hbw.out⟩

/-- What is told of rules and a term. -/
def rtErr (ar : List Int) (rs : List (T × T)) (t : T) : Int := if rulesErr ar rs = 0 then allErr ar [t] else rulesErr ar rs
set_option maxRecDepth 100000 in
set_option maxHeartbeats 1000000 in
theorem checkAll_any (ar : List Int) (ga : Option Addr) (gcap : Nat) (rs : List (T × T)) (ra : Option Addr) (rc : Nat) (t : T) (a : Option Addr) (cap : Nat) (w : World) (hg : Ints w ar ga) (hl : rs.length ≤ 9223372036854775807) (hr : RulesP (fun _ => True) w rs ra) (hin : InL w t.args a) :
    Calls Try.prog 32 #[.agg #[.slice ga ar.length gcap], .slice ra rs.length rc, .agg #[.int .i64 t.v, .int .i64 t.f, .slice a t.args.length cap]] w fun e w' => e = .returned (.int .i64 (rtErr ar rs t)) ∧ Below w.heap.size w w' := by
  have H1 := hide (fun o1 o2 => rwCheck_any ar ga gcap rs ra rc ((w.alloc o1).alloc o2) (Ints_alloc o2 (Ints_alloc o1 hg)) hl (RulesP_below (below2 w o1 o2) hr))
  obtain ⟨E, hE⟩ : ∃ E, E = rulesErr ar rs := ⟨_, rfl⟩
  obtain ⟨Z, hZ⟩ : ∃ Z, Z = rtErr ar rs t := ⟨_, rfl⟩
  rw [← hE] at H1
  rw [← hZ]
  have HZ : Hid (Z = if E = 0 then allErr ar [t] else E) := by show _ = _; rw [hZ, rtErr, hE]
  have Hg := hide hg
  have Hin := hide hin
  clear hE hZ hg hr hin
  go_enter Try.func32, Try.ntmps32
  go_wp2_with fail
  refine (H1.out _ _).mono ?_
  rintro e w1 ⟨rfl, hb1⟩
  have hz1 : w.heap.size + 2 ≤ w1.heap.size := by have := hb1.size; simp at this; omega
  have hbw : Below w.heap.size w w1 := (below2 _ _ _).trans (hb1.mono (by simp; omega))
  have cg : w1.cell? ⟨w.heap.size, 0, none⟩ = some (.slice ga ar.length gcap) := by
    rw [hb1.cell (p := ⟨w.heap.size, 0, none⟩) (by simp; omega), cell_alloc_lt (by simp)]; exact cell_new 0 rfl
  obtain ⟨c0, c1, c2, _, _, _⟩ : Three w1 (w.heap.size + 1) (.int .i64 t.v) (.int .i64 t.f) (.slice a t.args.length cap) := (Three.new _ (by simp)).below hb1
  have H2 := hide (Check_any ar ga gcap t a cap w1 (Ints_below hbw Hg.out) (InP_below hbw Hin.out))
  have Hbw := hide hbw
  clear hb1 hbw H1
  by_cases h0 : E = 0
  · have HZ2 : Hid (Z = allErr ar [t]) := by show _ = _; rw [HZ.out, if_pos h0]
    rw [← HZ2.out] at H2
    subst h0
    clear HZ HZ2
    go_wp2_with fail
    refine H2.out.mono ?_
    rintro e w2 ⟨rfl, hb2⟩
    have Hbf := hide (Hbw.out.trans (hb2.mono Hbw.out.size))
    clear hb2
    go_wp2_with fail
    go_ret
    exact ⟨rfl, Hbf.out⟩
  · have h0b : (E != 0) = true := by simpa using h0
    obtain rfl : Z = E := by rw [HZ.out, if_neg h0]
    clear HZ h0 H2
    go_wp2_with fail
    go_ret
    exact ⟨rfl, Hbw.out⟩

end Go.Proofs.Ytbhoeaeleoiaaab

namespace Go.Proofs.Ytbhoeaeleoiaaab

/-- Bindings grown so that the pattern becomes the term; none: they can't. -/
def growT : T → T → List (Int × T) → Option (List (Int × T))
  | ⟨pv, pf, pargs⟩, t, bs =>
    if pv ≠ 0 then (match lookB bs pv with
      | some u => if sameT u t then some bs else none
      | none => some (bs ++ [(pv, t)]))
    else if t.v ≠ 0 ∨ pf ≠ t.f then none else growL pargs t.args bs
  where
  growL : List T → List T → List (Int × T) → Option (List (Int × T))
    | [], [], bs => some bs
    | p :: ps, t :: ts, bs => match growT p t bs with
      | some b2 => growL ps ts b2
      | none => none
    | _, _, _ => none
theorem growT_eq (p t : T) (bs : List (Int × T)) : growT p t bs = if p.v ≠ 0 then (match lookB bs p.v with
      | some u => if sameT u t then some bs else none
      | none => some (bs ++ [(p.v, t)]))
    else if t.v ≠ 0 ∨ p.f ≠ t.f then none else growT.growL p.args t.args bs := by cases p; rfl
theorem growL_cons (p t : T) (ps ts : List T) (bs : List (Int × T)) : growT.growL (p :: ps) (t :: ts) bs = match growT p t bs with
    | some b2 => growT.growL ps ts b2
    | none => none := rfl
theorem growL_length : ∀ {ps ts : List T} {bs : List (Int × T)}, ps.length ≠ ts.length → growT.growL ps ts bs = none := by
  intro ps
  induction ps with
  | nil =>
    intro ts bs h
    cases ts with
    | nil => simp at h
    | cons t ts => rfl
  | cons p ps ih =>
    intro ts bs h
    cases ts with
    | nil => rfl
    | cons t ts =>
      rw [growL_cons]
      cases growT p t bs with
      | none => rfl
      | some b2 => exact ih (by simpa using h)
theorem growL_append : ∀ {ps ts ps2 ts2 : List T} {bs : List (Int × T)}, ps.length = ts.length → growT.growL (ps ++ ps2) (ts ++ ts2) bs = match growT.growL ps ts bs with
    | some b2 => growT.growL ps2 ts2 b2
    | none => none := by
  intro ps
  induction ps with
  | nil =>
    intro ts ps2 ts2 bs h
    cases ts with
    | nil => rfl
    | cons t ts => simp at h
  | cons p ps ih =>
    intro ts ps2 ts2 bs h
    cases ts with
    | nil => simp at h
    | cons t ts =>
      rw [List.cons_append, List.cons_append, growL_cons, growL_cons]
      cases growT p t bs with
      | none => rfl
      | some b2 => exact ih (by simpa using h)
/-- One more pair. -/
theorem growL_step {ps ts : List T} {bs b1 : List (Int × T)} {k : Nat} {p t : T} (hl : ps.length = ts.length) (hp : ps[k]? = some p) (ht : ts[k]? = some t) (h : growT.growL (ps.take k) (ts.take k) bs = some b1) :
    (∀ b2, growT p t b1 = some b2 → growT.growL (ps.take (k + 1)) (ts.take (k + 1)) bs = some b2) ∧ (growT p t b1 = none → growT.growL ps ts bs = none) := by
  have hlp : k < ps.length := by
    rcases Nat.lt_or_ge k ps.length with h1 | h1
    · exact h1
    · rw [List.getElem?_eq_none h1] at hp; cases hp
  constructor
  · intro b2 h2
    rw [List.take_add_one, List.take_add_one, hp, ht]
    show growT.growL (ps.take k ++ [p]) (ts.take k ++ [t]) bs = _
    rw [growL_append (by simp [hl]), h]
    show growT.growL [p] [t] b1 = _
    rw [growL_cons, h2]; rfl
  · intro h2
    have e1 : ps = ps.take k ++ p :: ps.drop (k + 1) := by
      rw [List.getElem?_eq_getElem hlp] at hp
      simp only [Option.some.injEq] at hp
      rw [← hp, List.getElem_cons_drop, List.take_append_drop]
    have e2 : ts = ts.take k ++ t :: ts.drop (k + 1) := by
      rw [List.getElem?_eq_getElem (by omega)] at ht
      simp only [Option.some.injEq] at ht
      rw [← ht, List.getElem_cons_drop, List.take_append_drop]
    rw [e1, e2, growL_append (by simp [hl]), h]
    show growT.growL (p :: _) (t :: _) b1 = none
    rw [growL_cons, h2]
/-- How many bindings come. -/
theorem grow_size : ∀ (n : Nat), (∀ (p t : T) (bs b2 : List (Int × T)), p.sz ≤ n → growT p t bs = some b2 → b2.length ≤ bs.length + p.sz) ∧ (∀ (ps ts : List T) (bs b2 : List (Int × T)), T.sz.szL ps ≤ n → growT.growL ps ts bs = some b2 → b2.length ≤ bs.length + T.sz.szL ps) := by
  intro n
  induction n with
  | zero =>
    refine ⟨fun p t bs b2 h => by have := p.sz_pos; omega, fun ps ts bs b2 h hg => ?_⟩
    cases ps with
    | nil =>
      cases ts with
      | nil => simp [growT.growL] at hg; rw [hg]; simp [T.szL_nil]
      | cons t ts => cases hg
    | cons p ps => have := p.sz_pos; rw [T.szL_cons] at h; omega
  | succ n ih =>
    have h1 : ∀ (p t : T) (bs b2 : List (Int × T)), p.sz ≤ n + 1 → growT p t bs = some b2 → b2.length ≤ bs.length + p.sz := fun p t bs b2 h hg => by
      have hpe := T.sz_eq p
      rw [growT_eq] at hg
      by_cases hv : p.v ≠ 0
      · rw [if_pos hv] at hg
        cases hl : lookB bs p.v with
        | some u =>
          rw [hl] at hg
          by_cases hs : sameT u t = true
          · simp only [hs, if_true, Option.some.injEq] at hg
            rw [← hg]; omega
          · simp [hs] at hg
        | none =>
          rw [hl] at hg
          simp only [Option.some.injEq] at hg
          rw [← hg, List.length_append]; simp; omega
      · rw [if_neg hv] at hg
        by_cases hc : t.v ≠ 0 ∨ p.f ≠ t.f
        · rw [if_pos hc] at hg; cases hg
        · rw [if_neg hc] at hg
          have := ih.2 p.args t.args bs b2 (by omega) hg
          omega
    refine ⟨h1, fun ps => ?_⟩
    induction ps with
    | nil =>
      intro ts bs b2 _ hg
      cases ts with
      | nil => simp [growT.growL] at hg; rw [hg]; simp [T.szL_nil]
      | cons t ts => cases hg
    | cons p ps iht =>
      intro ts bs b2 h hg
      rw [T.szL_cons] at h ⊢
      cases ts with
      | nil => cases hg
      | cons t ts =>
        rw [growL_cons] at hg
        cases hgt : growT p t bs with
        | none => rw [hgt] at hg; cases hg
        | some b3 =>
          rw [hgt] at hg
          have g1 := h1 p t bs b3 (by omega) hgt
          have g2 := iht ts b3 b2 (by omega) hg
          omega

end Go.Proofs.Ytbhoeaeleoiaaab

namespace Go.Proofs.Ytbhoeaeleoiaaab
open Go.RowKit

/-- The world has grown by new blocks, and in the row r alone; the row is now r'. -/
structure Grw (w w' : World) (r r' : Option Nat) : Prop where
  gr : w.grownBy w' r
  row : r' = r ∨ ∃ g, r' = some g ∧ w.heap.size ≤ g

theorem Grw.refl (w : World) (r : Option Nat) : Grw w w r r := ⟨⟨rfl, rfl, rfl, Nat.le_refl _, fun _ _ _ => rfl⟩, Or.inl rfl⟩
theorem Grw.trans {a b c : World} {r r' r'' : Option Nat} (h : Grw a b r r') (k : Grw b c r' r'') : Grw a c r r'' := by
  have hs := h.gr.size
  refine ⟨⟨k.gr.os.trans h.gr.os, k.gr.tape.trans h.gr.tape, k.gr.output.trans h.gr.output, Nat.le_trans hs k.gr.size, fun i hi hne => ?_⟩, ?_⟩
  · rw [k.gr.block i (by omega) (fun e => ?_), h.gr.block i hi hne]
    rcases h.row with h1 | ⟨g, h1, h2⟩
    · exact hne (e.trans h1)
    · rw [h1] at e; simp at e; omega
  · rcases k.row with k1 | ⟨g, k1, k2⟩
    · rw [k1]; exact h.row
    · exact Or.inr ⟨g, k1, by omega⟩
theorem Grw.of_below {w w' : World} (r : Option Nat) (h : Below w.heap.size w w') : Grw w w' r r := ⟨⟨h.os, h.tape, h.output, h.size, fun k hk _ => h.block k hk⟩, Or.inl rfl⟩
theorem Grw.below {B : Nat} {w w' : World} {r r' : Option Nat} (h : Grw w w' r r') (hB : B ≤ w.heap.size) (hr : ∀ g, r = some g → B ≤ g) : Below B w w' :=
  ⟨h.gr.os, h.gr.tape, h.gr.output, h.gr.size, fun k hk => h.gr.block k (by omega) (fun e => by have := hr k e.symm; omega)⟩

end Go.Proofs.Ytbhoeaeleoiaaab

namespace Go.Proofs.Ytbhoeaeleoiaaab
open Go.RowKit

/-- Three cells a term, and its arguments. -/
def Kids (p : Nat → Prop) (w : World) : List T → List Value → Prop
  | [], cs => cs = []
  | t :: ts, cs => ∃ a cap rest, cs = .int .i64 t.v :: .int .i64 t.f :: .slice a t.args.length cap :: rest ∧ InP p w t.args a ∧ Kids p w ts rest
theorem Kids_append {p : Nat → Prop} {w : World} {ts us : List T} : ∀ {cs ds : List Value}, Kids p w ts cs → Kids p w us ds → Kids p w (ts ++ us) (cs ++ ds) := by
  induction ts with
  | nil => intro cs ds h1 h2; rw [show cs = [] from h1]; exact h2
  | cons t ts ih =>
    intro cs ds h1 h2
    obtain ⟨a, cap, rest, rfl, h0, h⟩ := h1
    exact ⟨a, cap, rest ++ ds, rfl, h0, ih h h2⟩
theorem Kids_mono {p q : Nat → Prop} {w w' : World} {ts : List T} (hs : ∀ k, p k → k < w.heap.size → q k ∧ w'.heap[k]? = w.heap[k]?) : ∀ {cs : List Value}, Kids p w ts cs → Kids q w' ts cs := by
  induction ts with
  | nil => intro cs h; exact h
  | cons t ts ih =>
    intro cs h
    obtain ⟨a, cap, rest, rfl, h0, h⟩ := h
    exact ⟨a, cap, rest, rfl, InP_mono (fun b o v hp hv => ⟨(hs b hp (lt_of_cell hv)).1, by rw [World.cell?_of_block (w := w) (a := ⟨b, o, none⟩) (hs b hp (lt_of_cell hv)).2]; exact hv⟩) _ _ _ (Nat.le_refl _) h0, ih h⟩

theorem Kids_in {p : Nat → Prop} {w : World} {g : Nat} (hpg : p g) {ts : List T} : ∀ {off : Nat} {cs : List Value}, Kids p w ts cs → (∀ j u, cs[j]? = some u → w.cell? ⟨g, off + j, none⟩ = some u) → InP p w ts (some ⟨g, off, none⟩) := by
  induction ts with
  | nil => intro off cs _ _; exact InP_nil
  | cons t ts ih =>
    intro off cs h hc
    obtain ⟨a, cap, rest, rfl, h0, h⟩ := h
    refine InP_cons.2 ⟨g, off, .slice a t.args.length cap, rfl, hpg, hc 0 _ rfl, hc 1 _ rfl, hc 2 _ rfl, In_iff.2 ⟨a, cap, rfl, h0⟩, ih h fun j u hu => ?_⟩
    rw [show off + 3 + j = off + (j + 3) from by omega]
    exact hc (j + 3) u (by simpa using hu)
end Go.Proofs.Ytbhoeaeleoiaaab

namespace Go.Proofs.Ytbhoeaeleoiaaab
open Go.RowKit

/-- A list of numbers of the call's own, read. -/
theorem own_ints {w : World} {base : Nat} {v : Value} {zs : List Int} (h : w.ownsRow base 3 1 v zs.length (zs.map (Value.int .i64))) : ∃ a cap, v = .slice a zs.length cap ∧ Ints w zs a ∧ zs.length ≤ cap := by
  rcases h.2 with ⟨rfl, h0⟩ | ⟨g, cap, cur, rfl, hb, hg, hc, hm, hs, ht⟩
  · exact ⟨none, 0, by rw [h0], Or.inl (List.length_eq_zero_iff.1 h0), by omega⟩
  · refine ⟨some ⟨g, 0, none⟩, cap, rfl, Or.inr ⟨g, 0, rfl, fun i hi => ?_⟩, hc⟩
    have e1 : cur[i]? = some (.int .i64 (zs.getD i 0)) := by
      have : (cur.toList.take (zs.length * 1))[i]? = some (.int .i64 (zs.getD i 0)) := by rw [ht]; simp [List.getD, hi]
      rw [List.getElem?_take_of_lt (by omega)] at this
      simpa using this
    simp only [World.cell?, hg, Nat.zero_add]
    simp [e1]

end Go.Proofs.Ytbhoeaeleoiaaab

namespace Go.Proofs.Ytbhoeaeleoiaaab
open Go.RowKit

/-- A list of numbers of the call's own. -/
abbrev OwnI (base : Nat) (w : World) (v : Value) (zs : List Int) : Prop := w.ownsRow base 3 1 v zs.length (zs.map (Value.int .i64))

end Go.Proofs.Ytbhoeaeleoiaaab

namespace Go.Proofs.Ytbhoeaeleoiaaab
open Go.RowKit

theorem OwnI.same {base : Nat} {w w' : World} {v : Value} {zs : List Int} (h : OwnI base w v zs) (hs : ∀ g, v.ownBlock = some g → w'.heap[g]? = w.heap[g]?) : OwnI base w' v zs := own_same h hs
theorem OwnI.below {base : Nat} {w w' : World} {v : Value} {zs : List Int} (h : OwnI base w v zs) (hb : Below w.heap.size w w') : OwnI base w' v zs := own_same h (fun g hg => hb.block g (own_lt h g hg).2)
theorem OwnI.grown {base : Nat} {w w' : World} {v : Value} {r : Option Nat} {zs : List Int} (h : OwnI base w v zs) (hg : w.grownBy w' r) (hne : v.ownBlock = none ∨ v.ownBlock ≠ r) : OwnI base w' v zs := own_same h (fun g hg' => hg.block g (own_lt h g hg').2 (fun e => by
  rcases hne with h1 | h1
  · rw [h1] at hg'; cases hg'
  · exact h1 (hg'.trans e)))
theorem OwnI.new {base : Nat} {w : World} {n : Nat} (hn : n = w.heap.size) (hb : base ≤ w.heap.size) : OwnI base (w.alloc (.cells #[] 3)) (.slice (some ⟨n, 0, none⟩) 0 0) [] := by
  subst hn
  exact World.ownsRow_lit (base := base) (e := 3) (size := 1) w #[] 0 hb (by decide) (by simp)

end Go.Proofs.Ytbhoeaeleoiaaab

namespace Go.Proofs.Ytbhoeaeleoiaaab
open Go.RowKit

theorem cell_below {w w' : World} {b o : Nat} {v : Value} (hb : Below w.heap.size w w') (h : w.cell? ⟨b, o, none⟩ = some v) : w'.cell? ⟨b, o, none⟩ = some v := by
  rw [hb.cell (p := ⟨b, o, none⟩) (lt_of_cell h)]; exact h
end Go.Proofs.Ytbhoeaeleoiaaab

namespace Go.Proofs.Ytbhoeaeleoiaaab
open Go.RowKit

/-- Bindings lie one behind the other from an address on, four cells each, in blocks of which p holds. -/
def Binds (p : Nat → Prop) (w : World) : List (Int × T) → Option Addr → Prop
  | [], _ => True
  | x :: bs, a => ∃ b off a1 cap, a = some ⟨b, off, none⟩ ∧ p b ∧ w.cell? ⟨b, off, none⟩ = some (.int .i64 x.1) ∧ w.cell? ⟨b, off + 1, none⟩ = some (.int .i64 x.2.v) ∧ w.cell? ⟨b, off + 2, none⟩ = some (.int .i64 x.2.f) ∧ w.cell? ⟨b, off + 3, none⟩ = some (.slice a1 x.2.args.length cap) ∧ InP p w x.2.args a1 ∧ Binds p w bs (some ⟨b, off + 4, none⟩)
theorem Binds_some {p : Nat → Prop} {w : World} {bs : List (Int × T)} {a : Option Addr} (h : Binds p w bs a) (hp : 0 < bs.length) : ∃ b off, a = some ⟨b, off, none⟩ := by
  cases bs with
  | nil => simp at hp
  | cons x bs => obtain ⟨b, off, _, _, rfl, _⟩ := h; exact ⟨b, off, rfl⟩
theorem Binds_mono {p q : Nat → Prop} {w w' : World} (hs : ∀ b o v, p b → w.cell? ⟨b, o, none⟩ = some v → q b ∧ w'.cell? ⟨b, o, none⟩ = some v) : ∀ {bs : List (Int × T)} {a : Option Addr}, Binds p w bs a → Binds q w' bs a := by
  intro bs
  induction bs with
  | nil => intro a _; trivial
  | cons x bs ih =>
    intro a h
    obtain ⟨b, off, a1, cap, rfl, hp, h0, h1, h2, h3, hin, hr⟩ := h
    exact ⟨b, off, a1, cap, rfl, (hs _ _ _ hp h0).1, (hs _ _ _ hp h0).2, (hs _ _ _ hp h1).2, (hs _ _ _ hp h2).2, (hs _ _ _ hp h3).2, InP_mono hs _ _ _ (Nat.le_refl _) hin, ih hr⟩
theorem Binds_below {p : Nat → Prop} {w w' : World} {bs : List (Int × T)} {a : Option Addr} (hb : Below w.heap.size w w') (h : Binds p w bs a) : Binds p w' bs a :=
  Binds_mono (fun _ _ _ hp hv => ⟨hp, cell_below hb hv⟩) h
theorem Binds_imp {p q : Nat → Prop} {w : World} {bs : List (Int × T)} {a : Option Addr} (hpq : ∀ k, p k → q k) (h : Binds p w bs a) : Binds q w bs a :=
  Binds_mono (fun _ _ _ hp hv => ⟨hpq _ hp, hv⟩) h
theorem Binds_lt {p : Nat → Prop} {w : World} {bs : List (Int × T)} {a : Option Addr} (h : Binds p w bs a) : Binds (fun k => p k ∧ k < w.heap.size) w bs a :=
  Binds_mono (fun _ _ _ hp hv => ⟨⟨hp, lt_of_cell hv⟩, hv⟩) h
/-- The binding at index k: its four cells. -/
theorem Binds_at {p : Nat → Prop} {w : World} : ∀ {bs : List (Int × T)} {b off k : Nat} {x : Int × T}, Binds p w bs (some ⟨b, off, none⟩) → bs[k]? = some x →
    ∃ a cap, p b ∧ w.cell? ⟨b, off + k * 4, none⟩ = some (.int .i64 x.1) ∧ w.cell? ⟨b, off + k * 4 + 1, none⟩ = some (.int .i64 x.2.v) ∧ w.cell? ⟨b, off + k * 4 + 2, none⟩ = some (.int .i64 x.2.f) ∧ w.cell? ⟨b, off + k * 4 + 3, none⟩ = some (.slice a x.2.args.length cap) ∧ InP p w x.2.args a := by
  intro bs
  induction bs with
  | nil => intro b off k x _ h; simp at h
  | cons y bs ih =>
    intro b off k x h hk
    obtain ⟨b', off', a1, cap, hb, hp, h0, h1, h2, h3, hin, hr⟩ := h
    simp only [Option.some.injEq, Addr.mk.injEq] at hb
    obtain ⟨rfl, rfl, _⟩ := hb
    cases k with
    | zero =>
      simp at hk; subst hk
      exact ⟨a1, cap, hp, by simpa using h0, by simpa using h1, by simpa using h2, by simpa using h3, hin⟩
    | succ k =>
      simp at hk
      obtain ⟨a, c, _, g0, g1, g2, g3, gl⟩ := ih hr hk
      have e : off + (k + 1) * 4 = off + 4 + k * 4 := by omega
      exact ⟨a, c, hp, by rw [e]; exact g0, by rw [e]; exact g1, by rw [e]; exact g2, by rw [e]; exact g3, gl⟩

theorem Try.underlying98 : Try.prog.underlying 98 = some (.slice 167) := by kernel_rfl
end Go.Proofs.Ytbhoeaeleoiaaab

namespace Go.Proofs.Ytbhoeaeleoiaaab
open Go.RowKit

/-- What is wrong with bindings behind one of a variable. -/
def bindErr (ar : List Int) : Int → List (Int × T) → Int
  | _, [] => 0
  | last, x :: bs => if x.1 < 1 ∨ 1000 < x.1 then 3 else if x.1 ≤ last then 4 else if termErr ar x.2 = 0 then bindErr ar x.1 bs else termErr ar x.2
def bindsErr (ar : List Int) (bs : List (Int × T)) : Int := if sigErr ar = 0 then bindErr ar 0 bs else sigErr ar
/-- The variable ahead of the k-th binding. -/
def lastB (bs : List (Int × T)) (k : Nat) : Int := if k = 0 then 0 else ((bs[k - 1]?).map (·.1)).getD 0
theorem lastB_succ {bs : List (Int × T)} {k : Nat} {x : Int × T} (hx : bs[k]? = some x) : lastB bs (k + 1) = x.1 := by
  rw [lastB, if_neg (by omega), Nat.add_sub_cancel, hx]; rfl
theorem bindErr_step {ar : List Int} {last : Int} {bs : List (Int × T)} {k : Nat} {x : Int × T} (hx : bs[k]? = some x) : bindErr ar last (bs.drop k) = if x.1 < 1 ∨ 1000 < x.1 then 3 else if x.1 ≤ last then 4 else if termErr ar x.2 = 0 then bindErr ar x.1 (bs.drop (k + 1)) else termErr ar x.2 := by
  have hlt : k < bs.length := by
    rcases Nat.lt_or_ge k bs.length with h1 | h1
    · exact h1
    · rw [List.getElem?_eq_none h1] at hx; cases hx
  have e : bs.drop k = x :: bs.drop (k + 1) := by
    rw [List.getElem?_eq_getElem hlt] at hx
    simp only [Option.some.injEq] at hx
    rw [← hx, List.getElem_cons_drop]
  rw [e, bindErr]
theorem bindErr_ok {ar : List Int} : ∀ {bs : List (Int × T)} {last : Int}, bindErr ar last bs = 0 → ∀ v u, (v, u) ∈ bs → 1 ≤ v ∧ v ≤ 1000 ∧ u.sz ≤ 120 ∧ okP ar u := by
  intro bs
  induction bs with
  | nil => intro last _ v u h; cases h
  | cons x bs ih =>
    intro last h v u hm
    rw [bindErr] at h
    by_cases h1 : x.1 < 1 ∨ 1000 < x.1
    · rw [if_pos h1] at h; cases h
    · rw [if_neg h1] at h
      by_cases h2 : x.1 ≤ last
      · rw [if_pos h2] at h; cases h
      · rw [if_neg h2] at h
        by_cases h3 : termErr ar x.2 = 0
        · rw [if_pos h3] at h
          rcases List.mem_cons.1 hm with e | hm
          · subst e
            exact ⟨by omega, by omega, (termErr_iff.1 h3).1, (termErr_iff.1 h3).2⟩
          · exact ih h v u hm
        · rw [if_neg h3] at h; exact absurd h h3

attribute [local go_sem ↓] Go.wp_at_zero Go.wp_at_succ
end Go.Proofs.Ytbhoeaeleoiaaab
