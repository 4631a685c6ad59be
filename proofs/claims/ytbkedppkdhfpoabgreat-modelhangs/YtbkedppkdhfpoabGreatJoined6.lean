/- What the program's order asks of two parts, and keeps in its table. The program's order of two terms. The program's Greater and Compare. Putting in, as plain data: what stays right, how big it becomes, and that the order stays. No word of the program's memory here. All parts of a term, in a list of the call's own. The document's own check of rules. Clauses, as plain data and as they lie there; the program's Check of them. The document's own At, and the comparison beside an error. A list of terms of the call's own, and what lies behind each of them. Rising numbers, each once: whichever way they are made, they are the same. No word of the program here. The variables of a term that is right, rising, each once: what the document's way makes is what the program's way makes. The document's looks at lists of numbers. The document's FirstVars. Numbers appended to a list of the call's own: some, or none. The document's Rising. -/
import Derived.BigQuiet
import Derived.Deep.CutBlock
import Derived.Deep.DeepCutAuto
import Derived.Deep.DrawnRows
import Derived.Deep.RegionHeld3
import Derived.Deep.RegionLaw
import Derived.Laws.AppendOwnNone
import Derived.Lib.SlicesCompact
import Derived.Maps.AppendAt
import Derived.Test.YtbkedppkdhfpoabGreatJoined5
namespace Go.Proofs.YtbkedppkdhfpoabGreat
open Go.RowKit

theorem belowT (w : World) (o1 o2 o3 : Obj) : Below w.heap.size w (((w.alloc o1).alloc o2).alloc o3) := (below2 w o1 o2).alloc (by simp; omega) o3

set_option maxRecDepth 100000 in
set_option maxHeartbeats 2000000 in
theorem ask_any (b : TB) (n : Nat) (hup : IsUp b n) (s : T) (i : Nat) (t : T) (j : Nat) (sa : Option Addr) (sc : Nat) (spa : Option Addr) (spc : Nat) (ta : Option Addr) (tc : Nat) (tpa : Option Addr) (tpc : Nat) (w : World) (hn : s.sz + t.sz ≤ n + 1) (hs : PA b b.PS w s i sa spa spc) (ht : PA b b.PT w t j ta tpa tpc) (htab : TabOK b n w) :
    Calls Tryz.prog 297 #[tv b, pv s i sa sc spa spc, pv t j ta tc tpa tpc] w fun e w' => e = .returned (.int .i8 (cmpS s t)) ∧ GS b n w w' := by
  have hsl : s.args.length ≤ 1000 := by have := T.length_le s.args; have := T.sz_eq s; have := hs.sz; omega
  have htl : t.args.length ≤ 1000 := by have := T.length_le t.args; have := T.sz_eq t; have := ht.sz; omega
  have hb := fun o1 o2 o3 => belowT w o1 o2 o3
  have hk := fun o1 o2 o3 => KT.of_below (b := b) (belowT w o1 o2 o3)
  by_cases h0 : s.v = 0
  · have e0 : (s.v != 0) = false := by simpa using h0
    by_cases hA : t.v ≠ 0 ∨ s.f < t.f
    · have Hfin := hide (cmp_byArg hs.ok ht.ok h0 hA)
      have HA := hide (fun o1 o2 o3 => byArg_any b n hup s.args (i + 1) spa spc t j ta tc tpa tpc (((w.alloc o1).alloc o2).alloc o3) (fun x hx => by
        have h9 := arg_sz hx
        have h8 := hs.sz
        exact ⟨okArg hs.ok hx, by omega, by omega⟩) hsl (PL_kt (hk o1 o2 o3) hs.pl) hs.sub (ht.kt (hk o1 o2 o3)) (htab.gs (GS.of_below (hb o1 o2 o3))))
      have HB := hide (fun o1 o2 o3 => GS.of_below (b := b) (n := n) (hb o1 o2 o3))
      obtain ⟨Z, hZ⟩ : ∃ Z, Z = cmpS s t := ⟨_, rfl⟩
      rw [← Hfin.out, ← hZ] at HA
      rw [← hZ]
      clear Hfin hZ hb hk hup hs ht htab h0
      by_cases h1 : t.v = 0
      · have e1 : (t.v != 0) = false := by simpa using h1
        have hlt : s.f < t.f := hA.resolve_left (fun h => h h1)
        clear hA h1
        go_enter Tryz.func297, Tryz.ntmps297
        go_wp2_with fail
        refine (HA.out _ _ _).mono ?_
        rintro e w4 ⟨rfl, hg4⟩
        have H4 := hide ((HB.out _ _ _).trans hg4)
        clear hg4
        go_wp2_with fail
        go_ret
        exact ⟨rfl, H4.out⟩
      · have e1 : (t.v != 0) = true := by simpa using h1
        clear hA h1
        go_enter Tryz.func297, Tryz.ntmps297
        go_wp2_with fail
        refine (HA.out _ _ _).mono ?_
        rintro e w4 ⟨rfl, hg4⟩
        have H4 := hide ((HB.out _ _ _).trans hg4)
        clear hg4
        go_wp2_with fail
        go_ret
        exact ⟨rfl, H4.out⟩
    · have h1 : t.v = 0 := by
        rcases Classical.em (t.v = 0) with h | h
        · exact h
        · exact absurd (Or.inl h) hA
      have hnl : ¬ s.f < t.f := fun h => hA (Or.inr h)
      have e1 : (t.v != 0) = false := by simpa using h1
      by_cases hgt : t.f < s.f
      · have Hfin := hide (cmp_above hs.ok ht.ok h0 h1 hgt)
        have HA := hide (fun o1 o2 o3 => above_any b n hup s i sa sc spa spc t.args (j + 1) tpa tpc (((w.alloc o1).alloc o2).alloc o3) (fun x hx => by
          have h9 := arg_sz hx
          have h8 := ht.sz
          exact ⟨okArg ht.ok hx, by omega, by omega⟩) htl (PL_kt (hk o1 o2 o3) ht.pl) ht.sub (hs.kt (hk o1 o2 o3)) (htab.gs (GS.of_below (hb o1 o2 o3))))
        have HB := hide (fun o1 o2 o3 => GS.of_below (b := b) (n := n) (hb o1 o2 o3))
        obtain ⟨Z, hZ⟩ : ∃ Z, Z = cmpS s t := ⟨_, rfl⟩
        rw [← Hfin.out, ← hZ] at HA
        rw [← hZ]
        clear Hfin hZ hb hk hup hs ht htab h0 h1 hA
        go_enter Tryz.func297, Tryz.ntmps297
        go_wp2_with fail
        refine (HA.out _ _ _).mono ?_
        rintro e w4 ⟨rfl, hg4⟩
        have H4 := hide ((HB.out _ _ _).trans hg4)
        clear hg4
        go_wp2_with fail
        go_ret
        exact ⟨rfl, H4.out⟩
      · have hf : s.f = t.f := by omega
        have HA := hide (fun o1 o2 o3 => askArgs_any b n hup s i t j sa sc spa spc ta tc tpa tpc (((w.alloc o1).alloc o2).alloc o3) hn h0 h1 hf (hs.kt (hk o1 o2 o3)) (ht.kt (hk o1 o2 o3)) (htab.gs (GS.of_below (hb o1 o2 o3))))
        have HB := hide (fun o1 o2 o3 => GS.of_below (b := b) (n := n) (hb o1 o2 o3))
        obtain ⟨Z, hZ⟩ : ∃ Z, Z = cmpS s t := ⟨_, rfl⟩
        rw [← hZ] at HA ⊢
        clear hZ hb hk hup hs ht htab h0 h1 hA hf
        go_enter Tryz.func297, Tryz.ntmps297
        go_wp2_with fail
        refine (HA.out _ _ _).mono ?_
        rintro e w4 ⟨rfl, hg4⟩
        have H4 := hide ((HB.out _ _ _).trans hg4)
        clear hg4
        go_wp2_with fail
        go_ret
        exact ⟨rfl, H4.out⟩
  · have e0 : (s.v != 0) = true := by simpa using h0
    have Hfin := hide (cmp_var hs.ok ht.ok h0)
    obtain ⟨Z, hZ⟩ : ∃ Z, Z = cmpS s t := ⟨_, rfl⟩
    rw [← hZ] at Hfin ⊢
    have HB := hide (fun o1 o2 o3 => GS.of_below (b := b) (n := n) (hb o1 o2 o3))
    by_cases h1 : s.v = t.v
    · have e1 : (s.v == t.v) = true := by simpa using h1
      obtain rfl : Z = 2 := by rw [Hfin.out, if_pos h1]
      clear hZ hb hk hup hs ht htab h0 h1 Hfin
      go_enter Tryz.func297, Tryz.ntmps297
      go_wp2_with fail
      go_ret
      exact ⟨rfl, HB.out _ _ _⟩
    · have e1 : (s.v == t.v) = false := by simpa using h1
      obtain rfl : Z = 3 := by rw [Hfin.out, if_neg h1]
      clear hZ hb hk hup hs ht htab h0 h1 Hfin
      go_enter Tryz.func297, Tryz.ntmps297
      go_wp2_with fail
      go_ret
      exact ⟨rfl, HB.out _ _ _⟩

theorem cellT {w w' : World} {b o : Nat} {v : Value} (hb : Below w.heap.size w w') (h : w.cell? ⟨b, o, none⟩ = some v) : w'.cell? ⟨b, o, none⟩ = some v := by
  rw [hb.cell (p := ⟨b, o, none⟩) (lt_of_cell h)]; exact h
/-- What was asked is written down. -/
theorem memo_step {b : TB} {n : Nat} {w w4 : World} {i j : Nat} {s t : T} (hi : i < b.R) (hj : j < b.C) (hs : b.PS[i]? = some s) (ht : b.PT[j]? = some t) (hn1 : s.sz + t.sz = n + 1) (hg : GS b n w w4) : GS b (n + 1) w (w4.setCell ⟨b.K, i * b.C + j, none⟩ (.int .i8 (cmpS s t))) := by
  refine ⟨hg.kt.set _ _, fun M hM hC => ?_⟩
  obtain ⟨M', g1, g2, g3⟩ := hg.st M hM (hC.mono (by omega))
  refine ⟨_, g1.set hi hj (cmpS s t), fun i' j' s' t' hs' ht' hz => ?_, fun i' j' s' t' hs' ht' hz => ?_⟩
  · by_cases e : i' = i ∧ j' = j
    · obtain ⟨rfl, rfl⟩ := e
      rw [hs] at hs'; rw [ht] at ht'
      obtain rfl : s = s' := Option.some.inj hs'
      obtain rfl : t = t' := Option.some.inj ht'
      simp
    · simp only [if_neg e]
      rcases Nat.lt_or_ge n (s'.sz + t'.sz) with h | h
      · rw [g3 i' j' s' t' hs' ht' h]; exact hC i' j' s' t' hs' ht' hz
      · exact g2 i' j' s' t' hs' ht' h
  · have e : ¬ (i' = i ∧ j' = j) := fun e => by
      obtain ⟨rfl, rfl⟩ := e
      rw [hs] at hs'; rw [ht] at ht'
      obtain rfl : s = s' := Option.some.inj hs'
      obtain rfl : t = t' := Option.some.inj ht'
      omega
    simp only [if_neg e]
    exact g3 i' j' s' t' hs' ht' (by omega)

set_option maxRecDepth 100000 in
set_option maxHeartbeats 2000000 in
theorem isUp (b : TB) (hok : b.Ok) : ∀ n, IsUp b n := by
  intro n
  induction n with
  | zero => intro s i t j sa sc spa spc ta tc tpa tpc w hn; have := s.sz_pos; omega
  | succ n ih =>
    intro s i t j sa sc spa spc ta tc tpa tpc w hn hs ht htab
    rcases Nat.lt_or_ge n (s.sz + t.sz) with hlt | hlt
    · have hn1 : s.sz + t.sz = n + 1 := by omega
      rw [hn1] at htab ⊢
      have hi : i < b.R := by
        rw [hok.hR]
        rcases Nat.lt_or_ge i b.PS.length with h | h
        · exact h
        · have := hs.num; rw [List.getElem?_eq_none h] at this; cases this
      have hj : j < b.C := by
        rw [hok.hC]
        rcases Nat.lt_or_ge j b.PT.length with h | h
        · exact h
        · have := ht.num; rw [List.getElem?_eq_none h] at this; cases this
      have htab0 := htab
      obtain ⟨M, hM, hC⟩ := htab
      have hr1 := hok.r1
      have hc1 := hok.c1
      have hNb : b.R * b.C ≤ 1000000 := Nat.mul_le_mul hr1 hc1
      have hql := idx_lt hi hj
      obtain ⟨p, hp⟩ : ∃ p, p = i * b.C := ⟨_, rfl⟩
      obtain ⟨q, hq⟩ : ∃ q, q = p + j := ⟨_, rfl⟩
      have hqe : i * b.C + j = q := by rw [hq, hp]
      have hw1 : IntKind.i64.wrap ((i : Int) * (b.C : Int)) = (p : Int) := by
        have e : ((i : Int) * (b.C : Int)) = (p : Int) := by rw [hp, Int.natCast_mul]
        rw [e]; exact wrap_ok _ (by omega) (by omega)
      have hw2 : IntKind.i64.wrap ((p : Int) + (j : Int)) = (q : Int) := by
        have e : ((p : Int) + (j : Int)) = (q : Int) := by rw [hq]; omega
        rw [e]; exact wrap_ok _ (by omega) (by omega)
      have cE := hM.ent i j hi hj
      have fE := hM.fr q
      have lK := hM.lt
      rw [hqe] at cE hql
      have Hqe := hide hqe
      obtain ⟨NN, hNN⟩ : ∃ NN, NN = b.R * b.C := ⟨_, rfl⟩
      have HNN := hide hNN
      have hq0 : (0 : Int) ≤ (q : Int) := by omega
      have hq1 : (q : Int) < (NN : Int) := by omega
      show Calls Tryz.prog 266 #[.agg #[.slice (some ⟨b.K, 0, none⟩) (b.R * b.C) (b.R * b.C), .int .i64 (b.C : Int)], pv s i sa sc spa spc, pv t j ta tc tpa tpc] w _
      rw [← hNN]
      have hb := fun o1 o2 o3 => belowT w o1 o2 o3
      have HB := hide (fun o1 o2 o3 => GS.of_below (b := b) (n := n + 1) (hb o1 o2 o3))
      have HZ0 := hide (show cmpS s t ≠ 0 from by rcases cmpS_range s t with h | h | h <;> rw [h] <;> decide)
      by_cases h0 : M i j = 0
      · rw [h0] at cE
        have HA := hide (fun o1 o2 o3 => (show Calls Tryz.prog 297 #[.agg #[.slice (some ⟨b.K, 0, none⟩) NN NN, .int .i64 (b.C : Int)], pv s i sa sc spa spc, pv t j ta tc tpa tpc] (((w.alloc o1).alloc o2).alloc o3) (fun e w' => e = .returned (.int .i8 (cmpS s t)) ∧ GS b n (((w.alloc o1).alloc o2).alloc o3) w') from by rw [hNN]; exact ask_any b n ih s i t j sa sc spa spc ta tc tpa tpc (((w.alloc o1).alloc o2).alloc o3) (by omega) (hs.kt (KT.of_below (hb o1 o2 o3))) (ht.kt (KT.of_below (hb o1 o2 o3))) ((htab0.mono (by omega)).gs (GS.of_below (hb o1 o2 o3)))))
        have HM := hide (fun (w4 : World) (hg : GS b n w w4) => memo_step hi hj hs.num ht.num hn1 hg)
        have HC4 := hide (fun (w4 : World) (hg : GS b n w w4) => (show (∃ v, w4.cell? ⟨b.K, q, none⟩ = some (.int .i8 v)) ∧ w4.frozen? ⟨b.K, q, none⟩ = false from by
          obtain ⟨M', g1, _, _⟩ := hg.st M hM (hC.mono (by omega))
          have h9 := g1.ent i j hi hj
          rw [hqe] at h9
          exact ⟨⟨_, h9⟩, g1.fr q⟩))
        have HB2 := hide (fun o1 o2 o3 => GS.of_below (b := b) (n := n) (hb o1 o2 o3))
        obtain ⟨Z, hZ⟩ : ∃ Z, Z = cmpS s t := ⟨_, rfl⟩
        rw [← hZ] at HA HM ⊢
        have cE3 := fun o1 o2 o3 => cellT (belowT w o1 o2 o3) cE
        clear hZ HZ0 HB hb hM hC htab0 hs ht ih h0 hNN hqe hp hq hNb hql hn1 hlt hn hok cE
        go_enter Tryz.func266, Tryz.ntmps266
        go_wp2_with fail
        with_reducible refine (HA.out _ _ _).mono ?_
        rintro e w4 ⟨rfl, hg4⟩
        have Hg4 := hide ((HB2.out _ _ _).trans hg4)
        obtain ⟨⟨v4, c4⟩, f4⟩ := HC4.out _ Hg4.out
        have HF := hide (HM.out _ Hg4.out)
        rw [Hqe.out] at HF
        clear hg4 HM HC4 HA
        go_wp2_with fail
        go_ret
        exact ⟨rfl, HF.out⟩
      · have hv : M i j = cmpS s t := (hC i j s t hs.num ht.num (by omega)).resolve_left h0
        rw [hv] at cE
        obtain ⟨Z, hZ⟩ : ∃ Z, Z = cmpS s t := ⟨_, rfl⟩
        rw [← hZ] at cE HZ0 ⊢
        have hz0 : (Z == 0) = false := by simpa using HZ0.out
        have cE3 := fun o1 o2 o3 => cellT (belowT w o1 o2 o3) cE
        clear hZ HZ0 hb hM hC htab0 hs ht ih h0 hNN hqe hp hq hNb hql hn1 hlt hn hok hv cE
        go_enter Tryz.func266, Tryz.ntmps266
        go_wp2_with fail
        go_ret
        exact ⟨rfl, HB.out _ _ _⟩
    · exact ih s i t j sa sc spa spc ta tc tpa tpc w hlt hs ht htab

end Go.Proofs.YtbkedppkdhfpoabGreat

namespace Go.Proofs.YtbkedppkdhfpoabGreat
open Go.RowKit

theorem Tryz.underlying307 : Tryz.prog.underlying 307 = some (.slice 240) := by kernel_rfl
theorem Tryz.info240 : (Tryz.prog.info? 240).map (fun i => (i.zero, i.size, i.bytes)) = some (some (.int .i8 0), 1, 1) := by kernel_rfl

def row8 (n : Nat) : Array Value := madeCells #[.int .i8 0] (n * 1)
theorem run_make8 (n : Nat) (hn : n ≤ 1000000) (w : World) : (Instr.makeSlice 307 (.int .i64 (n : Int)) (.int .i64 (n : Int))).run Tryz.prog w = .ok (.slice (some ⟨w.heap.size, 0, none⟩) n n) (w.alloc (.cells (row8 n) 240)) := by
  obtain ⟨i, hi, hzz⟩ := Option.map_eq_some_iff.1 Tryz.info240
  simp only [Prod.mk.injEq] at hzz
  obtain ⟨hz, hs, hb⟩ := hzz
  have hr := run_make (P := Tryz.prog) w 307 240 i _ Tryz.underlying307 hi hz .i64 .i64 n n (by omega) (Int.le_refl _) (by rw [hb]; omega) (by omega)
  simp only [Int.toNat_natCast, hs] at hr
  exact hr
theorem row8_at {n j : Nat} (h : j < n) : (row8 n)[j]? = some (.int .i8 0) := by
  simp [row8, madeCells, h, Nat.mod_one]

theorem pre_head (t : T) : (pre t)[0]? = some t := by rw [pre_eq]; rfl
theorem pre_subs (t : T) : Subs (pre t) 1 t.args := ⟨[], by rw [pre_eq, List.append_nil]; rfl⟩
theorem pre_len (t : T) : (pre t).length = t.sz := (pre_length _).1 t (Nat.le_refl _)

theorem numbered0 (r : Nat → Prop) (t : T) (a : Option Addr) (cap : Nat) (w : World) (h120 : t.sz ≤ 120) (hr : ∀ k, r k → k < w.heap.size) (hin : InP r w t.args a) :
    Calls Tryz.prog 265 #[.agg #[.int .i64 t.v, .int .i64 t.f, .slice a t.args.length cap], .int .i64 0] w fun e w' =>
      ∃ pa pc, e = .returned (.tuple #[.agg #[.int .i64 t.v, .int .i64 t.f, .slice a t.args.length cap, .int .i64 0, .slice pa t.args.length pc], .int .i64 (t.sz : Int)]) ∧
        t.args.length ≤ pc ∧ PL (fun k => w.heap.size ≤ k) r w' t.args 1 pa ∧ Below w.heap.size w w' := by
  have h := numbered_any r 120 t 0 a cap w h120 (by omega) (by omega) hr hin
  rw [Nat.zero_add, Nat.zero_add] at h
  exact h

set_option maxRecDepth 100000 in
set_option maxHeartbeats 2000000 in
theorem great_any (ar : List Int) (s : T) (sa : Option Addr) (sc : Nat) (t : T) (ta : Option Addr) (tc : Nat) (w : World) (hs : okP ar s) (ht : okP ar t) (hs1 : s.sz ≤ 120) (ht1 : t.sz ≤ 120) (hin : InL w s.args sa) (hin2 : InL w t.args ta) :
    Calls Tryz.prog 234 #[.agg #[.int .i64 s.v, .int .i64 s.f, .slice sa s.args.length sc], .agg #[.int .i64 t.v, .int .i64 t.f, .slice ta t.args.length tc]] w fun e w' => e = .returned (.bool (gt s t)) ∧ Below w.heap.size w w' := by
  have hNb : s.sz * t.sz ≤ 14400 := Nat.mul_le_mul hs1 ht1
  obtain ⟨N, hN⟩ : ∃ N, N = s.sz * t.sz := ⟨_, rfl⟩
  have hwm : IntKind.i64.wrap ((s.sz : Int) * (t.sz : Int)) = (N : Int) := by
    have e : ((s.sz : Int) * (t.sz : Int)) = (N : Int) := by rw [hN, Int.natCast_mul]
    rw [e]; exact wrap_ok _ (by omega) (by omega)
  have hmk8 := run_make8 N (by omega)
  have HN := hide hN
  have H1 := hide (fun o1 o2 => numbered0 (fun k => k < w.heap.size) s sa sc ((w.alloc o1).alloc o2) hs1 (fun k hk => by have hk : k < w.heap.size := hk; simp; omega) (InP_alloc o2 (InP_alloc o1 (InP_imp (fun _ h => h.2) (InP_lt hin)))))
  clear hN hNb
  go_enter Tryz.func234, Tryz.ntmps234
  go_wp2_with fail
  refine (H1.out _ _).mono ?_
  rintro e w1 ⟨pa1, pc1, rfl, hpc1, hpl1, hb1⟩
  have hz1 := hb1.size
  simp at hz1
  have hbw1 : Below w.heap.size w w1 := (below2 _ _ _).trans (hb1.mono (by simp; omega))
  have h3t : Three w1 (w.heap.size + 1) (.int .i64 t.v) (.int .i64 t.f) (.slice ta t.args.length tc) := (Three.new 77 (by simp)).below hb1
  obtain ⟨d0, d1, d2, _, _, _⟩ := h3t
  have hq1 : w.heap.size + 1 < w1.heap.size := by omega
  have H2 := hide (fun o => numbered0 (fun k => k < w.heap.size) t ta tc (w1.alloc o) ht1 (fun k hk => by have hk : k < w.heap.size := hk; simp; omega) (InP_alloc o (InP_below hbw1 (InP_imp (fun _ h => h.2) (InP_lt hin2)))))
  have Hpl1 := hide hpl1
  have Hpc1 := hide hpc1
  clear H1 hpl1 hb1 hpc1
  go_wp2_with fail
  refine (H2.out _).mono ?_
  rintro e w2 ⟨pa2, pc2, rfl, hpc2, hpl2, hb2⟩
  have hz2 := hb2.size
  simp at hz2
  have hb12 : Below w1.heap.size w1 w2 := (below1 _ _).trans (hb2.mono (by simp))
  have hbw2 : Below w.heap.size w w2 := hbw1.trans (hb12.mono (by omega))
  obtain ⟨WT, hWT⟩ : ∃ WT, WT = ((w2.alloc (.cells #[.int .i64 t.v, .int .i64 t.f, .slice ta t.args.length tc, .int .i64 0, .slice pa2 t.args.length pc2] 304)).alloc (.cells (row8 N) 240)).alloc (.cells #[.slice (some ⟨w2.heap.size + 1, 0, none⟩) N N, .int .i64 (t.sz : Int)] 309) := ⟨_, rfl⟩
  have hb2T : Below w2.heap.size w2 WT := by rw [hWT]; exact ((below1 _ _).alloc (by simp) _).alloc (by simp; omega) _
  have hb1T : Below w1.heap.size w1 WT := hb12.trans (hb2T.mono (by omega))
  have hbwT : Below w.heap.size w WT := hbw1.trans (hb1T.mono (by omega))
  have g1 : ∀ o, (w2.alloc o).heap.size = w2.heap.size + 1 := fun o => World.size_alloc _ _
  have g2 : ∀ o o', ((w2.alloc o).alloc o').heap.size = w2.heap.size + 1 + 1 := fun o o' => by rw [World.size_alloc, g1]
  have hzT : WT.heap.size = w2.heap.size + 1 + 1 + 1 := by rw [hWT, World.size_alloc, g2]
  have hheap : WT.heap[w2.heap.size + 1]? = some (.cells (row8 N) 240) := by
    rw [hWT, Below.heap_alloc _ _ _ (by rw [g2]; omega)]
    have h9 := heap_alloc_new (w2.alloc (.cells #[.int .i64 t.v, .int .i64 t.f, .slice ta t.args.length tc, .int .i64 0, .slice pa2 t.args.length pc2] 304)) (.cells (row8 N) 240)
    rw [g1] at h9
    exact h9
  obtain ⟨bt, hbt⟩ : ∃ bt : TB, bt = { K := w2.heap.size + 1, R := s.sz, C := t.sz, PS := pre s, PT := pre t, ar := ar } := ⟨_, rfl⟩
  have hq : ∀ b', b' < w2.heap.size + 1 → bt.q b' := fun b' hb' => by
    subst hbt
    show b' ≠ w2.heap.size + 1
    omega
  have hok : bt.Ok := by
    subst hbt
    exact ⟨(pre_len s).symm, (pre_len t).symm, by show s.sz ≤ 1000; omega, by show t.sz ≤ 1000; omega⟩
  have hpas : PA bt bt.PS WT s 0 sa pa1 pc1 := by
    refine ⟨by subst hbt; exact hs, by subst hbt; exact pre_head s, by subst hbt; exact pre_subs s, ?_, ?_, by omega, Hpc1.out⟩
    · exact InP_imp (fun k' hk' => hq k' (by have := hk'.2; omega)) (InP_below hbwT (InP_lt hin))
    · exact PL_mono (fun b' o v hp hv => ⟨hq b' (by have := lt_of_cell hv; omega), by rw [hb1T.cell (p := ⟨b', o, none⟩) (lt_of_cell hv)]; exact hv⟩) (fun b' o v hp hv => ⟨hq b' (by have := lt_of_cell hv; omega), by rw [hb1T.cell (p := ⟨b', o, none⟩) (lt_of_cell hv)]; exact hv⟩) _ _ _ _ (Nat.le_refl _) Hpl1.out
  have hpat : PA bt bt.PT WT t 0 ta pa2 pc2 := by
    refine ⟨by subst hbt; exact ht, by subst hbt; exact pre_head t, by subst hbt; exact pre_subs t, ?_, ?_, by omega, hpc2⟩
    · exact InP_imp (fun k' hk' => hq k' (by have := hk'.2; omega)) (InP_below hbwT (InP_lt hin2))
    · exact PL_mono (fun b' o v hp hv => ⟨hq b' (by have := lt_of_cell hv; omega), by rw [hb2T.cell (p := ⟨b', o, none⟩) (lt_of_cell hv)]; exact hv⟩) (fun b' o v hp hv => ⟨hq b' (by have := lt_of_cell hv; omega), by rw [hb2T.cell (p := ⟨b', o, none⟩) (lt_of_cell hv)]; exact hv⟩) _ _ _ _ (Nat.le_refl _) hpl2
  have htab : TabOK bt (s.sz + t.sz) WT := by
    refine ⟨fun _ _ => 0, ?_, fun _ _ _ _ _ _ _ => Or.inl rfl⟩
    subst hbt
    refine ⟨fun i j hi hj => ?_, fun k => frozen_of_heap hheap k, by show w2.heap.size + 1 < _; omega⟩
    show WT.cell? ⟨w2.heap.size + 1, i * t.sz + j, none⟩ = some (.int .i8 0)
    have h9 : i * t.sz + j < N := by rw [HN.out]; exact idx_lt (show i < s.sz from hi) (show j < t.sz from hj)
    simp [World.cell?, hheap, row8_at h9]
  have hgr := isUp bt hok (s.sz + t.sz) s 0 t 0 sa sc pa1 pc1 ta tc pa2 pc2 WT (Nat.le_refl _) hpas hpat htab
  have HG : Hid (Calls Tryz.prog 266 #[.agg #[.slice (some ⟨w2.heap.size + 1, 0, none⟩) N N, .int .i64 (t.sz : Int)], .agg #[.int .i64 s.v, .int .i64 s.f, .slice sa s.args.length sc, .int .i64 0, .slice pa1 s.args.length pc1], .agg #[.int .i64 t.v, .int .i64 t.f, .slice ta t.args.length tc, .int .i64 0, .slice pa2 t.args.length pc2]] WT fun e w' =>
      e = .returned (.int .i8 (cmpS s t)) ∧ GS bt (s.sz + t.sz) WT w') := by
    rw [HN.out]
    subst hbt
    exact hgr
  have h5s : Five w2 w1.heap.size 0 (.int .i64 s.v) (.int .i64 s.f) (.slice sa s.args.length sc) (.int .i64 0) (.slice pa1 s.args.length pc1) := (Five.of_heap (heap_alloc_new w1 _)).same (hb2.block w1.heap.size (by simp))
  have h5 := fun o1 o2 o3 => h5s.same ((belowT w2 o1 o2 o3).block w1.heap.size (by omega))
  have a0 := fun o1 o2 o3 => (h5 o1 o2 o3).1
  have a1 := fun o1 o2 o3 => (h5 o1 o2 o3).2.1
  have a2 := fun o1 o2 o3 => (h5 o1 o2 o3).2.2.1
  have a3 := fun o1 o2 o3 => (h5 o1 o2 o3).2.2.2.1
  have a4 := fun o1 o2 o3 => (h5 o1 o2 o3).2.2.2.2
  have h6 := fun o2 o3 => (Five.of_heap (e := 304) (fr := (0, 0)) (heap_alloc_new w2 (.cells #[.int .i64 t.v, .int .i64 t.f, .slice ta t.args.length tc, .int .i64 0, .slice pa2 t.args.length pc2] 304))).same ((below2 (w2.alloc (.cells #[.int .i64 t.v, .int .i64 t.f, .slice ta t.args.length tc, .int .i64 0, .slice pa2 t.args.length pc2] 304)) o2 o3).block w2.heap.size (by simp))
  have c0 := fun o2 o3 => (h6 o2 o3).1
  have c1 := fun o2 o3 => (h6 o2 o3).2.1
  have c2 := fun o2 o3 => (h6 o2 o3).2.2.1
  have c3 := fun o2 o3 => (h6 o2 o3).2.2.2.1
  have c4 := fun o2 o3 => (h6 o2 o3).2.2.2.2
  have hlw1 : w1.heap.size < w2.heap.size := by omega
  have HbT := hide hbwT
  have Hrb : Hid (∀ k', k' < w.heap.size → k' ≠ bt.K) := fun k' hk' => by
    subst hbt
    show k' ≠ w2.heap.size + 1
    omega
  have HWT := hide hWT
  have Hz := hide (show (cmpS s t == 1) = gt s t from by
    cases hgt : gt s t with
    | true => rw [cmpS_one.2 hgt]; rfl
    | false => rw [beq_eq_false_iff_ne]; exact fun h => by rw [cmpS_one.1 h] at hgt; cases hgt)
  obtain ⟨Z, hZ⟩ : ∃ Z, Z = cmpS s t := ⟨_, rfl⟩
  rw [← hZ] at HG Hz
  clear hgr hpas hpat htab hok hq hbt hbwT hb1T hb2T hWT hheap g1 g2 hzT hZ hpl2 hpc2 hb2 hb12 H2 Hpl1 Hpc1 hin hin2 hs ht d0 d1 d2 h5s h5 h6
  go_wp2_with fail
  rw [← HWT.out]
  with_reducible refine HG.out.mono ?_
  rintro e w5 ⟨rfl, hg5⟩
  have Hfin : Hid (Below w.heap.size w w5) := ⟨hg5.kt.os.trans HbT.out.os, hg5.kt.tape.trans HbT.out.tape, hg5.kt.output.trans HbT.out.output, Nat.le_trans HbT.out.size hg5.kt.size, fun k' hk' => (hg5.kt.block k' (by have := HbT.out.size; omega) (Hrb.out k' hk')).trans (HbT.out.block k' hk')⟩
  clear hg5
  go_wp2_with fail
  go_ret
  exact ⟨ret_bool Hz.out, Hfin.out⟩

end Go.Proofs.YtbkedppkdhfpoabGreat

namespace Go.Proofs.YtbkedppkdhfpoabGreat
open Go.RowKit

/-- What Greater and Compare answer beside the error. -/
def grSpec (ar : List Int) (s t : T) : Bool := decide (allErr ar [s, t] = 0) && gt s t
set_option maxRecDepth 100000 in
set_option maxHeartbeats 400000 in
theorem Greater_any (ar : List Int) (ga : Option Addr) (gcap : Nat) (s : T) (sa : Option Addr) (sc : Nat) (t : T) (ta : Option Addr) (tc : Nat) (w : World) (hg : Ints w ar ga) (hin : InL w s.args sa) (hin2 : InL w t.args ta) :
    Calls Tryz.prog 190 #[.agg #[.slice ga ar.length gcap], .agg #[.int .i64 s.v, .int .i64 s.f, .slice sa s.args.length sc], .agg #[.int .i64 t.v, .int .i64 t.f, .slice ta t.args.length tc]] w fun e w' =>
      e = .returned (.tuple #[.bool (grSpec ar s t), .int .i64 (allErr ar [s, t])]) ∧ Below w.heap.size w w' := by
  have H1 := hide (fun o1 o2 o3 => ordCheck_any ar ga gcap s sa sc t ta tc (((w.alloc o1).alloc o2).alloc o3) (Ints_alloc o3 (Ints_alloc o2 (Ints_alloc o1 hg))) (InP_alloc o3 (InP_alloc o2 (InP_alloc o1 hin))) (InP_alloc o3 (InP_alloc o2 (InP_alloc o1 hin2))))
  obtain ⟨E, hE⟩ : ∃ E, E = allErr ar [s, t] := ⟨_, rfl⟩
  obtain ⟨G, hG⟩ : ∃ G, G = grSpec ar s t := ⟨_, rfl⟩
  rw [← hE] at H1 ⊢
  rw [← hG]
  have HE := hide hE
  have HG := hide hG
  clear hE hG
  go_enter Tryz.func190, Tryz.ntmps190
  go_wp2_with fail
  refine (H1.out _ _ _).mono ?_
  rintro e w1 ⟨rfl, hb1⟩
  have hz1 : w.heap.size + 3 ≤ w1.heap.size := by have := hb1.size; simp at this; omega
  have hbw : Below w.heap.size w w1 := (((below1 _ _).alloc (by simp) _).alloc (by simp; omega) _).trans (hb1.mono (by simp; omega))
  have h3s : Three w1 (w.heap.size + 1) (.int .i64 s.v) (.int .i64 s.f) (.slice sa s.args.length sc) := ((Three.new _ (by simp)).alloc _).below hb1
  have h3t : Three w1 (w.heap.size + 1 + 1) (.int .i64 t.v) (.int .i64 t.f) (.slice ta t.args.length tc) := (Three.new _ (by simp)).below hb1
  obtain ⟨c0, c1, c2, _, _, _⟩ := h3s
  obtain ⟨d0, d1, d2, _, _, _⟩ := h3t
  clear hb1
  by_cases h : E = 0
  · obtain ⟨k1, k2, k3, k4⟩ := ok_two (HE.out.symm.trans h)
    have H2 := hide (great_any ar s sa sc t ta tc w1 k2 k4 k1 k3 (InP_below hbw hin) (InP_below hbw hin2))
    have HG2 : Hid (gt s t = G) := by show _ = _; rw [HG.out, grSpec, decide_eq_true (HE.out.symm.trans h), Bool.true_and]
    subst h
    clear k1 k2 k3 k4
    go_wp2_with fail
    refine H2.out.mono ?_
    rintro e w2 ⟨rfl, hb2⟩
    rw [HG2.out]
    have Hb := hide (hbw.trans (hb2.mono (by omega)))
    clear hb2
    go_wp2_with fail
    go_ret2
    exact ⟨rfl, Hb.out⟩
  · have hb : (E != 0) = true := by simpa using h
    have hG0 : G = false := by rw [HG.out, grSpec, decide_eq_false (fun h' => h (HE.out.trans h')), Bool.false_and]
    subst hG0
    clear h
    go_wp2_with fail
    go_ret2
    exact ⟨rfl, hbw⟩

end Go.Proofs.YtbkedppkdhfpoabGreat

namespace Go.Proofs.YtbkedppkdhfpoabGreat

/-- What a variable is bound to. -/
def lookB : List (Int × T) → Int → Option T
  | [], _ => none
  | (w, u) :: bs, v => if w = v then some u else lookB bs v
/-- What is put in for a term alone, if it is a variable that is bound. -/
def putIn (bs : List (Int × T)) (v : Int) : Option T := if 0 < v then lookB bs v else none
def applyT (bs : List (Int × T)) : T → T
  | ⟨v, f, args⟩ => match putIn bs v with
    | some u => u
    | none => ⟨v, f, applyL args⟩
  where
  applyL : List T → List T
    | [] => []
    | t :: ts => applyT bs t :: applyL ts
theorem applyT_eq (bs : List (Int × T)) (t : T) : applyT bs t = match putIn bs t.v with
    | some u => u
    | none => ⟨t.v, t.f, applyT.applyL bs t.args⟩ := by cases t; rfl
theorem applyL_map (bs : List (Int × T)) (ts : List T) : applyT.applyL bs ts = ts.map (applyT bs) := by
  induction ts with
  | nil => rfl
  | cons t ts ih => rw [applyT.applyL, ih]; rfl
theorem applyT_some {bs : List (Int × T)} {t u : T} (h : putIn bs t.v = some u) : applyT bs t = u := by rw [applyT_eq, h]
theorem applyT_none {bs : List (Int × T)} {t : T} (h : putIn bs t.v = none) : applyT bs t = ⟨t.v, t.f, t.args.map (applyT bs)⟩ := by rw [applyT_eq, h, applyL_map]
theorem putIn_fn {bs : List (Int × T)} {v : Int} (h : v = 0) : putIn bs v = none := by rw [putIn, if_neg (by omega)]
theorem applyT_fn {bs : List (Int × T)} {t : T} (h : t.v = 0) : applyT bs t = ⟨0, t.f, t.args.map (applyT bs)⟩ := by rw [applyT_none (putIn_fn h), h]
theorem lookB_mem {bs : List (Int × T)} {v : Int} {u : T} (h : lookB bs v = some u) : (v, u) ∈ bs := by
  induction bs with
  | nil => cases h
  | cons b bs ih =>
    obtain ⟨w, x⟩ := b
    rw [lookB] at h
    by_cases e : w = v
    · rw [if_pos e] at h
      simp only [Option.some.injEq] at h
      rw [e, h]; exact List.mem_cons_self
    · rw [if_neg e] at h
      exact List.mem_cons_of_mem _ (ih h)
theorem putIn_mem {bs : List (Int × T)} {v : Int} {u : T} (h : putIn bs v = some u) : (v, u) ∈ bs ∧ 0 < v := by
  rw [putIn] at h
  by_cases h0 : 0 < v
  · rw [if_pos h0] at h; exact ⟨lookB_mem h, h0⟩
  · rw [if_neg h0] at h; cases h

/-- Right terms put into a right term make a right one. -/
theorem okP_apply_aux {ar : List Int} {bs : List (Int × T)} (hb : ∀ v u, (v, u) ∈ bs → okP ar u) : ∀ (n : Nat) (t : T), t.sz ≤ n → okP ar t → okP ar (applyT bs t) := by
  intro n
  induction n with
  | zero => intro t h; have := t.sz_pos; omega
  | succ n ih =>
    intro t hn ht
    cases h : putIn bs t.v with
    | some u => rw [applyT_some h]; exact hb _ _ (putIn_mem h).1
    | none =>
      rw [applyT_none h]
      refine okP_iff.2 ⟨?_, okL_mem.2 fun a ha => ?_⟩
      · have := (okP_iff.1 ht).1
        simpa using this
      · obtain ⟨c, hc, rfl⟩ := List.mem_map.1 ha
        have := arg_sz hc
        exact ih c (by omega) (okArg ht hc)
theorem okP_apply {ar : List Int} {bs : List (Int × T)} (hb : ∀ v u, (v, u) ∈ bs → okP ar u) {t : T} (ht : okP ar t) : okP ar (applyT bs t) := okP_apply_aux hb _ t (Nat.le_refl _) ht

end Go.Proofs.YtbkedppkdhfpoabGreat

namespace Go.Proofs.YtbkedppkdhfpoabGreat
open Go.RowKit

/-- All parts of a term, each behind those that stand in it. -/
def parts : T → List T
  | ⟨v, f, args⟩ => partsL args ++ [⟨v, f, args⟩]
  where
  partsL : List T → List T
    | [] => []
    | t :: ts => parts t ++ partsL ts
theorem parts_eq (t : T) : parts t = parts.partsL t.args ++ [t] := by cases t; rfl
theorem partsL_cons (t : T) (ts : List T) : parts.partsL (t :: ts) = parts t ++ parts.partsL ts := rfl
/-- The world has grown by new blocks, and in the row r alone; the row is now r'. -/
structure Grw (w w' : World) (r r' : Option Nat) : Prop where
  gr : w.grownBy w' r
  row : r' = r ∨ ∃ g, r' = some g ∧ w.heap.size ≤ g

theorem Grw.refl (w : World) (r : Option Nat) : Grw w w r r := ⟨⟨rfl, rfl, rfl, Nat.le_refl _, fun _ _ _ => rfl⟩, Or.inl rfl⟩
theorem Grw.trans {a b c : World} {r r' r'' : Option Nat} (h : Grw a b r r') (k : Grw b c r' r'') : Grw a c r r'' := by
  have hs := h.gr.size
  refine ⟨⟨k.gr.os.trans h.gr.os, k.gr.tape.trans h.gr.tape, k.gr.output.trans h.gr.output, Nat.le_trans hs k.gr.size, fun i hi hne => ?_⟩, ?_⟩
  · rw [k.gr.block i (by omega) (fun e => ?_), h.gr.block i hi hne]
    rcases h.row with h1 | ⟨g, h1, h2⟩
    · exact hne (e.trans h1)
    · rw [h1] at e; simp at e; omega
  · rcases k.row with k1 | ⟨g, k1, k2⟩
    · rw [k1]; exact h.row
    · exact Or.inr ⟨g, k1, by omega⟩
theorem Grw.of_below {w w' : World} (r : Option Nat) (h : Below w.heap.size w w') : Grw w w' r r := ⟨⟨h.os, h.tape, h.output, h.size, fun k hk _ => h.block k hk⟩, Or.inl rfl⟩
theorem Grw.below {B : Nat} {w w' : World} {r r' : Option Nat} (h : Grw w w' r r') (hB : B ≤ w.heap.size) (hr : ∀ g, r = some g → B ≤ g) : Below B w w' :=
  ⟨h.gr.os, h.gr.tape, h.gr.output, h.gr.size, fun k hk => h.gr.block k (by omega) (fun e => by have := hr k e.symm; omega)⟩

end Go.Proofs.YtbkedppkdhfpoabGreat

namespace Go.Proofs.YtbkedppkdhfpoabGreat
open Go.RowKit

theorem cellB {w w' : World} {b o : Nat} {v : Value} (hb : Below w.heap.size w w') (h : w.cell? ⟨b, o, none⟩ = some v) : w'.cell? ⟨b, o, none⟩ = some v := by
  rw [hb.cell (p := ⟨b, o, none⟩) (lt_of_cell h)]; exact h
attribute [local go_sem ↓] Go.wp_at_zero Go.wp_at_succ
end Go.Proofs.YtbkedppkdhfpoabGreat

namespace Go.Proofs.YtbkedppkdhfpoabGreat
open Go.RowKit

/-- A literal: yes or no, and its sides. -/
abbrev Lit := Bool × T × T
/-- Seven cells a literal, and its terms behind them. -/
def LitsP (w : World) : List Lit → Option Addr → Prop
  | [], _ => True
  | x :: c, a => ∃ b off a1 c1 a2 c2, a = some ⟨b, off, none⟩ ∧ w.cell? ⟨b, off, none⟩ = some (.bool x.1) ∧ w.cell? ⟨b, off + 1, none⟩ = some (.int .i64 x.2.1.v) ∧ w.cell? ⟨b, off + 2, none⟩ = some (.int .i64 x.2.1.f) ∧ w.cell? ⟨b, off + 3, none⟩ = some (.slice a1 x.2.1.args.length c1) ∧
      w.cell? ⟨b, off + 4, none⟩ = some (.int .i64 x.2.2.v) ∧ w.cell? ⟨b, off + 5, none⟩ = some (.int .i64 x.2.2.f) ∧ w.cell? ⟨b, off + 6, none⟩ = some (.slice a2 x.2.2.args.length c2) ∧ InL w x.2.1.args a1 ∧ InL w x.2.2.args a2 ∧ LitsP w c (some ⟨b, off + 7, none⟩)
theorem LitsP_below {w w' : World} (hb : Below w.heap.size w w') : ∀ {c : List Lit} {a : Option Addr}, LitsP w c a → LitsP w' c a := by
  intro c
  induction c with
  | nil => intro a _; trivial
  | cons x c ih =>
    intro a h
    obtain ⟨b, off, a1, c1, a2, c2, rfl, h0, h1, h2, h3, h4, h5, h6, i1, i2, hr⟩ := h
    exact ⟨b, off, a1, c1, a2, c2, rfl, cellB hb h0, cellB hb h1, cellB hb h2, cellB hb h3, cellB hb h4, cellB hb h5, cellB hb h6, InP_below hb i1, InP_below hb i2, ih hr⟩
theorem LitsP_some {w : World} {c : List Lit} {a : Option Addr} (h : LitsP w c a) (hp : 0 < c.length) : ∃ b off, a = some ⟨b, off, none⟩ := by
  cases c with
  | nil => simp at hp
  | cons x c => obtain ⟨b, off, _, _, _, _, rfl, _⟩ := h; exact ⟨b, off, rfl⟩
theorem LitsP_at {w : World} : ∀ {c : List Lit} {b off k : Nat} {x : Lit}, LitsP w c (some ⟨b, off, none⟩) → c[k]? = some x →
    ∃ a1 c1 a2 c2, w.cell? ⟨b, off + k * 7, none⟩ = some (.bool x.1) ∧ w.cell? ⟨b, off + k * 7 + 1, none⟩ = some (.int .i64 x.2.1.v) ∧ w.cell? ⟨b, off + k * 7 + 2, none⟩ = some (.int .i64 x.2.1.f) ∧ w.cell? ⟨b, off + k * 7 + 3, none⟩ = some (.slice a1 x.2.1.args.length c1) ∧
      w.cell? ⟨b, off + k * 7 + 4, none⟩ = some (.int .i64 x.2.2.v) ∧ w.cell? ⟨b, off + k * 7 + 5, none⟩ = some (.int .i64 x.2.2.f) ∧ w.cell? ⟨b, off + k * 7 + 6, none⟩ = some (.slice a2 x.2.2.args.length c2) ∧ InL w x.2.1.args a1 ∧ InL w x.2.2.args a2 := by
  intro c
  induction c with
  | nil => intro b off k x _ h; simp at h
  | cons y c ih =>
    intro b off k x h hk
    obtain ⟨b', off', a1, c1, a2, c2, hb, h0, h1, h2, h3, h4, h5, h6, i1, i2, hr⟩ := h
    simp only [Option.some.injEq, Addr.mk.injEq] at hb
    obtain ⟨rfl, rfl, _⟩ := hb
    cases k with
    | zero =>
      simp at hk; subst hk
      exact ⟨a1, c1, a2, c2, by simpa using h0, by simpa using h1, by simpa using h2, by simpa using h3, by simpa using h4, by simpa using h5, by simpa using h6, i1, i2⟩
    | succ k =>
      have h9 := ih hr (by simpa using hk)
      rw [show off + (k + 1) * 7 = off + 7 + k * 7 by omega]
      exact h9
/-- A list of clauses. -/
def ClausesP (w : World) : List (List Lit) → Option Addr → Prop
  | [], _ => True
  | c :: cs, a => ∃ b off la lc, a = some ⟨b, off, none⟩ ∧ w.cell? ⟨b, off, none⟩ = some (.slice la c.length lc) ∧ LitsP w c la ∧ ClausesP w cs (some ⟨b, off + 1, none⟩)
theorem ClausesP_below {w w' : World} (hb : Below w.heap.size w w') : ∀ {cs : List (List Lit)} {a : Option Addr}, ClausesP w cs a → ClausesP w' cs a := by
  intro cs
  induction cs with
  | nil => intro a _; trivial
  | cons c cs ih =>
    intro a h
    obtain ⟨b, off, la, lc, rfl, h0, h1, h2⟩ := h
    exact ⟨b, off, la, lc, rfl, cellB hb h0, LitsP_below hb h1, ih h2⟩
theorem ClausesP_some {w : World} {cs : List (List Lit)} {a : Option Addr} (h : ClausesP w cs a) (hp : 0 < cs.length) : ∃ b off, a = some ⟨b, off, none⟩ := by
  cases cs with
  | nil => simp at hp
  | cons c cs => obtain ⟨b, off, _, _, rfl, _⟩ := h; exact ⟨b, off, rfl⟩
theorem ClausesP_at {w : World} : ∀ {cs : List (List Lit)} {b off k : Nat} {c : List Lit}, ClausesP w cs (some ⟨b, off, none⟩) → cs[k]? = some c → ∃ la lc, w.cell? ⟨b, off + k, none⟩ = some (.slice la c.length lc) ∧ LitsP w c la := by
  intro cs
  induction cs with
  | nil => intro b off k c _ h; simp at h
  | cons m cs ih =>
    intro b off k c h hk
    obtain ⟨b', off', la, lc, hb, h0, h1, h2⟩ := h
    simp only [Option.some.injEq, Addr.mk.injEq] at hb
    obtain ⟨rfl, rfl, _⟩ := hb
    cases k with
    | zero => simp at hk; subst hk; exact ⟨la, lc, by simpa using h0, h1⟩
    | succ k =>
      obtain ⟨la2, lc2, g0, g1⟩ := ih h2 (by simpa using hk)
      exact ⟨la2, lc2, by rw [show off + (k + 1) = off + 1 + k by omega]; exact g0, g1⟩

/-- What is wrong with literals, one behind the other. -/
def litsErr (ar : List Int) : List Lit → Int
  | [] => 0
  | x :: c => if termErr ar x.2.1 = 0 then (if termErr ar x.2.2 = 0 then litsErr ar c else termErr ar x.2.2) else termErr ar x.2.1
def clauseErr (ar : List Int) (c : List Lit) : Int := if 8 < c.length then 2 else litsErr ar c
def clErr (ar : List Int) : List (List Lit) → Int
  | [] => 0
  | c :: cs => if clauseErr ar c = 0 then clErr ar cs else clauseErr ar c
def clausesErr (ar : List Int) (cs : List (List Lit)) : Int := if sigErr ar = 0 then (if 60 < cs.length then 2 else clErr ar cs) else sigErr ar
theorem litsErr_drop {ar : List Int} {c : List Lit} {k : Nat} {x : Lit} (hx : c[k]? = some x) : litsErr ar (c.drop k) = if termErr ar x.2.1 = 0 then (if termErr ar x.2.2 = 0 then litsErr ar (c.drop (k + 1)) else termErr ar x.2.2) else termErr ar x.2.1 := by
  have hlt := (List.getElem?_eq_some_iff.1 hx).1
  have e : c.drop k = x :: c.drop (k + 1) := by
    rw [List.getElem?_eq_getElem hlt] at hx
    simp at hx
    rw [← hx, List.getElem_cons_drop]
  rw [e, litsErr]
theorem clErr_drop {ar : List Int} {cs : List (List Lit)} {k : Nat} {c : List Lit} (hx : cs[k]? = some c) : clErr ar (cs.drop k) = if clauseErr ar c = 0 then clErr ar (cs.drop (k + 1)) else clauseErr ar c := by
  have hlt := (List.getElem?_eq_some_iff.1 hx).1
  have e : cs.drop k = c :: cs.drop (k + 1) := by
    rw [List.getElem?_eq_getElem hlt] at hx
    simp at hx
    rw [← hx, List.getElem_cons_drop]
  rw [e, clErr]
theorem one_err {ar : List Int} (h : sigErr ar = 0) (t : T) : allErr ar [t] = termErr ar t := by
  rw [allErr, if_pos h, termsErr, termsErr]
  by_cases h1 : termErr ar t = 0
  · rw [if_pos h1, h1]
  · rw [if_neg h1]

set_option maxRecDepth 100000 in
set_option maxHeartbeats 1000000 in
theorem checkLiterals_any (ar : List Int) (ga : Option Addr) (gcap : Nat) (c : List Lit) (ca : Option Addr) (cc : Nat) (w : World) (hsig : sigErr ar = 0) (hg : Ints w ar ga) (hl : c.length ≤ 9223372036854775807) (hc : LitsP w c ca) :
    Calls Tryz.prog 63 #[.agg #[.slice ga ar.length gcap], .slice ca c.length cc] w fun e w' => e = .returned (.int .i64 (clauseErr ar c)) ∧ Below w.heap.size w w' := by
  obtain ⟨Z, hZ⟩ : ∃ Z, Z = clauseErr ar c := ⟨_, rfl⟩
  rw [← hZ]
  have HZ := hide hZ
  have Hg := hide hg
  have Hc := hide hc
  have Hone := hide (fun t => one_err hsig t)
  clear hZ hg hc hsig
  go_enter Tryz.func63, Tryz.ntmps63
  by_cases h8 : 8 < c.length
  · obtain rfl : Z = 2 := by rw [HZ.out, clauseErr, if_pos h8]
    have e8 : (8 : Int) < c.length := by omega
    clear HZ h8
    go_wp2_with fail
    go_ret
    exact ⟨rfl, below1 _ _⟩
  · have HZ1 : Hid (Z = litsErr ar c) := by show _ = _; rw [HZ.out, clauseErr, if_neg h8]
    have e8 : ¬ (8 : Int) < c.length := by omega
    have cg0 : ∀ o, o = Obj.cells #[.slice ga ar.length gcap] 24 → (w.alloc o).cell? ⟨w.heap.size, 0, none⟩ = some (.slice ga ar.length gcap) := fun o ho => by rw [ho]; exact cell_new 0 rfl
    have Hcg0 := hide (cg0 _ rfl)
    clear HZ cg0
    go_wp2_with fail
    go_loopw [14] (fun i wr => ∃ k : Nat, k ≤ c.length ∧ i = .int .i64 k ∧ Hid (Z = litsErr ar (c.drop k)) ∧ Hid (Below (w.heap.size + 1) (w.alloc (.cells #[.slice ga ar.length gcap] 24)) wr)) (fun i _ => c.length - (intOf i).toNat)
    case atStart => exact ⟨0, Nat.zero_le _, rfl, by rw [List.drop_zero]; exact HZ1, Below.refl _ _⟩
    case round =>
      obtain ⟨k, hk, rfl, Hk, Hbr⟩ := hrel
      have hzr := Hbr.out.size
      rw [World.size_alloc] at hzr
      have Hbw := hide ((below1 w (.cells #[.slice ga ar.length gcap] 24)).trans (Hbr.out.mono (by omega)))
      have cg : wr.cell? ⟨w.heap.size, 0, none⟩ = some (.slice ga ar.length gcap) := by rw [Hbr.out.cell (p := ⟨w.heap.size, 0, none⟩) (by show w.heap.size < w.heap.size + 1; omega)]; exact Hcg0.out
      by_cases hlt : k < c.length
      · obtain ⟨b, off, rfl⟩ := LitsP_some Hc.out (by omega)
        obtain ⟨x, hx⟩ : ∃ x, c[k]? = some x := ⟨c[k], List.getElem?_eq_getElem hlt⟩
        obtain ⟨a1, c1, a2, c2, k0, k1, k2, k3, k4, k5, k6, hi1, hi2⟩ := LitsP_at (LitsP_below Hbw.out Hc.out) hx
        have hst := litsErr_drop (ar := ar) hx
        rw [← Hk.out] at hst
        have HC1 := hide (fun o => Check_any ar ga gcap x.2.1 a1 c1 (wr.alloc o) (Ints_alloc o (Ints_below Hbw.out Hg.out)) (InP_alloc o hi1))
        rw [Hone.out] at HC1
        obtain ⟨F1, hF1⟩ : ∃ F, F = termErr ar x.2.1 := ⟨_, rfl⟩
        obtain ⟨F2, hF2⟩ : ∃ F, F = termErr ar x.2.2 := ⟨_, rfl⟩
        rw [← hF1] at HC1 hst
        rw [← hF2] at hst
        have Hst := hide hst
        have HF2 := hide hF2
        have Hi2 := hide hi2
        have hkI : (k : Int) < c.length := by omega
        have hk0 : (0 : Int) ≤ k := by omega
        have hbl := lt_of_cell k0
        have hzw : w.heap.size < wr.heap.size := by omega
        clear hst hx hi1 hi2 hF1 hF2 Hk
        go_wp2_with fail
        refine (HC1.out _).mono ?_
        rintro e w2 ⟨rfl, hb2⟩
        have hz2 := hb2.size
        simp at hz2
        have hb12 : Below wr.heap.size wr w2 := (below1 _ _).trans (hb2.mono (by simp))
        have Hb2 := hide (Hbr.out.trans (hb12.mono hzr))
        have Hbf := hide (Hbw.out.trans (hb12.mono Hbw.out.size))
        have cg2 := cellB hb12 cg
        have l4 : w2.cell? ⟨wr.heap.size, 4, none⟩ = some (.int .i64 x.2.2.v) := by rw [hb2.cell (p := ⟨wr.heap.size, 4, none⟩) (by simp)]; exact cell_new 4 rfl
        have l5 : w2.cell? ⟨wr.heap.size, 5, none⟩ = some (.int .i64 x.2.2.f) := by rw [hb2.cell (p := ⟨wr.heap.size, 5, none⟩) (by simp)]; exact cell_new 5 rfl
        have l6 : w2.cell? ⟨wr.heap.size, 6, none⟩ = some (.slice a2 x.2.2.args.length c2) := by rw [hb2.cell (p := ⟨wr.heap.size, 6, none⟩) (by simp)]; exact cell_new 6 rfl
        have HC2 := hide (Check_any ar ga gcap x.2.2 a2 c2 w2 (Ints_below Hbf.out Hg.out) (InP_below hb12 Hi2.out))
        rw [Hone.out, ← HF2.out] at HC2
        clear hb2 hb12 HC1 HF2 k0 k1 k2 k3 k4 k5 k6
        by_cases h1 : F1 = 0
        · have Hs2 : Hid (Z = if F2 = 0 then litsErr ar (c.drop (k + 1)) else F2) := by show _ = _; rw [Hst.out, if_pos h1]
          subst h1
          clear Hst
          go_wp2_with fail
          refine HC2.out.mono ?_
          rintro e w3 ⟨rfl, hb3⟩
          have Hb3 := hide (Hb2.out.trans (hb3.mono (by have := Hb2.out.size; rw [World.size_alloc] at this; exact this)))
          have Hbf3 := hide (Hbf.out.trans (hb3.mono Hbf.out.size))
          clear hb3 HC2
          by_cases h2 : F2 = 0
          · have Hs3 : Hid (Z = litsErr ar (c.drop (k + 1))) := by show _ = _; rw [Hs2.out, if_pos h2]
            subst h2
            clear Hs2
            go_wp2_with fail
            go_roundw
            case rel => exact ⟨k + 1, by omega, by go_num, Hs3, Hb3⟩
            case measure => simp [intOf]; omega
          · have h2b : (F2 != 0) = true := by simpa using h2
            obtain rfl : Z = F2 := by rw [Hs2.out, if_neg h2]
            clear Hs2 h2
            go_wp2_with fail
            go_ret
            exact ⟨rfl, Hbf3.out⟩
        · have h1b : (F1 != 0) = true := by simpa using h1
          obtain rfl : Z = F1 := by rw [Hst.out, if_neg h1]
          clear Hst h1 HC2
          go_wp2_with fail
          go_ret
          exact ⟨rfl, Hbf.out⟩
      · have hk2 : k = c.length := by omega
        subst hk2
        obtain rfl : Z = 0 := by rw [Hk.out, List.drop_length]; rfl
        clear Hk
        go_wp2_with fail
        go_ret
        exact ⟨rfl, Hbw.out⟩

set_option maxRecDepth 100000 in
set_option maxHeartbeats 1000000 in
theorem cCheck_any (ar : List Int) (ga : Option Addr) (gcap : Nat) (cs : List (List Lit)) (la : Option Addr) (lc : Nat) (w : World) (hg : Ints w ar ga) (hl : cs.length ≤ 9223372036854775807) (hcl : ∀ c, c ∈ cs → c.length ≤ 9223372036854775807) (hc : ClausesP w cs la) :
    Calls Tryz.prog 20 #[.agg #[.slice ga ar.length gcap], .slice la cs.length lc] w fun e w' => e = .returned (.int .i64 (clausesErr ar cs)) ∧ Below w.heap.size w w' := by
  have H1 := hide (fun o => signature_any ar ga gcap (w.alloc o) (Ints_alloc o hg))
  obtain ⟨E, hE⟩ : ∃ E, E = sigErr ar := ⟨_, rfl⟩
  obtain ⟨Z, hZ⟩ : ∃ Z, Z = clausesErr ar cs := ⟨_, rfl⟩
  rw [← hE] at H1
  rw [← hZ]
  have HE := hide hE
  have HZ := hide hZ
  have Hg := hide hg
  have Hc := hide hc
  have Hcl := hide hcl
  clear hE hZ hg hc hcl
  go_enter Tryz.func20, Tryz.ntmps20
  go_wp2_with fail
  refine (H1.out _).mono ?_
  rintro e w1 ⟨rfl, hb1⟩
  have hz1 : w.heap.size + 1 ≤ w1.heap.size := by have := hb1.size; simp at this; omega
  have hbw : Below w.heap.size w w1 := (below1 _ _).trans (hb1.mono (by simp))
  have cg : w1.cell? ⟨w.heap.size, 0, none⟩ = some (.slice ga ar.length gcap) := by
    rw [hb1.cell (p := ⟨w.heap.size, 0, none⟩) (by simp)]; exact cell_new 0 rfl
  have Hbw := hide hbw
  clear hb1 hbw H1
  by_cases h0 : E = 0
  · have HZ1 : Hid (Z = if 60 < cs.length then 2 else clErr ar cs) := by show _ = _; rw [HZ.out, clausesErr, if_pos (HE.out.symm.trans h0)]
    have Hsig := hide (HE.out.symm.trans h0)
    subst h0
    by_cases h60 : 60 < cs.length
    · obtain rfl : Z = 2 := by rw [HZ1.out, if_pos h60]
      have e60 : (60 : Int) < cs.length := by omega
      clear HZ1 HZ h60
      go_wp2_with fail
      go_ret
      exact ⟨rfl, Hbw.out⟩
    · have HZ2 : Hid (Z = clErr ar cs) := by show _ = _; rw [HZ1.out, if_neg h60]
      have e60 : ¬ (60 : Int) < cs.length := by omega
      clear HZ1 HZ
      go_wp2_with fail
      go_loopw [19] (fun iv wr => ∃ k : Nat, k ≤ cs.length ∧ iv = .int .i64 k ∧ Hid (Z = clErr ar (cs.drop k)) ∧ Hid (Below w1.heap.size w1 wr)) (fun iv _ => cs.length - (intOf iv).toNat)
      case atStart => exact ⟨0, Nat.zero_le _, rfl, by rw [List.drop_zero]; exact HZ2, Below.refl _ _⟩
      case round =>
        obtain ⟨k, hk, rfl, HZk, Hbr⟩ := hrel
        have Hbwr := hide (Hbw.out.trans (Hbr.out.mono Hbw.out.size))
        have cgr := cellB Hbr.out cg
        by_cases hlt : k < cs.length
        · obtain ⟨b, off, rfl⟩ := ClausesP_some Hc.out (by omega)
          obtain ⟨c, hx⟩ : ∃ c, cs[k]? = some c := ⟨cs[k], List.getElem?_eq_getElem hlt⟩
          obtain ⟨ca, cc, kc, hlc⟩ := ClausesP_at (ClausesP_below Hbwr.out Hc.out) hx
          have hst := clErr_drop (ar := ar) hx
          rw [← HZk.out] at hst
          have HG := hide (checkLiterals_any ar ga gcap c ca cc wr Hsig.out (Ints_below Hbwr.out Hg.out) (Hcl.out c (List.mem_of_getElem? hx)) hlc)
          obtain ⟨F, hF⟩ : ∃ F, F = clauseErr ar c := ⟨_, rfl⟩
          rw [← hF] at HG hst
          have Hst := hide hst
          have hkI : (k : Int) < cs.length := by omega
          have hk0 : (0 : Int) ≤ k := by omega
          clear hst hF hx hlc HZk
          go_wp2_with fail
          refine HG.out.mono ?_
          rintro e w2 ⟨rfl, hb2⟩
          have Hb2 := hide (Hbr.out.trans (hb2.mono Hbr.out.size))
          have Hbf := hide (Hbwr.out.trans (hb2.mono Hbwr.out.size))
          clear hb2 HG
          by_cases hF0 : F = 0
          · have Hs2 : Hid (Z = clErr ar (cs.drop (k + 1))) := by show _ = _; rw [Hst.out, if_pos hF0]
            subst hF0
            clear Hst
            go_wp2_with fail
            go_roundw
            case rel => exact ⟨k + 1, by omega, by go_num, Hs2, Hb2⟩
            case measure => simp [intOf]; omega
          · have hFb : (F != 0) = true := by simpa using hF0
            obtain rfl : Z = F := by rw [Hst.out, if_neg hF0]
            clear Hst hF0
            go_wp2_with fail
            go_ret
            exact ⟨rfl, Hbf.out⟩
        · have hk2 : k = cs.length := by omega
          subst hk2
          obtain rfl : Z = 0 := by rw [HZk.out, List.drop_length]; rfl
          clear HZk
          go_wp2_with fail
          go_ret
          exact ⟨rfl, Hbwr.out⟩
  · have h0b : (E != 0) = true := by simpa using h0
    obtain rfl : Z = E := by rw [HZ.out, clausesErr, if_neg (fun h => h0 (HE.out.trans h)), HE.out]
    clear HZ HE h0
    go_wp2_with fail
    go_ret
    exact ⟨rfl, Hbw.out⟩

end Go.Proofs.YtbkedppkdhfpoabGreat

namespace Go.Proofs.YtbkedppkdhfpoabGreat
open Go.RowKit

theorem below_drewN {B : Nat} {a w : World} (h : Below B a w) (n : Nat) : Below B a (w.drewN n) := ⟨h.os, h.tape, h.output, h.size, h.block⟩
theorem Ints_tail {w : World} {i : Int} {p : List Int} {b off : Nat} (h : Ints w (i :: p) (some ⟨b, off, none⟩)) : Ints w p (some ⟨b, off + 1, none⟩) := by
  by_cases h0 : p = []
  · exact Or.inl h0
  · rcases h with h | ⟨b', off', he, h⟩
    · cases h
    · simp only [Option.some.injEq, Addr.mk.injEq] at he
      obtain ⟨rfl, rfl, _⟩ := he
      exact Or.inr ⟨b, off + 1, rfl, fun j hj => by
        have := h (j + 1) (by simp; omega)
        rw [show off + (j + 1) = off + 1 + j from by omega] at this
        simpa using this⟩

/-- The place behind its first number. -/
theorem tail_any {w : World} {i : Int} {p : List Int} {b off cap : Nat} (h : Ints w (i :: p) (some ⟨b, off, none⟩)) (hc : p.length + 1 ≤ cap) :
    ∃ pa, (∀ w' : World, (Instr.slice 22 (.slice (some ⟨b, off, none⟩) (p.length + 1) cap) (some (.int .i64 1)) none none).run Tryz.prog w' = .ok (.slice pa p.length (cap - 1)) w') ∧ Ints w p pa := by
  have ht : Tryz.prog.underlying 22 = some (.slice (Tryz.prog.elem 22)) := by kernel_rfl
  have hsz : ∀ w : World, (sizeOf (Tryz.prog.elem 22)).run Tryz.prog w = .ok 1 w := fun w => by kernel_rfl
  have hrun := fun w' : World => run_slice_l (P := Tryz.prog) w' 22 (some ⟨b, off, none⟩) (p.length + 1) cap ht .i64 1 (by omega) (by omega)
  by_cases h1 : cap = 1
  · subst h1
    have hp : p = [] := List.length_eq_zero_iff.1 (by omega)
    subst hp
    refine ⟨some ⟨b, off, none⟩, fun w' => ?_, Or.inl rfl⟩
    rw [hrun w', hsz]
    simp [sliced]
  · refine ⟨some ⟨b, off + 1, none⟩, fun w' => ?_, Ints_tail h⟩
    rw [hrun w', hsz]
    simp [sliced, h1, Addr.add]

attribute [local go_sem ↓] Go.wp_at_zero Go.wp_at_succ
end Go.Proofs.YtbkedppkdhfpoabGreat

namespace Go.Proofs.YtbkedppkdhfpoabGreat
open Go.RowKit

/-- Three cells a term, and its arguments. -/
def Kids (p : Nat → Prop) (w : World) : List T → List Value → Prop
  | [], cs => cs = []
  | t :: ts, cs => ∃ a cap rest, cs = .int .i64 t.v :: .int .i64 t.f :: .slice a t.args.length cap :: rest ∧ InP p w t.args a ∧ Kids p w ts rest
theorem Kids_append {p : Nat → Prop} {w : World} {ts us : List T} : ∀ {cs ds : List Value}, Kids p w ts cs → Kids p w us ds → Kids p w (ts ++ us) (cs ++ ds) := by
  induction ts with
  | nil => intro cs ds h1 h2; rw [show cs = [] from h1]; exact h2
  | cons t ts ih =>
    intro cs ds h1 h2
    obtain ⟨a, cap, rest, rfl, h0, h⟩ := h1
    exact ⟨a, cap, rest ++ ds, rfl, h0, ih h h2⟩
theorem Kids_mono {p q : Nat → Prop} {w w' : World} {ts : List T} (hs : ∀ k, p k → k < w.heap.size → q k ∧ w'.heap[k]? = w.heap[k]?) : ∀ {cs : List Value}, Kids p w ts cs → Kids q w' ts cs := by
  induction ts with
  | nil => intro cs h; exact h
  | cons t ts ih =>
    intro cs h
    obtain ⟨a, cap, rest, rfl, h0, h⟩ := h
    exact ⟨a, cap, rest, rfl, InP_mono (fun b o v hp hv => ⟨(hs b hp (lt_of_cell hv)).1, by rw [World.cell?_of_block (w := w) (a := ⟨b, o, none⟩) (hs b hp (lt_of_cell hv)).2]; exact hv⟩) _ _ _ (Nat.le_refl _) h0, ih h⟩

theorem Kids_in {p : Nat → Prop} {w : World} {g : Nat} (hpg : p g) {ts : List T} : ∀ {off : Nat} {cs : List Value}, Kids p w ts cs → (∀ j u, cs[j]? = some u → w.cell? ⟨g, off + j, none⟩ = some u) → InP p w ts (some ⟨g, off, none⟩) := by
  induction ts with
  | nil => intro off cs _ _; exact InP_nil
  | cons t ts ih =>
    intro off cs h hc
    obtain ⟨a, cap, rest, rfl, h0, h⟩ := h
    refine InP_cons.2 ⟨g, off, .slice a t.args.length cap, rfl, hpg, hc 0 _ rfl, hc 1 _ rfl, hc 2 _ rfl, In_iff.2 ⟨a, cap, rfl, h0⟩, ih h fun j u hu => ?_⟩
    rw [show off + 3 + j = off + (j + 3) from by omega]
    exact hc (j + 3) u (by simpa using hu)
end Go.Proofs.YtbkedppkdhfpoabGreat

namespace Go.Proofs.YtbkedppkdhfpoabGreat

/-- Rising numbers with the same members are the same. -/
theorem rising_ext : ∀ {a b : List Int}, a.Pairwise (· < ·) → b.Pairwise (· < ·) → (∀ x, x ∈ a ↔ x ∈ b) → a = b := by
  intro a
  induction a with
  | nil =>
    intro b _ _ h
    cases b with
    | nil => rfl
    | cons y ys => have := (h y).2 List.mem_cons_self; cases this
  | cons x xs ih =>
    intro b ha hb h
    cases b with
    | nil => have := (h x).1 List.mem_cons_self; cases this
    | cons y ys =>
      have ha := List.pairwise_cons.1 ha
      have hb := List.pairwise_cons.1 hb
      have hxy : x = y := by
        rcases List.mem_cons.1 ((h x).1 List.mem_cons_self) with e | e
        · exact e
        · rcases List.mem_cons.1 ((h y).2 List.mem_cons_self) with e2 | e2
          · exact e2.symm
          · have := ha.1 y e2; have := hb.1 x e; omega
      subst hxy
      rw [ih ha.2 hb.2 (fun z => ?_)]
      constructor
      · intro hz
        rcases List.mem_cons.1 ((h z).1 (List.mem_cons_of_mem _ hz)) with e | e
        · have := ha.1 z hz; omega
        · exact e
      · intro hz
        rcases List.mem_cons.1 ((h z).2 (List.mem_cons_of_mem _ hz)) with e | e
        · have := hb.1 z hz; omega
        · exact e

/-- Where a number goes, asked from the end. -/
def spot (x : Int) (out : List Int) : Nat → Nat
  | 0 => 0
  | n + 1 => if out.getD n 0 > x then spot x out n else n + 1
/-- A number put among rising ones. -/
def rise1 (out : List Int) (x : Int) : List Int := out.take (spot x out out.length) ++ x :: out.drop (spot x out out.length)
/-- Numbers, put in one by one. -/
def rising (l : List Int) : List Int := l.foldl rise1 []
/-- What is sorted, and each kept once, rises, and has the same members. -/
theorem compact_facts (zs : List Int) (h : zs.Pairwise (· ≤ ·)) : (Lib.compact zs).Pairwise (· < ·) ∧ ∀ x, x ∈ Lib.compact zs ↔ x ∈ zs := by
  have hg : ∀ j (hj : j < zs.length), zs.toArray[j]! = zs[j] := fun j hj => by
    rw [getElem!_pos _ _ (by simpa using hj)]; simp
  have key : ∀ m, m ≤ zs.length → (Lib.compactUpTo zs.toArray m).Pairwise (· < ·) ∧ ∀ x, x ∈ Lib.compactUpTo zs.toArray m ↔ x ∈ zs.take m := by
    intro m
    induction m with
    | zero => intro _; exact ⟨by rw [Lib.compactUpTo]; simp, fun x => by rw [Lib.compactUpTo]; simp⟩
    | succ m ih =>
      intro hm
      obtain ⟨h1, h2⟩ := ih (by omega)
      have ht : zs.take (m + 1) = zs.take m ++ [zs[m]] := by rw [List.take_add_one, List.getElem?_eq_getElem (by omega)]; rfl
      rw [Lib.compactUpTo_succ, ht]
      have hle : ∀ j (hj : j < m), zs[j] ≤ zs[m - 1] := fun j hj => by
        rcases Nat.lt_or_ge j (m - 1) with h3 | h3
        · exact List.pairwise_iff_getElem.1 h j (m - 1) (by omega) (by omega) h3
        · have : j = m - 1 := by omega
          subst this; exact Int.le_refl _
      by_cases hk : m = 0 ∨ zs.toArray[m]! ≠ zs.toArray[m - 1]!
      · rw [if_pos (by simpa [Lib.keeps] using hk), hg m (by omega)]
        refine ⟨List.pairwise_append.2 ⟨h1, List.pairwise_singleton _ _, fun a ha b hb => ?_⟩, fun x => by rw [List.mem_append, List.mem_append, h2]⟩
        have hb : b = zs[m] := by simpa using hb
        subst hb
        obtain ⟨j, hj, rfl⟩ := List.mem_iff_getElem.1 ((h2 a).1 ha)
        rw [List.length_take] at hj
        rw [List.getElem_take]
        rcases hk with hk | hk
        · omega
        · rw [hg m (by omega), hg (m - 1) (by omega)] at hk
          have h4 := hle j (by omega)
          have h5 := List.pairwise_iff_getElem.1 h (m - 1) m (by omega) (by omega) (by omega)
          omega
      · have hm0 : 0 < m := by omega
        have he : zs[m] = zs[m - 1] := by
          rw [← hg m (by omega), ← hg (m - 1) (by omega)]
          rcases Classical.em (zs.toArray[m]! = zs.toArray[m - 1]!) with e | e
          · exact e
          · exact absurd (Or.inr e) hk
        rw [if_neg (by simpa [Lib.keeps] using hk), List.append_nil]
        refine ⟨h1, fun x => ?_⟩
        rw [h2, List.mem_append, List.mem_singleton]
        constructor
        · exact Or.inl
        · rintro (h | rfl)
          · exact h
          · rw [he]
            refine List.mem_iff_getElem.2 ⟨m - 1, by rw [List.length_take]; omega, by rw [List.getElem_take]⟩
  obtain ⟨h1, h2⟩ := key zs.length (Nat.le_refl _)
  exact ⟨h1, fun x => by rw [Lib.compact, h2, List.take_length]⟩

theorem sort_facts (zs : List Int) : (zs.mergeSort fun x y => decide (x ≤ y)).Pairwise (· ≤ ·) ∧ ∀ x, x ∈ (zs.mergeSort fun x y => decide (x ≤ y)) ↔ x ∈ zs := by
  refine ⟨(List.pairwise_mergeSort (le := fun x y : Int => decide (x ≤ y)) (fun a b c h1 h2 => by simp only [decide_eq_true_eq] at *; omega) (fun a b => by simp only [Bool.or_eq_true, decide_eq_true_eq]; omega) zs).imp (fun h => by simpa using h), fun x => List.mem_mergeSort⟩

end Go.Proofs.YtbkedppkdhfpoabGreat

namespace Go.Proofs.YtbkedppkdhfpoabGreat

/-- The numbers of the variables among these. -/
def numsOf (ps : List T) : List Int := (ps.filter (fun p => p.v != 0)).map T.v
theorem numsOf_append (a b : List T) : numsOf (a ++ b) = numsOf a ++ numsOf b := by rw [numsOf, List.filter_append, List.map_append]; rfl
theorem look_nums : ∀ (n : Nat), (∀ (t : T) (zs : List Int), t.sz ≤ n → lookT varStep zs t = (zs ++ numsOf (parts t), true)) ∧ (∀ (ts : List T) (zs : List Int), T.sz.szL ts ≤ n → lookT.lookL varStep zs ts = (zs ++ numsOf (parts.partsL ts), true)) := by
  intro n
  induction n with
  | zero =>
    refine ⟨fun t zs h => by have := t.sz_pos; omega, fun ts zs h => ?_⟩
    cases ts with
    | nil => rw [lookL_nil]; show (zs, true) = (zs ++ [], true); simp
    | cons t ts => have := t.sz_pos; rw [T.szL_cons] at h; omega
  | succ n ih =>
    have h1 : ∀ (t : T) (zs : List Int), t.sz ≤ n + 1 → lookT varStep zs t = (zs ++ numsOf (parts t), true) := fun t zs h => by
      rw [T.sz_eq] at h
      rw [lookT_eq, ih.2 t.args zs (by omega), if_neg (by simp), parts_eq, numsOf_append]
      show ((if t.v = 0 then zs ++ numsOf (parts.partsL t.args) else zs ++ numsOf (parts.partsL t.args) ++ [t.v]), true) = _
      by_cases ht : t.v = 0
      · rw [if_pos ht]
        simp [numsOf, ht]
      · rw [if_neg ht]
        simp [numsOf, ht]
    refine ⟨h1, fun ts => ?_⟩
    induction ts with
    | nil => intro zs _; rw [lookL_nil]; show (zs, true) = (zs ++ [], true); simp
    | cons t ts iht =>
      intro zs h
      rw [T.szL_cons] at h
      rw [lookL_cons, h1 t zs (by omega), if_neg (by simp)]
      rw [iht _ (by omega), partsL_cons, numsOf_append, List.append_assoc]

theorem parts_ok {ar : List Int} : ∀ (n : Nat), (∀ t : T, t.sz ≤ n → okP ar t → ∀ p, p ∈ parts t → partErr ar p.v p.f p.args.length = 0) ∧ (∀ ts : List T, T.sz.szL ts ≤ n → okP.okL ar ts → ∀ p, p ∈ parts.partsL ts → partErr ar p.v p.f p.args.length = 0) := by
  intro n
  induction n with
  | zero =>
    refine ⟨fun t h => by have := t.sz_pos; omega, fun ts h _ p hp => ?_⟩
    cases ts with
    | nil => cases hp
    | cons t ts => have := t.sz_pos; rw [T.szL_cons] at h; omega
  | succ n ih =>
    have h1 : ∀ t : T, t.sz ≤ n + 1 → okP ar t → ∀ p, p ∈ parts t → partErr ar p.v p.f p.args.length = 0 := fun t h hok p hp => by
      rw [T.sz_eq] at h
      obtain ⟨h2, h3⟩ := okP_iff.1 hok
      rw [parts_eq, List.mem_append, List.mem_singleton] at hp
      rcases hp with hp | rfl
      · exact ih.2 t.args (by omega) h3 p hp
      · exact h2
    refine ⟨h1, fun ts => ?_⟩
    induction ts with
    | nil => intro _ _ p hp; cases hp
    | cons t ts iht =>
      intro h hok p hp
      rw [T.szL_cons] at h
      obtain ⟨h2, h3⟩ := okL_cons.1 hok
      rw [partsL_cons, List.mem_append] at hp
      rcases hp with hp | hp
      · exact h1 t (by omega) h2 p hp
      · exact iht (by omega) h3 p hp

end Go.Proofs.YtbkedppkdhfpoabGreat

namespace Go.Proofs.YtbkedppkdhfpoabGreat
open Go.RowKit

theorem mem_take_succ {zs : List Int} {k : Nat} {n : Int} (hk : k < zs.length) : n ∈ zs.take (k + 1) ↔ n ∈ zs.take k ∨ zs.getD k 0 = n := by
  have e : zs.take (k + 1) = zs.take k ++ [zs[k]] := by rw [List.take_add_one, List.getElem?_eq_getElem hk]; rfl
  rw [e, List.mem_append, List.mem_singleton, List.getD_eq_getElem?_getD, List.getElem?_eq_getElem hk]
  exact or_congr Iff.rfl eq_comm

end Go.Proofs.YtbkedppkdhfpoabGreat

namespace Go.Proofs.YtbkedppkdhfpoabGreat
open Go.RowKit

/-- A list of numbers of the call's own, read. -/
theorem own_ints {w : World} {base : Nat} {v : Value} {zs : List Int} (h : w.ownsRow base 3 1 v zs.length (zs.map (Value.int .i64))) : ∃ a cap, v = .slice a zs.length cap ∧ Ints w zs a ∧ zs.length ≤ cap := by
  rcases h.2 with ⟨rfl, h0⟩ | ⟨g, cap, cur, rfl, hb, hg, hc, hm, hs, ht⟩
  · exact ⟨none, 0, by rw [h0], Or.inl (List.length_eq_zero_iff.1 h0), by omega⟩
  · refine ⟨some ⟨g, 0, none⟩, cap, rfl, Or.inr ⟨g, 0, rfl, fun i hi => ?_⟩, hc⟩
    have e1 : cur[i]? = some (.int .i64 (zs.getD i 0)) := by
      have : (cur.toList.take (zs.length * 1))[i]? = some (.int .i64 (zs.getD i 0)) := by rw [ht]; simp [List.getD, hi]
      rw [List.getElem?_take_of_lt (by omega)] at this
      simpa using this
    simp only [World.cell?, hg, Nat.zero_add]
    simp [e1]

end Go.Proofs.YtbkedppkdhfpoabGreat

namespace Go.Proofs.YtbkedppkdhfpoabGreat
open Go.RowKit

/-- What is appended: nothing, or the numbers that lie at an address. -/
def SrcI (w : World) (x : Value) (zs : List Int) : Prop :=
  (x = .slice none 0 0 ∧ zs = []) ∨ ∃ b off c, x = .slice (some ⟨b, off, none⟩) zs.length c ∧ ∀ j, j < zs.length → w.cell? ⟨b, off + j, none⟩ = some (.int .i64 (zs.getD j 0))

/-- A list of numbers of the call's own. -/
abbrev OwnI (base : Nat) (w : World) (v : Value) (zs : List Int) : Prop := w.ownsRow base 3 1 v zs.length (zs.map (Value.int .i64))

theorem run_append_ints {w : World} {base : Nat} {v x : Value} {ys zs : List Int} (ty : TypeId) (hown : OwnI base w v ys) (hx : SrcI w x zs) (hl : ys.length + zs.length ≤ 2000) (hbase : base ≤ w.heap.size) :
    ∃ v' w', (Builtin.append_ #[22, 22] ty #[v, x]).run Tryz.prog w = .ok v' w' ∧ OwnI base w' v' (ys ++ zs) ∧ w.grownBy w' v.ownBlock ∧ (v'.ownBlock = v.ownBlock ∨ v'.ownBlock = some w.heap.size) := by
  obtain ⟨i, hi, hzz⟩ := Option.map_eq_some_iff.1 Tryz.info3
  simp only [Prod.mk.injEq] at hzz
  obtain ⟨hz0, hz1, hz2⟩ := hzz
  rcases hx with ⟨rfl, rfl⟩ | ⟨b, off, c, rfl, hc⟩
  · rw [List.append_nil]
    exact ⟨v, w, run_append_owned_none (P := Tryz.prog) w base 22 ty 3 i 1 Tryz.underlying22 hi _ _ _ hown, hown, ⟨rfl, rfl, rfl, Nat.le_refl _, fun _ _ _ => rfl⟩, Or.inl rfl⟩
  · obtain ⟨v', w', hr, h2, h3, _, h5⟩ := run_append_own_at (P := Tryz.prog) w base 22 ty 3 i (.int .i64 0) 1 8 Tryz.underlying22 hi hz0 hz1 hz2 rfl (by decide) v ys.length (ys.map (Value.int .i64)) hown ⟨b, off, none⟩ zs.length c (zs.map (Value.int .i64)) (by simp) (fun j u hu => by
        have hj : j < zs.length := by
          rcases Nat.lt_or_ge j zs.length with h | h
          · exact h
          · rw [List.getElem?_eq_none (by simpa using h)] at hu; cases hu
        have e : (⟨b, off, none⟩ : Addr).add j = ⟨b, off + j, none⟩ := by simp [Addr.add]
        rw [e, hc j hj]
        rw [List.getElem?_map, List.getElem?_eq_getElem hj] at hu
        rw [List.getD_eq_getElem?_getD, List.getElem?_eq_getElem hj]
        exact hu) (fun u hu => by
        obtain ⟨z, _, rfl⟩ := List.mem_map.1 hu
        rfl) (by unfold maxLen; omega) (by omega) hbase
    have h2' : OwnI base w' v' (ys ++ zs) := by
      show w'.ownsRow base 3 1 v' (ys ++ zs).length ((ys ++ zs).map (Value.int .i64))
      rw [List.length_append, List.map_append]; exact h2
    exact ⟨v', w', hr, h2', h3, h5⟩

theorem wp_append_ints {w : World} {o : Oper} {a : Act} {K : Act → World → Prop} {Q : Exit → Act → World → Prop} (s x : Operand) (ho : o.op = .call { callee := .builtin .append, args := #[s, x], argTypes := #[22, 22] })
    (base : Nat) (v : Value) (ys : List Int) (hs : a.eval s = v) (hown : OwnI base w v ys) (xv : Value) (zs : List Int) (hx : a.eval x = xv) (hsrc : SrcI w xv zs) (hl : ys.length + zs.length ≤ 2000) (hbase : base ≤ w.heap.size)
    (h : ∀ v' w', OwnI base w' v' (ys ++ zs) → w.grownBy w' v.ownBlock → (v'.ownBlock = v.ownBlock ∨ v'.ownBlock = some w.heap.size) → K (a.put o.dst v') w') : o.wp Tryz.prog a w K Q := by
  obtain ⟨v', w', hr, h2, h3, h4⟩ := run_append_ints o.type hown hsrc hl hbase
  unfold Oper.wp execOp
  simp only [ho, resolve, invoke, builtin, Sem.run_bind, Sem.run_pure, Result.andThen_ok, List.map_toArray, List.map_cons, List.map_nil, hs, hx, hr]
  exact h v' w' h2 h3 h4
theorem wpList_append_ints {w : World} {ops : Array Oper} {rest : List Oper} {o : Oper} {a : Act} {Q : Exit → Act → World → Prop} (hgd : o.guard = none) (s x : Operand) (ho : o.op = .call { callee := .builtin .append, args := #[s, x], argTypes := #[22, 22] })
    (base : Nat) (v : Value) (ys : List Int) (hs : a.eval s = v) (hown : OwnI base w v ys) (xv : Value) (zs : List Int) (hx : a.eval x = xv) (hsrc : SrcI w xv zs) (hl : ys.length + zs.length ≤ 2000) (hbase : base ≤ w.heap.size)
    (h : ∀ v' w', OwnI base w' v' (ys ++ zs) → w.grownBy w' v.ownBlock → (v'.ownBlock = v.ownBlock ∨ v'.ownBlock = some w.heap.size) → wpList Tryz.prog ops Q rest (a.put o.dst v') w') : wpList Tryz.prog ops Q (o :: rest) a w :=
  wpList_plain hgd fun _ hK => wp_append_ints s x ho base v ys hs hown xv zs hx hsrc hl hbase fun v' w' h2 h3 h4 => hK _ _ (h v' w' h2 h3 h4)
end Go.Proofs.YtbkedppkdhfpoabGreat

namespace Go.Proofs.YtbkedppkdhfpoabGreat
open Go.RowKit

theorem OwnI.same {base : Nat} {w w' : World} {v : Value} {zs : List Int} (h : OwnI base w v zs) (hs : ∀ g, v.ownBlock = some g → w'.heap[g]? = w.heap[g]?) : OwnI base w' v zs := own_same h hs
theorem OwnI.below {base : Nat} {w w' : World} {v : Value} {zs : List Int} (h : OwnI base w v zs) (hb : Below w.heap.size w w') : OwnI base w' v zs := own_same h (fun g hg => hb.block g (own_lt h g hg).2)
theorem OwnI.grown {base : Nat} {w w' : World} {v : Value} {r : Option Nat} {zs : List Int} (h : OwnI base w v zs) (hg : w.grownBy w' r) (hne : v.ownBlock = none ∨ v.ownBlock ≠ r) : OwnI base w' v zs := own_same h (fun g hg' => hg.block g (own_lt h g hg').2 (fun e => by
  rcases hne with h1 | h1
  · rw [h1] at hg'; cases hg'
  · exact h1 (hg'.trans e)))
theorem OwnI.new {base : Nat} {w : World} {n : Nat} (hn : n = w.heap.size) (hb : base ≤ w.heap.size) : OwnI base (w.alloc (.cells #[] 3)) (.slice (some ⟨n, 0, none⟩) 0 0) [] := by
  subst hn
  exact World.ownsRow_lit (base := base) (e := 3) (size := 1) w #[] 0 hb (by decide) (by simp)

theorem src_one {w : World} {n : Nat} {x : Int} (h : w.cell? ⟨n, 0, none⟩ = some (.int .i64 x)) : SrcI w (.slice (some ⟨n, 0, none⟩) 1 1) [x] :=
  Or.inr ⟨n, 0, 1, rfl, fun j hj => by
    obtain rfl : j = 0 := by simpa using hj
    exact h⟩
end Go.Proofs.YtbkedppkdhfpoabGreat
