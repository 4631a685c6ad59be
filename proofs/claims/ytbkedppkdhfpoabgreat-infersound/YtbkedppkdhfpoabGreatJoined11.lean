/- The program's order of two terms. The program's Greater and Compare. The program's own check of bindings. The program's Apply: what it answers. The walk of the statement on Apply, over what must be in any case. Unify in all its answers; and, as plain data: what is unified is the same on both sides, whatever makes both the same is made of it, what is matched, applied, is the other one. The document's own check of rules. Clauses, as plain data and as they lie there; the program's Check of them. Inferences: what they name, what is unified and applied. -/
import Derived.BigQuiet
import Derived.Deep.DeepCutAuto
import Derived.Deep.RegionHeld3
import Derived.Test.YtbkedppkdhfpoabGreatJoined10
namespace Go.Proofs.YtbkedppkdhfpoabGreat
open Go.RowKit
theorem Tryz.underlying307 : Tryz.prog.underlying 307 = some (.slice 240) := by kernel_rfl
theorem Tryz.info240 : (Tryz.prog.info? 240).map (fun i => (i.zero, i.size, i.bytes)) = some (some (.int .i8 0), 1, 1) := by kernel_rfl
def row8 (n : Nat) : Array Value := madeCells #[.int .i8 0] (n * 1)
theorem run_make8 (n : Nat) (hn : n ≤ 1000000) (w : World) : (Instr.makeSlice 307 (.int .i64 (n : Int)) (.int .i64 (n : Int))).run Tryz.prog w = .ok (.slice (some ⟨w.heap.size, 0, none⟩) n n) (w.alloc (.cells (row8 n) 240)) := by
  obtain ⟨i, hi, hzz⟩ := Option.map_eq_some_iff.1 Tryz.info240
  simp only [Prod.mk.injEq] at hzz
  obtain ⟨hz, hs, hb⟩ := hzz
  have hr := run_make (P := Tryz.prog) w 307 240 i _ Tryz.underlying307 hi hz .i64 .i64 n n (by omega) (Int.le_refl _) (by rw [hb]; omega) (by omega)
  simp only [Int.toNat_natCast, hs] at hr
  exact hr
theorem row8_at {n j : Nat} (h : j < n) : (row8 n)[j]? = some (.int .i8 0) := by
  simp [row8, madeCells, h, Nat.mod_one]
theorem pre_head (t : T) : (pre t)[0]? = some t := by rw [pre_eq]; rfl
theorem pre_subs (t : T) : Subs (pre t) 1 t.args := ⟨[], by rw [pre_eq, List.append_nil]; rfl⟩
theorem pre_len (t : T) : (pre t).length = t.sz := (pre_length _).1 t (Nat.le_refl _)
theorem numbered0 (r : Nat → Prop) (t : T) (a : Option Addr) (cap : Nat) (w : World) (h120 : t.sz ≤ 120) (hr : ∀ k, r k → k < w.heap.size) (hin : InP r w t.args a) :
    Calls Tryz.prog 265 #[.agg #[.int .i64 t.v, .int .i64 t.f, .slice a t.args.length cap], .int .i64 0] w fun e w' =>
      ∃ pa pc, e = .returned (.tuple #[.agg #[.int .i64 t.v, .int .i64 t.f, .slice a t.args.length cap, .int .i64 0, .slice pa t.args.length pc], .int .i64 (t.sz : Int)]) ∧
        t.args.length ≤ pc ∧ PL (fun k => w.heap.size ≤ k) r w' t.args 1 pa ∧ Below w.heap.size w w' := by
  have h := numbered_any r 120 t 0 a cap w h120 (by omega) (by omega) hr hin
  rw [Nat.zero_add, Nat.zero_add] at h
  exact h
set_option maxRecDepth 100000 in
set_option maxHeartbeats 2000000 in
theorem great_any (ar : List Int) (s : T) (sa : Option Addr) (sc : Nat) (t : T) (ta : Option Addr) (tc : Nat) (w : World) (hs : okP ar s) (ht : okP ar t) (hs1 : s.sz ≤ 120) (ht1 : t.sz ≤ 120) (hin : InL w s.args sa) (hin2 : InL w t.args ta) :
    Calls Tryz.prog 234 #[.agg #[.int .i64 s.v, .int .i64 s.f, .slice sa s.args.length sc], .agg #[.int .i64 t.v, .int .i64 t.f, .slice ta t.args.length tc]] w fun e w' => e = .returned (.bool (gt s t)) ∧ Below w.heap.size w w' := by
  have hNb : s.sz * t.sz ≤ 14400 := Nat.mul_le_mul hs1 ht1
  obtain ⟨N, hN⟩ : ∃ N, N = s.sz * t.sz := ⟨_, rfl⟩
  have hwm : IntKind.i64.wrap ((s.sz : Int) * (t.sz : Int)) = (N : Int) := by
    have e : ((s.sz : Int) * (t.sz : Int)) = (N : Int) := by rw [hN, Int.natCast_mul]
    rw [e]; exact wrap_ok _ (by omega) (by omega)
  have hmk8 := run_make8 N (by omega)
  have HN := hide hN
  have H1 := hide (fun o1 o2 => numbered0 (fun k => k < w.heap.size) s sa sc ((w.alloc o1).alloc o2) hs1 (fun k hk => by have hk : k < w.heap.size := hk; simp; omega) (InP_alloc o2 (InP_alloc o1 (InP_imp (fun _ h => h.2) (InP_lt hin)))))
  clear hN hNb
  go_enter Tryz.func234, Tryz.ntmps234
  go_wp2_with fail
  refine (H1.out _ _).mono ?_
  rintro e w1 ⟨pa1, pc1, rfl, hpc1, hpl1, hb1⟩
  have hz1 := hb1.size
  simp at hz1
  have hbw1 : Below w.heap.size w w1 := (below2 _ _ _).trans (hb1.mono (by simp; omega))
  have h3t : Three w1 (w.heap.size + 1) (.int .i64 t.v) (.int .i64 t.f) (.slice ta t.args.length tc) := (Three.new 77 (by simp)).below hb1
  obtain ⟨d0, d1, d2, _, _, _⟩ := h3t
  have hq1 : w.heap.size + 1 < w1.heap.size := by omega
  have H2 := hide (fun o => numbered0 (fun k => k < w.heap.size) t ta tc (w1.alloc o) ht1 (fun k hk => by have hk : k < w.heap.size := hk; simp; omega) (InP_alloc o (InP_below hbw1 (InP_imp (fun _ h => h.2) (InP_lt hin2)))))
  have Hpl1 := hide hpl1
  have Hpc1 := hide hpc1
  clear H1 hpl1 hb1 hpc1
  go_wp2_with fail
  refine (H2.out _).mono ?_
  rintro e w2 ⟨pa2, pc2, rfl, hpc2, hpl2, hb2⟩
  have hz2 := hb2.size
  simp at hz2
  have hb12 : Below w1.heap.size w1 w2 := (below1 _ _).trans (hb2.mono (by simp))
  have hbw2 : Below w.heap.size w w2 := hbw1.trans (hb12.mono (by omega))
  obtain ⟨WT, hWT⟩ : ∃ WT, WT = ((w2.alloc (.cells #[.int .i64 t.v, .int .i64 t.f, .slice ta t.args.length tc, .int .i64 0, .slice pa2 t.args.length pc2] 304)).alloc (.cells (row8 N) 240)).alloc (.cells #[.slice (some ⟨w2.heap.size + 1, 0, none⟩) N N, .int .i64 (t.sz : Int)] 309) := ⟨_, rfl⟩
  have hb2T : Below w2.heap.size w2 WT := by rw [hWT]; exact ((below1 _ _).alloc (by simp) _).alloc (by simp; omega) _
  have hb1T : Below w1.heap.size w1 WT := hb12.trans (hb2T.mono (by omega))
  have hbwT : Below w.heap.size w WT := hbw1.trans (hb1T.mono (by omega))
  have g1 : ∀ o, (w2.alloc o).heap.size = w2.heap.size + 1 := fun o => World.size_alloc _ _
  have g2 : ∀ o o', ((w2.alloc o).alloc o').heap.size = w2.heap.size + 1 + 1 := fun o o' => by rw [World.size_alloc, g1]
  have hzT : WT.heap.size = w2.heap.size + 1 + 1 + 1 := by rw [hWT, World.size_alloc, g2]
  have hheap : WT.heap[w2.heap.size + 1]? = some (.cells (row8 N) 240) := by
    rw [hWT, Below.heap_alloc _ _ _ (by rw [g2]; omega)]
    have h9 := heap_alloc_new (w2.alloc (.cells #[.int .i64 t.v, .int .i64 t.f, .slice ta t.args.length tc, .int .i64 0, .slice pa2 t.args.length pc2] 304)) (.cells (row8 N) 240)
    rw [g1] at h9
    exact h9
  obtain ⟨bt, hbt⟩ : ∃ bt : TB, bt = { K := w2.heap.size + 1, R := s.sz, C := t.sz, PS := pre s, PT := pre t, ar := ar } := ⟨_, rfl⟩
  have hq : ∀ b', b' < w2.heap.size + 1 → bt.q b' := fun b' hb' => by
    subst hbt
    show b' ≠ w2.heap.size + 1
    omega
  have hok : bt.Ok := by
    subst hbt
    exact ⟨(pre_len s).symm, (pre_len t).symm, by show s.sz ≤ 1000; omega, by show t.sz ≤ 1000; omega⟩
  have hpas : PA bt bt.PS WT s 0 sa pa1 pc1 := by
    refine ⟨by subst hbt; exact hs, by subst hbt; exact pre_head s, by subst hbt; exact pre_subs s, ?_, ?_, by omega, Hpc1.out⟩
    · exact InP_imp (fun k' hk' => hq k' (by have := hk'.2; omega)) (InP_below hbwT (InP_lt hin))
    · exact PL_mono (fun b' o v hp hv => ⟨hq b' (by have := lt_of_cell hv; omega), by rw [hb1T.cell (p := ⟨b', o, none⟩) (lt_of_cell hv)]; exact hv⟩) (fun b' o v hp hv => ⟨hq b' (by have := lt_of_cell hv; omega), by rw [hb1T.cell (p := ⟨b', o, none⟩) (lt_of_cell hv)]; exact hv⟩) _ _ _ _ (Nat.le_refl _) Hpl1.out
  have hpat : PA bt bt.PT WT t 0 ta pa2 pc2 := by
    refine ⟨by subst hbt; exact ht, by subst hbt; exact pre_head t, by subst hbt; exact pre_subs t, ?_, ?_, by omega, hpc2⟩
    · exact InP_imp (fun k' hk' => hq k' (by have := hk'.2; omega)) (InP_below hbwT (InP_lt hin2))
    · exact PL_mono (fun b' o v hp hv => ⟨hq b' (by have := lt_of_cell hv; omega), by rw [hb2T.cell (p := ⟨b', o, none⟩) (lt_of_cell hv)]; exact hv⟩) (fun b' o v hp hv => ⟨hq b' (by have := lt_of_cell hv; omega), by rw [hb2T.cell (p := ⟨b', o, none⟩) (lt_of_cell hv)]; exact hv⟩) _ _ _ _ (Nat.le_refl _) hpl2
  have htab : TabOK bt (s.sz + t.sz) WT := by
    refine ⟨fun _ _ => 0, ?_, fun _ _ _ _ _ _ _ => Or.inl rfl⟩
    subst hbt
    refine ⟨fun i j hi hj => ?_, fun k => frozen_of_heap hheap k, by show w2.heap.size + 1 < _; omega⟩
    show WT.cell? ⟨w2.heap.size + 1, i * t.sz + j, none⟩ = some (.int .i8 0)
    have h9 : i * t.sz + j < N := by rw [HN.out]; exact idx_lt (show i < s.sz from hi) (show j < t.sz from hj)
    simp [World.cell?, hheap, row8_at h9]
  have hgr := isUp bt hok (s.sz + t.sz) s 0 t 0 sa sc pa1 pc1 ta tc pa2 pc2 WT (Nat.le_refl _) hpas hpat htab
  have HG : Hid (Calls Tryz.prog 266 #[.agg #[.slice (some ⟨w2.heap.size + 1, 0, none⟩) N N, .int .i64 (t.sz : Int)], .agg #[.int .i64 s.v, .int .i64 s.f, .slice sa s.args.length sc, .int .i64 0, .slice pa1 s.args.length pc1], .agg #[.int .i64 t.v, .int .i64 t.f, .slice ta t.args.length tc, .int .i64 0, .slice pa2 t.args.length pc2]] WT fun e w' =>
      e = .returned (.int .i8 (cmpS s t)) ∧ GS bt (s.sz + t.sz) WT w') := by
    rw [HN.out]
    subst hbt
    exact hgr
  have h5s : Five w2 w1.heap.size 0 (.int .i64 s.v) (.int .i64 s.f) (.slice sa s.args.length sc) (.int .i64 0) (.slice pa1 s.args.length pc1) := (Five.of_heap (heap_alloc_new w1 _)).same (hb2.block w1.heap.size (by simp))
  have h5 := fun o1 o2 o3 => h5s.same ((belowT w2 o1 o2 o3).block w1.heap.size (by omega))
  have a0 := fun o1 o2 o3 => (h5 o1 o2 o3).1
  have a1 := fun o1 o2 o3 => (h5 o1 o2 o3).2.1
  have a2 := fun o1 o2 o3 => (h5 o1 o2 o3).2.2.1
  have a3 := fun o1 o2 o3 => (h5 o1 o2 o3).2.2.2.1
  have a4 := fun o1 o2 o3 => (h5 o1 o2 o3).2.2.2.2
  have h6 := fun o2 o3 => (Five.of_heap (e := 304) (fr := (0, 0)) (heap_alloc_new w2 (.cells #[.int .i64 t.v, .int .i64 t.f, .slice ta t.args.length tc, .int .i64 0, .slice pa2 t.args.length pc2] 304))).same ((below2 (w2.alloc (.cells #[.int .i64 t.v, .int .i64 t.f, .slice ta t.args.length tc, .int .i64 0, .slice pa2 t.args.length pc2] 304)) o2 o3).block w2.heap.size (by simp))
  have c0 := fun o2 o3 => (h6 o2 o3).1
  have c1 := fun o2 o3 => (h6 o2 o3).2.1
  have c2 := fun o2 o3 => (h6 o2 o3).2.2.1
  have c3 := fun o2 o3 => (h6 o2 o3).2.2.2.1
  have c4 := fun o2 o3 => (h6 o2 o3).2.2.2.2
  have hlw1 : w1.heap.size < w2.heap.size := by omega
  have HbT := hide hbwT
  have Hrb : Hid (∀ k', k' < w.heap.size → k' ≠ bt.K) := fun k' hk' => by
    subst hbt
    show k' ≠ w2.heap.size + 1
    omega
  have HWT := hide hWT
  have Hz := hide (show (cmpS s t == 1) = gt s t from by
    cases hgt : gt s t with
    | true => rw [cmpS_one.2 hgt]; rfl
    | false => rw [beq_eq_false_iff_ne]; exact fun h => by rw [cmpS_one.1 h] at hgt; cases hgt)
  obtain ⟨Z, hZ⟩ : ∃ Z, Z = cmpS s t := ⟨_, rfl⟩
  rw [← hZ] at HG Hz
  clear hgr hpas hpat htab hok hq hbt hbwT hb1T hb2T hWT hheap g1 g2 hzT hZ hpl2 hpc2 hb2 hb12 H2 Hpl1 Hpc1 hin hin2 hs ht d0 d1 d2 h5s h5 h6
  go_wp2_with fail
  rw [← HWT.out]
  with_reducible refine HG.out.mono ?_
  rintro e w5 ⟨rfl, hg5⟩
  have Hfin : Hid (Below w.heap.size w w5) := ⟨hg5.kt.os.trans HbT.out.os, hg5.kt.tape.trans HbT.out.tape, hg5.kt.output.trans HbT.out.output, Nat.le_trans HbT.out.size hg5.kt.size, fun k' hk' => (hg5.kt.block k' (by have := HbT.out.size; omega) (Hrb.out k' hk')).trans (HbT.out.block k' hk')⟩
  clear hg5
  go_wp2_with fail
  go_ret
  exact ⟨ret_bool Hz.out, Hfin.out⟩
end Go.Proofs.YtbkedppkdhfpoabGreat

namespace Go.Proofs.YtbkedppkdhfpoabGreat
open Go.RowKit
def grSpec (ar : List Int) (s t : T) : Bool := decide (allErr ar [s, t] = 0) && gt s t
set_option maxRecDepth 100000 in
set_option maxHeartbeats 400000 in
theorem Greater_any (ar : List Int) (ga : Option Addr) (gcap : Nat) (s : T) (sa : Option Addr) (sc : Nat) (t : T) (ta : Option Addr) (tc : Nat) (w : World) (hg : Ints w ar ga) (hin : InL w s.args sa) (hin2 : InL w t.args ta) :
    Calls Tryz.prog 190 #[.agg #[.slice ga ar.length gcap], .agg #[.int .i64 s.v, .int .i64 s.f, .slice sa s.args.length sc], .agg #[.int .i64 t.v, .int .i64 t.f, .slice ta t.args.length tc]] w fun e w' =>
      e = .returned (.tuple #[.bool (grSpec ar s t), .int .i64 (allErr ar [s, t])]) ∧ Below w.heap.size w w' := by
  have H1 := hide (fun o1 o2 o3 => ordCheck_any ar ga gcap s sa sc t ta tc (((w.alloc o1).alloc o2).alloc o3) (Ints_alloc o3 (Ints_alloc o2 (Ints_alloc o1 hg))) (InP_alloc o3 (InP_alloc o2 (InP_alloc o1 hin))) (InP_alloc o3 (InP_alloc o2 (InP_alloc o1 hin2))))
  obtain ⟨E, hE⟩ : ∃ E, E = allErr ar [s, t] := ⟨_, rfl⟩
  obtain ⟨G, hG⟩ : ∃ G, G = grSpec ar s t := ⟨_, rfl⟩
  rw [← hE] at H1 ⊢
  rw [← hG]
  have HE := hide hE
  have HG := hide hG
  clear hE hG
  go_enter Tryz.func190, Tryz.ntmps190
  go_wp2_with fail
  refine (H1.out _ _ _).mono ?_
  rintro e w1 ⟨rfl, hb1⟩
  have hz1 : w.heap.size + 3 ≤ w1.heap.size := by have := hb1.size; simp at this; omega
  have hbw : Below w.heap.size w w1 := (((below1 _ _).alloc (by simp) _).alloc (by simp; omega) _).trans (hb1.mono (by simp; omega))
  have h3s : Three w1 (w.heap.size + 1) (.int .i64 s.v) (.int .i64 s.f) (.slice sa s.args.length sc) := ((Three.new _ (by simp)).alloc _).below hb1
  have h3t : Three w1 (w.heap.size + 1 + 1) (.int .i64 t.v) (.int .i64 t.f) (.slice ta t.args.length tc) := (Three.new _ (by simp)).below hb1
  obtain ⟨c0, c1, c2, _, _, _⟩ := h3s
  obtain ⟨d0, d1, d2, _, _, _⟩ := h3t
  clear hb1
  by_cases h : E = 0
  · obtain ⟨k1, k2, k3, k4⟩ := ok_two (HE.out.symm.trans h)
    have H2 := hide (great_any ar s sa sc t ta tc w1 k2 k4 k1 k3 (InP_below hbw hin) (InP_below hbw hin2))
    have HG2 : Hid (gt s t = G) := by show _ = _; rw [HG.out, grSpec, decide_eq_true (HE.out.symm.trans h), Bool.true_and]
    subst h
    clear k1 k2 k3 k4
    go_wp2_with fail
    refine H2.out.mono ?_
    rintro e w2 ⟨rfl, hb2⟩
    rw [HG2.out]
    have Hb := hide (hbw.trans (hb2.mono (by omega)))
    clear hb2
    go_wp2_with fail
    go_ret2
    exact ⟨rfl, Hb.out⟩
  · have hb : (E != 0) = true := by simpa using h
    have hG0 : G = false := by rw [HG.out, grSpec, decide_eq_false (fun h' => h (HE.out.trans h')), Bool.false_and]
    subst hG0
    clear h
    go_wp2_with fail
    go_ret2
    exact ⟨rfl, hbw⟩
end Go.Proofs.YtbkedppkdhfpoabGreat

namespace Go.Proofs.YtbkedppkdhfpoabGreat
open Go.RowKit
theorem all_one {ar : List Int} (h : sigErr ar = 0) (t : T) : allErr ar [t] = termErr ar t := by
  rw [allErr, if_pos h, termsErr]
  by_cases h1 : termErr ar t = 0
  · rw [if_pos h1, h1]; rfl
  · rw [if_neg h1]
set_option maxRecDepth 100000 in
set_option maxHeartbeats 1000000 in
theorem checkBindings_any (ar : List Int) (ga : Option Addr) (gcap : Nat) (bs : List (Int × T)) (a : Option Addr) (cap : Nat) (w : World) (p : Nat → Prop) (hl : bs.length ≤ 9223372036854775807) (hg : Ints w ar ga) (hin : Binds p w bs a) :
    Calls Tryz.prog 294 #[.agg #[.slice ga ar.length gcap], .slice a bs.length cap] w fun e w' => e = .returned (.int .i64 (bindsErr ar bs)) ∧ Below w.heap.size w w' := by
  go_enter Tryz.func294, Tryz.ntmps294
  go_wp2_with fail
  refine (signature_any ar ga gcap _ (Ints_alloc _ hg)).mono ?_
  rintro e w1 ⟨rfl, hb1⟩
  have hz1 : w.heap.size < w1.heap.size := by have := hb1.size; simp at this; omega
  have hbw : Below w.heap.size w w1 := (below1 _ _).trans (hb1.mono (by simp))
  have cg : w1.cell? ⟨w.heap.size, 0, none⟩ = some (.slice ga ar.length gcap) := by
    rw [hb1.cell (p := ⟨w.heap.size, 0, none⟩) (by simp), cell_new _ rfl]; rfl
  clear hb1
  by_cases hs : sigErr ar = 0
  · have hfin : bindsErr ar bs = bindErr ar 0 bs := by rw [bindsErr, if_pos hs]
    have Hfin := hide hfin
    have Hone := hide (all_one hs)
    rw [hs]
    clear hfin hs
    go_wp2_with fail
    go_loopw [6, 17] (fun l i wr => ∃ (k : Nat), k ≤ bs.length ∧ i = .int .i64 k ∧ l = .int .i64 (lastB bs k) ∧ Hid (bindErr ar 0 bs = bindErr ar (lastB bs k) (bs.drop k)) ∧ Below w1.heap.size w1 wr) (fun _ i _ => bs.length - (intOf i).toNat)
    case atStart => exact ⟨0, Nat.zero_le _, rfl, rfl, rfl, Below.refl _ _⟩
    case round =>
      obtain ⟨k, hk, rfl, rfl, HL, hb⟩ := hrel
      have hzr := hb.size
      have hbR : Below w.heap.size w wr := hbw.trans (hb.mono (by omega))
      by_cases hlt : k < bs.length
      · have hin' := Binds_below hb (Binds_below hbw hin)
        have Hg' := hide (Ints_below hb (Ints_below hbw hg))
        obtain ⟨b, off, rfl⟩ := Binds_some hin (by omega)
        obtain ⟨x, hx⟩ : ∃ x, bs[k]? = some x := ⟨bs[k], List.getElem?_eq_getElem hlt⟩
        obtain ⟨a1, cap1, _, c0, c1, c2, c3, hin1⟩ := Binds_at hin' hx
        have Hst := hide (HL.out.trans (bindErr_step hx))
        have Hls := hide (lastB_succ hx)
        have cg' : wr.cell? ⟨w.heap.size, 0, none⟩ = some (.slice ga ar.length gcap) := cell_below hb cg
        have hgw : w.heap.size < wr.heap.size := by omega
        have hkI : (k : Int) < bs.length := by omega
        have hk0 : (0 : Int) ≤ k := by omega
        have HC := hide (fun o => Check_any ar ga gcap x.2 a1 cap1 (wr.alloc o) (Ints_alloc o Hg'.out) (InP_alloc o (InP_imp (q := fun _ => True) (fun _ _ => trivial) hin1)))
        have HbA := hide (fun o => hbR.alloc (show w.heap.size ≤ wr.heap.size by omega) o)
        have HbB := hide (fun o => hb.alloc hzr o)
        have hbb := lt_of_cell c0
        clear hx HL hin hin' hin1
        by_cases h1 : x.1 < 1
        · rw [if_pos (Or.inl h1)] at Hst
          go_wp2_with fail
          go_ret
          exact ⟨ret_int (by rw [Hfin.out, Hst.out]), HbA.out _⟩
        · by_cases h2 : 1000 < x.1
          · rw [if_pos (Or.inr h2)] at Hst
            go_wp2_with fail
            go_ret
            exact ⟨ret_int (by rw [Hfin.out, Hst.out]), HbA.out _⟩
          · rw [if_neg (by omega)] at Hst
            by_cases h3 : x.1 ≤ lastB bs k
            · rw [if_pos h3] at Hst
              go_wp2_with fail
              go_ret
              exact ⟨ret_int (by rw [Hfin.out, Hst.out]), HbA.out _⟩
            · rw [if_neg h3] at Hst
              go_wp2_with fail
              refine (HC.out _).mono ?_
              rintro e w2 ⟨rfl, hb2⟩
              rw [Hone.out]
              have hz2 := hb2.size
              rw [World.size_alloc] at hz2
              have Hb2 := hide ((HbB.out _).trans (hb2.mono (by rw [World.size_alloc]; omega)))
              have Hb3 := hide ((HbA.out _).trans (hb2.mono (by rw [World.size_alloc]; omega)))
              have d0 : w2.cell? ⟨wr.heap.size, 0, none⟩ = some (.int .i64 x.1) := cell_below hb2 (by rw [cell_new 0 rfl]; rfl)
              clear HC HbA HbB hb2
              by_cases h4 : termErr ar x.2 = 0
              · rw [if_pos h4] at Hst
                rw [h4]
                clear h4
                go_wp2_with fail
                go_roundw
                case rel => exact ⟨k + 1, by omega, by go_num, by rw [Hls.out], by rw [Hls.out]; exact Hst.out, Hb2.out⟩
                case measure => simp [intOf]; omega
              · rw [if_neg h4] at Hst
                have h4' : (termErr ar x.2 != 0) = true := by simpa using h4
                clear h4
                go_wp2_with fail
                go_ret
                exact ⟨ret_int (by rw [Hfin.out, Hst.out]), Hb3.out⟩
      · have hk2 : k = bs.length := by omega
        subst hk2
        have Hek : Hid (bindErr ar 0 bs = 0) := by show _ = _; rw [HL.out, List.drop_length]; rfl
        clear HL
        go_wp2_with fail
        go_ret
        exact ⟨ret_int (by rw [Hfin.out, Hek.out]), hbR⟩
  · have hfin : bindsErr ar bs = sigErr ar := by rw [bindsErr, if_neg hs]
    have Hfin := hide hfin
    have hs1 : (sigErr ar != 0) = true := by simpa using hs
    clear hfin hs
    generalize sigErr ar = sg at *
    go_wp2_with fail
    go_ret
    exact ⟨ret_int Hfin.out.symm, hbw⟩
end Go.Proofs.YtbkedppkdhfpoabGreat

namespace Go.Proofs.YtbkedppkdhfpoabGreat
open Go.RowKit Go.Maps
theorem bindErr_rise {ar : List Int} : ∀ {bs : List (Int × T)} {last : Int}, bindErr ar last bs = 0 → bs.Pairwise (fun x y => x.1 < y.1) ∧ (∀ x, x ∈ bs → last < x.1) ∧ (0 ≤ last → last ≤ 1000 → last + bs.length ≤ 1000) := by
  intro bs
  induction bs with
  | nil => intro last _; exact ⟨List.Pairwise.nil, fun x h => (by cases h), fun _ h => by simpa using h⟩
  | cons x bs ih =>
    intro last h
    rw [bindErr] at h
    by_cases h1 : x.1 < 1 ∨ 1000 < x.1
    · rw [if_pos h1] at h; cases h
    · rw [if_neg h1] at h
      by_cases h2 : x.1 ≤ last
      · rw [if_pos h2] at h; cases h
      · rw [if_neg h2] at h
        by_cases h3 : termErr ar x.2 = 0
        · rw [if_pos h3] at h
          obtain ⟨g1, g2, g3⟩ := ih h
          refine ⟨List.Pairwise.cons g2 g1, fun y hy => ?_, fun _ _ => ?_⟩
          · rcases List.mem_cons.1 hy with rfl | hy
            · omega
            · have := g2 y hy; omega
          · have := g3 (by omega) (by omega)
            rw [List.length_cons]; omega
        · rw [if_neg h3] at h; exact absurd h h3
theorem once_of_rise {bs : List (Int × T)} (h : bs.Pairwise (fun x y => x.1 < y.1)) : Once bs := by
  intro i j x y hx hy e
  rw [List.pairwise_iff_getElem] at h
  obtain ⟨hi, rfl⟩ := List.getElem?_eq_some_iff.1 hx
  obtain ⟨hj, rfl⟩ := List.getElem?_eq_some_iff.1 hy
  rcases Nat.lt_trichotomy i j with h1 | h1 | h1
  · have := h i j hi hj h1; omega
  · exact h1
  · have := h j i hj hi h1; omega
def applySpec (ar : List Int) (bs : List (Int × T)) (t : T) : T × Int :=
  if bindsErr ar bs = 0 then (if termErr ar t = 0 then (if 120 < (applyT bs t).sz then (zeroT, 2) else (applyT bs t, 0)) else (zeroT, termErr ar t)) else (zeroT, bindsErr ar bs)
theorem bindsErr_sig {ar : List Int} {bs : List (Int × T)} (h : bindsErr ar bs = 0) : sigErr ar = 0 ∧ bindErr ar 0 bs = 0 := by
  rw [bindsErr] at h
  by_cases h1 : sigErr ar = 0
  · rw [if_pos h1] at h; exact ⟨h1, h⟩
  · rw [if_neg h1] at h; exact absurd h h1
theorem termErr_apply {ar : List Int} {bs : List (Int × T)} {t : T} (hb : bindErr ar 0 bs = 0) (ht : okP ar t) : termErr ar (applyT bs t) = if 120 < (applyT bs t).sz then 2 else 0 := by
  have ho := okP_apply (fun v u h => (bindErr_ok hb v u h).2.2.2) ht
  by_cases h : 120 < (applyT bs t).sz
  · rw [if_pos h, termErr, if_pos h]
  · rw [if_neg h]; exact termErr_iff.2 ⟨by omega, ho⟩
attribute [local go_sem ↓] Go.wp_at_zero Go.wp_at_succ
def GivesN (x : T × Int) (base : Nat) (e : Ending) (w' : World) : Prop :=
  ∃ a1 cap1, e = .returned (.tuple #[.agg #[.int .i64 x.1.v, .int .i64 x.1.f, .slice a1 x.1.args.length cap1], .int .i64 x.2]) ∧ InP (fun k => base ≤ k) w' x.1.args a1
theorem givesN_zero (n : Int) (base : Nat) (w' : World) : GivesN (zeroT, n) base (.returned (.tuple #[.agg #[.int .i64 0, .int .i64 0, .slice none 0 0], .int .i64 n])) w' := ⟨none, 0, rfl, InP_nil⟩
set_option maxRecDepth 100000 in
set_option maxHeartbeats 2000000 in
theorem Apply_new (ar : List Int) (ga : Option Addr) (gcap : Nat) (bs : List (Int × T)) (ba : Option Addr) (bc : Nat) (t : T) (a : Option Addr) (cap : Nat) (w : World) (hg : Ints w ar ga) (hl : bs.length ≤ 9223372036854775807) (hbs : Binds (fun _ => True) w bs ba) (hin : InL w t.args a) :
    Calls Tryz.prog 264 #[.agg #[.slice ga ar.length gcap], .slice ba bs.length bc, .agg #[.int .i64 t.v, .int .i64 t.f, .slice a t.args.length cap]] w fun e w' => GivesN (applySpec ar bs t) w.heap.size e w' ∧ Below w.heap.size w w' := by
  obtain ⟨W3, hW3⟩ : ∃ W3, W3 = (((w.alloc (.cells #[.slice ga ar.length gcap] 24)).alloc (.cells #[.int .i64 t.v, .int .i64 t.f, .slice a t.args.length cap] 77)).alloc (.cells #[.int .i64 0, .int .i64 0, .slice none 0 0] 77)) := ⟨_, rfl⟩
  have hT3 : Hid (Three W3 (w.heap.size + 1) (.int .i64 t.v) (.int .i64 t.f) (.slice a t.args.length cap)) := by rw [hW3]; exact (Three.new 77 (by simp)).alloc _
  have hR3 : Hid (Three W3 (w.heap.size + 1 + 1) (.int .i64 0) (.int .i64 0) (.slice none 0 0)) := by rw [hW3]; exact Three.new 77 (by simp)
  have hG3 : Hid (W3.cell? ⟨w.heap.size, 0, none⟩ = some (.slice ga ar.length gcap)) := by
    show _ = _
    rw [hW3, cell_alloc_lt (by simp; omega), cell_alloc_lt (by simp), cell_new _ rfl]; rfl
  have hWb : Hid (Below w.heap.size w W3) := by rw [hW3]; exact below3 _ _ _ _
  have hz3 : w.heap.size + 3 ≤ W3.heap.size := by rw [hW3]; simp
  have HW3 := hide hW3
  have Hg := hide hg
  have Hbs := hide hbs
  have Hin := hide hin
  clear hW3 hg hbs hin
  go_enter Tryz.func264, Tryz.ntmps264
  go_wp2_with fail
  rw [← HW3.out]
  refine (checkBindings_any ar ga gcap bs ba bc _ _ hl (Ints_below hWb.out Hg.out) (Binds_below hWb.out Hbs.out)).mono ?_
  rintro e w1 ⟨rfl, hb1⟩
  have Hb1 := hide (hWb.out.trans (hb1.mono (by omega)))
  have hz1 := hb1.size
  obtain ⟨d0, d1, d2, f0, f1, f2⟩ := hR3.out.below hb1
  obtain ⟨c0, c1, c2, _, _, _⟩ := hT3.out.below hb1
  have cg := cell_below hb1 hG3.out
  have HR1 := hide (hR3.out.below hb1)
  have hz1' : w.heap.size + 1 + 1 < w1.heap.size := by omega
  clear hb1 hR3 hT3 hG3 hWb HW3
  by_cases hs : bindsErr ar bs = 0
  · obtain ⟨hsg, hbe⟩ := bindsErr_sig hs
    have Hspec : Hid (applySpec ar bs t = if termErr ar t = 0 then (if 120 < (applyT bs t).sz then (zeroT, 2) else (applyT bs t, 0)) else (zeroT, termErr ar t)) := by show _ = _; rw [applySpec, if_pos hs]
    have Hbe := hide hbe
    have Hone := hide (all_one hsg)
    rw [hs]
    clear hs hbe hsg
    go_wp2_with fail
    refine (Check_any ar ga gcap t a cap _ (Ints_below Hb1.out Hg.out) (InP_below Hb1.out Hin.out)).mono ?_
    rintro e w2 ⟨rfl, hb2⟩
    rw [Hone.out]
    have Hb2 := hide (Hb1.out.trans (hb2.mono (by omega)))
    have hz2 := hb2.size
    have HR2 := hide (HR1.out.below hb2)
    have cg2 := cell_below hb2 cg
    have c02 := cell_below hb2 c0
    have c12 := cell_below hb2 c1
    have c22 := cell_below hb2 c2
    have hz2' : w.heap.size + 1 + 1 < w2.heap.size := by omega
    clear hb2 d0 d1 d2 f0 f1 f2 c0 c1 c2 cg HR1
    by_cases ht : termErr ar t = 0
    · have Hspec2 : Hid (applySpec ar bs t = if 120 < (applyT bs t).sz then (zeroT, 2) else (applyT bs t, 0)) := by show _ = _; rw [Hspec.out, if_pos ht]
      have Hok := hide (termErr_iff.1 ht)
      rw [ht]
      clear ht Hspec
      go_upto_region 7 with fail
      go_cut [10] (fun v10 wc => ∃ b10 a1 cap1, v10 = .pointer (some ⟨b10, 0, none⟩) ∧ Three wc b10 (.int .i64 (applyT bs t).v) (.int .i64 (applyT bs t).f) (.slice a1 (applyT bs t).args.length cap1) ∧ InP (fun k => w2.heap.size ≤ k) wc (applyT bs t).args a1 ∧ Hid (Below w2.heap.size w2 wc))
      case first =>
        obtain ⟨hrise, _, hlen⟩ := bindErr_rise Hbe.out
        have Honce := hide (once_of_rise hrise)
        have hlen' : bs.length ≤ 1000 := by have := hlen (by omega) (by omega); omega
        have Hran := hide (show ∀ x, x ∈ bs → 1 ≤ x.1 ∧ x.1 ≤ 1000 from fun x hx => ⟨(bindErr_ok Hbe.out x.1 x.2 hx).1, (bindErr_ok Hbe.out x.1 x.2 hx).2.1⟩)
        have Hpos := hide (show ∀ v : Int, v ≤ 0 → lookB bs v = none from fun v hv => lookB_none (fun x hx e => by have := Hran.out x hx; omega))
        have Hus := hide (show ∀ v u, (v, u) ∈ bs → u.sz ≤ 1000 from fun v u h => by have := (bindErr_ok Hbe.out v u h).2.2.1; omega)
        have HbsQ := hide (fun (w' : World) (hb : Below w2.heap.size w2 w') => Binds_imp (q := fun k => k < w2.heap.size) (fun k hk => hk.2) (Binds_mono (p := fun k => True ∧ k < w2.heap.size) (q := fun k => True ∧ k < w2.heap.size) (fun _ _ _ hp hv => ⟨hp, cell_below hb hv⟩) (Binds_lt (Binds_below Hb2.out Hbs.out))))
        have HinQ := hide (fun (w' : World) (hb : Below w2.heap.size w2 w') => InP_below hb (InP_below Hb2.out Hin.out))
        have hS := hide (fun (w' : World) (hb : Below w2.heap.size w2 w') => (show w'.cell? ⟨w.heap.size + 1, 0, none⟩ = some (.int .i64 t.v) ∧ w'.cell? ⟨w.heap.size + 1, 1, none⟩ = some (.int .i64 t.f) ∧ w'.cell? ⟨w.heap.size + 1, 2, none⟩ = some (.slice a t.args.length cap) from ⟨cell_below hb c02, cell_below hb c12, cell_below hb c22⟩))
        have ht120 := Hok.out.1
        clear hrise hlen Hbe Hbs Hin Hg Hone cg2 HR2 Hb2 Hb1 Hspec2
        go_region_held3 (fun w' => w'.cell? ⟨w.heap.size + 1, 0, none⟩ = some (.int .i64 t.v) ∧ w'.cell? ⟨w.heap.size + 1, 1, none⟩ = some (.int .i64 t.f) ∧ w'.cell? ⟨w.heap.size + 1, 2, none⟩ = some (.slice a t.args.length cap)) ((first | (refine hS.out _ ?_; (repeat' (first | with_reducible exact Hid.out ‹Hid (Below _ _ _)› | with_reducible exact Below.refl _ _ | (with_reducible refine Below.drew ?_) | (refine Below.alloc ?_ ?_ _; rotate_left; focus (first | omega | (simp; omega) | (simp; done))) | (with_reducible refine Below.setCell ?_ ?_ _; rotate_left; focus (first | exact Nat.le_refl _ | exact hsxA | (show w2.heap.size ≤ _; omega) | (simp; omega))))); done) | go_keep)) ((first
          | (go_at_call 295
             with_reducible refine (boundBy_any bs ba bc _ (fun k => k < w2.heap.size) ?_ hlen' Honce.out Hran.out ?_).mono ?_
             · intro k hk
               first | exact hk | (simp; omega)
             · exact HbsQ.out _ (by (repeat' (first | with_reducible exact Hid.out ‹Hid (Below _ _ _)› | with_reducible exact Below.refl _ _ | (with_reducible refine Below.drew ?_) | (refine Below.alloc ?_ ?_ _; rotate_left; focus (first | omega | (simp; omega) | (simp; done))))))
             rintro e xA ⟨bA, fA, rfl, hbA0, hMA, hBA, hbA⟩
             have HxA : Hid (Below w2.heap.size w2 xA) := by
               refine Below.trans (b := _) ?_ (hbA.mono ?_)
               · (repeat' (first | with_reducible exact Hid.out ‹Hid (Below _ _ _)› | with_reducible exact Below.refl _ _ | (with_reducible refine Below.drew ?_) | (refine Below.alloc ?_ ?_ _; rotate_left; focus (first | omega | (simp; omega) | (simp; done)))))
               · first | omega | (simp; omega) | (simp; done)
             have hsxA := HxA.out.size
             have hslA := hbA.size
             try (simp at hslA)
             have HMA := hide (fun (w' : World) (hb : Below xA.heap.size xA w') => hMA.below hb)
             have HBA := hide (fun (w' : World) (hb : Below xA.heap.size xA w') => hBA.mono (fun j _ hj => hb.block j hj))
             try (have H3A : Hid (Three xA w2.heap.size (.int .i64 0) (.int .i64 0) (.slice none 0 0)) := Three.below (by first | exact Three.new 77 rfl | exact Three.same (Three.new 77 rfl) rfl) hbA)
             clear hMA hBA)
          | (go_at_call 296
             with_reducible refine (applyP_any ar (fun k => k < w2.heap.size) bs bA bs.length fA Hpos.out Hus.out (t.sz + 1) t a cap _ (by omega) (by omega) ?_ ?_ Hok.out.2 ?_).mono ?_
             · exact HMA.out _ (by (repeat' (first | with_reducible exact Hid.out ‹Hid (Below _ _ _)› | with_reducible exact Below.refl _ _ | (with_reducible refine Below.drew ?_) | (refine Below.alloc ?_ ?_ _; rotate_left; focus (first | omega | (simp; omega) | (simp; done))))))
             · exact HBA.out _ (by (repeat' (first | with_reducible exact Hid.out ‹Hid (Below _ _ _)› | with_reducible exact Below.refl _ _ | (with_reducible refine Below.drew ?_) | (refine Below.alloc ?_ ?_ _; rotate_left; focus (first | omega | (simp; omega) | (simp; done))))))
             · exact HinQ.out _ (by (repeat' (first | with_reducible exact Hid.out ‹Hid (Below _ _ _)› | with_reducible exact Below.refl _ _ | (with_reducible refine Below.drew ?_) | (refine Below.alloc ?_ ?_ _; rotate_left; focus (first | omega | (simp; omega) | (simp; done))))))
             rintro e xB ⟨aB, capB, rfl, hinB, hbB⟩
             have HxB : Hid (Below w2.heap.size w2 xB) := by
               refine Below.trans (b := _) ?_ (hbB.mono ?_)
               · (repeat' (first | with_reducible exact Hid.out ‹Hid (Below _ _ _)› | with_reducible exact Below.refl _ _ | (with_reducible refine Below.drew ?_) | (refine Below.alloc ?_ ?_ _; rotate_left; focus (first | omega | (simp; omega) | (simp; done)))))
               · first | omega | (simp; omega) | (simp; done)
             have hsxB := HxB.out.size
             have hslB := hbB.size
             try (simp at hslB)
             have HinB := hide hinB
             try (have H3B : Hid (Three xB xA.heap.size (.int .i64 0) (.int .i64 0) (.slice none 0 0)) := Three.below (by first | exact Three.new 77 rfl | exact Three.same (Three.new 77 rfl) rfl) hbB; obtain ⟨y0, y1, y2, y3, y4, y5⟩ := H3B.out)
             try (have H3C : Hid (Three xB w2.heap.size (.int .i64 0) (.int .i64 0) (.slice none 0 0)) := Three.below (by first | exact H3A.out | exact Three.same H3A.out rfl) hbB; obtain ⟨x0, x1, x2, x3, x4, x5⟩ := H3C.out)
             clear hinB)))
        all_goals (go_wp2_with fail; go_meet)
        · refine ⟨xB.heap.size, aB, capB, rfl, Three.new 77 rfl, InP_alloc _ (InP_imp (fun k hk => ?_) HinB.out), HxB.out.alloc hsxB _⟩
          have hk : xA.heap.size ≤ k := hk
          omega
        · refine ⟨xA.heap.size, aB, capB, rfl, ?_, InP_imp (p := fun k => xA.heap.size + 1 ≤ k) (fun k hk => by omega) (InP_same (fun k hk _ => set3_block (b := xA.heap.size) (off := 0) (show k ≠ _ by omega)) (InP_imp (fun k hk => ?_) HinB.out)), below_set3 (b := xA.heap.size) (off := 0) HxB.out hsxA _ _ _⟩
          · have h9 := H3B.out.set (.int .i64 (applyT bs t).v) (.int .i64 (applyT bs t).f) (.slice aB (applyT bs t).args.length capB)
            exact h9
          · simpa using hk
        · refine ⟨w2.heap.size, aB, capB, rfl, ?_, InP_imp (p := fun k => w2.heap.size + 1 ≤ k) (fun k hk => by omega) (InP_same (fun k hk _ => set3_block (b := w2.heap.size) (off := 0) (show k ≠ _ by omega)) (InP_imp (fun k hk => ?_) HinB.out)), below_set3 (b := w2.heap.size) (off := 0) HxB.out (Nat.le_refl _) _ _ _⟩
          · have h9 := H3C.out.set (.int .i64 (applyT bs t).v) (.int .i64 (applyT bs t).f) (.slice aB (applyT bs t).args.length capB)
            exact h9
          · have hk : xA.heap.size ≤ k := hk
            omega
      case rest =>
        obtain ⟨b10, a1, cap1, rfl, h10, hinc, HBc⟩ := hcut
        have hzc := HBc.out.size
        have cgc := cell_below HBc.out cg2
        obtain ⟨p0, p1, p2, _, _, _⟩ := h10
        have Hinc := hide hinc
        have hzc' : w.heap.size + 1 + 1 < wc.heap.size := by omega
        have HRc := hide (HR2.out.below HBc.out)
        have Hbc := hide (Hb2.out.trans (HBc.out.mono (by omega)))
        clear hinc cg2 c02 c12 c22
        go_wp2_with fail
        refine (Check_any ar ga gcap (applyT bs t) a1 cap1 _ (Ints_below Hbc.out Hg.out) (InP_imp (q := fun _ => True) (fun _ _ => trivial) Hinc.out)).mono ?_
        rintro e w4 ⟨rfl, hb4⟩
        rw [Hone.out, termErr_apply Hbe.out Hok.out.2]
        have Hb4 := hide (Hbc.out.trans (hb4.mono (by omega)))
        have HR4 := hide (HRc.out.below hb4)
        have Hin4 := hide (InP_below hb4 Hinc.out)
        obtain ⟨r0, r1, r2, g0, g1, g2⟩ := HR4.out
        have s0 := cell_below hb4 p0
        have s1 := cell_below hb4 p1
        have s2 := cell_below hb4 p2
        have hz4 := hb4.size
        have hz4' : w.heap.size + 1 + 1 < w4.heap.size := by omega
        clear hb4 p0 p1 p2 cgc
        by_cases hbig : 120 < (applyT bs t).sz
        · rw [if_pos hbig]
          have Hsp : Hid (applySpec ar bs t = (zeroT, 2)) := by show _ = _; rw [Hspec2.out, if_pos hbig]
          clear hbig Hspec2
          go_wp2_with fail
          exact bodyPost_ret (v := .tuple #[.agg #[.int .i64 0, .int .i64 0, .slice none 0 0], .int .i64 2]) (by simp [results, Tryz.results264, go_sem, r0, r1, r2]) rfl
            ⟨by rw [Hsp.out]; exact givesN_zero 2 _ _, below_set3 Hb4.out (by omega) _ _ _⟩
        · rw [if_neg hbig]
          have Hsp : Hid (applySpec ar bs t = (applyT bs t, 0)) := by show _ = _; rw [Hspec2.out, if_neg hbig]
          clear hbig Hspec2
          go_wp2_with fail
          exact bodyPost_ret (v := .tuple #[.agg #[.int .i64 (applyT bs t).v, .int .i64 (applyT bs t).f, .slice a1 (applyT bs t).args.length cap1], .int .i64 0]) (by simp [results, Tryz.results264, go_sem, r0, r1, r2]) rfl
            ⟨by rw [Hsp.out]; exact ⟨a1, cap1, rfl, InP_imp (p := fun k => w2.heap.size ≤ k) (fun k hk => by omega) (InP_same (fun k hk _ => set3_block (by omega)) Hin4.out)⟩, below_set3 Hb4.out (by omega) _ _ _⟩
    · have hs1 : (termErr ar t != 0) = true := by simpa using ht
      have Hsp : Hid (applySpec ar bs t = (zeroT, termErr ar t)) := by show _ = _; rw [Hspec.out, if_neg ht]
      clear ht Hspec
      obtain ⟨d0, d1, d2, f0, f1, f2⟩ := HR2.out
      generalize termErr ar t = err at *
      go_wp2_with fail
      exact bodyPost_ret (v := .tuple #[.agg #[.int .i64 0, .int .i64 0, .slice none 0 0], .int .i64 err]) (by simp [results, Tryz.results264, go_sem, d0, d1, d2]) rfl
        ⟨by rw [Hsp.out]; exact givesN_zero err _ _, below_set3 Hb2.out (by omega) _ _ _⟩
  · have hs1 : (bindsErr ar bs != 0) = true := by simpa using hs
    have Hsp : Hid (applySpec ar bs t = (zeroT, bindsErr ar bs)) := by show _ = _; rw [applySpec, if_neg hs]
    clear hs
    generalize bindsErr ar bs = err at *
    go_wp2_with fail
    exact bodyPost_ret (v := .tuple #[.agg #[.int .i64 0, .int .i64 0, .slice none 0 0], .int .i64 err]) (by simp [results, Tryz.results264, go_sem, d0, d1, d2]) rfl
      ⟨by rw [Hsp.out]; exact givesN_zero err _ _, below_set3 Hb1.out (by omega) _ _ _⟩
end Go.Proofs.YtbkedppkdhfpoabGreat

namespace Go.Proofs.YtbkedppkdhfpoabGreat
open Go.RowKit
theorem apply_zero {ar : List Int} {bs : List (Int × T)} {t : T} (h : (applySpec ar bs t).2 ≠ 0) : (applySpec ar bs t).1 = zeroT := by
  by_cases h1 : bindsErr ar bs = 0
  · by_cases h2 : termErr ar t = 0
    · by_cases h3 : 120 < (applyT bs t).sz
      · rw [applySpec, if_pos h1, if_pos h2, if_pos h3]
      · rw [applySpec, if_pos h1, if_pos h2, if_neg h3] at h; exact absurd rfl h
    · rw [applySpec, if_pos h1, if_neg h2]
  · rw [applySpec, if_neg h1]
attribute [local go_sem ↓] Go.wp_at_zero Go.wp_at_succ
end Go.Proofs.YtbkedppkdhfpoabGreat

namespace Go.Proofs.YtbkedppkdhfpoabGreat
open Go.RowKit Go.Maps
def unifyS (ar : List Int) (s t : T) : List (Int × T) × Bool × Int := if allErr ar [s, t] = 0 then (unifyF 1000 s t).getD ([], false, 0) else ([], false, allErr ar [s, t])
theorem unifyS_ok {ar : List Int} {s t : T} (h : allErr ar [s, t] = 0) : unifyF 1000 s t = some (unifyS ar s t) ∧ ((unifyS ar s t = ([], false, 0) ∧ ∀ θ : Int → T, sub θ s ≠ sub θ t) ∨
    ∃ σ : Int → T, Mgu σ s t ∧ ((unifyS ar s t = ([], false, 2) ∧ 120 < (sub σ s).sz) ∨ ∃ bs, unifyS ar s t = (bs, true, 0) ∧ (sub σ s).sz ≤ 120 ∧ BsOk ar bs ∧ ∀ v, v ≠ 0 → byB bs v = σ v)) := by
  obtain ⟨k1, k2, k3, k4⟩ := ok_two h
  obtain ⟨r, h1, h2⟩ := unify_all k2 k4 k1 k3
  have e : unifyS ar s t = r := by rw [unifyS, if_pos h, h1]; rfl
  rw [e]
  exact ⟨h1, h2⟩
theorem rise_len : ∀ {l : List Int} {lo : Int}, l.Pairwise (· < ·) → (∀ x, x ∈ l → lo < x ∧ x ≤ 1000) → (l.length : Int) ≤ max (1000 - lo) 0 := by
  intro l
  induction l with
  | nil => intro lo _ _; simp; omega
  | cons x l ih =>
    intro lo hp hb
    rw [List.pairwise_cons] at hp
    have h1 := hb x List.mem_cons_self
    have h2 := ih (lo := x) hp.2 (fun y hy => ⟨hp.1 y hy, (hb y (List.mem_cons_of_mem _ hy)).2⟩)
    rw [List.length_cons]
    omega
theorem BsOk.len {ar : List Int} {bs : List (Int × T)} (h : BsOk ar bs) : bs.length ≤ 1000 := by
  have := rise_len (lo := 0) h.rise (fun x hx => by
    obtain ⟨⟨v, u⟩, h1, rfl⟩ := List.mem_map.1 hx
    have := (h.each v u h1).1
    simp only
    omega)
  rw [List.length_map] at this
  omega
theorem apply_ok {ar : List Int} {bs : List (Int × T)} {t : T} (h : (applySpec ar bs t).2 = 0) : bindsErr ar bs = 0 ∧ (t.sz ≤ 120 ∧ okP ar t) ∧ (applySpec ar bs t).1 = applyT bs t ∧ (applyT bs t).sz ≤ 120 := by
  by_cases h1 : bindsErr ar bs = 0
  · by_cases h2 : termErr ar t = 0
    · by_cases h3 : 120 < (applyT bs t).sz
      · rw [applySpec, if_pos h1, if_pos h2, if_pos h3] at h; cases h
      · refine ⟨h1, termErr_iff.1 h2, by rw [applySpec, if_pos h1, if_pos h2, if_neg h3], by omega⟩
    · rw [applySpec, if_pos h1, if_neg h2] at h; exact absurd h h2
  · rw [applySpec, if_neg h1] at h; exact absurd h h1
theorem uni_some {ar : List Int} {s t : T} (h : (unifyS ar s t).2.2 = 0) (h' : (unifyS ar s t).2.1 = true) : ∃ σ bs, Mgu σ s t ∧ unifyS ar s t = (bs, true, 0) ∧ (sub σ s).sz ≤ 120 ∧ BsOk ar bs ∧ (∀ v, v ≠ 0 → byB bs v = σ v) ∧ allErr ar [s, t] = 0 := by
  by_cases h1 : allErr ar [s, t] = 0
  · obtain ⟨_, ⟨e, _⟩ | ⟨σ, hm, ⟨e, _⟩ | ⟨bs, e, e1, e2, e3⟩⟩⟩ := unifyS_ok h1
    · rw [e] at h'; cases h'
    · rw [e] at h; cases h
    · exact ⟨σ, bs, hm, e, e1, e2, e3, h1⟩
  · rw [unifyS, if_neg h1] at h; exact absurd h h1
attribute [local go_sem ↓] Go.wp_at_zero Go.wp_at_succ
set_option maxRecDepth 100000 in
set_option maxHeartbeats 1000000 in
theorem UnifyS_any (ar : List Int) (ga : Option Addr) (gcap : Nat) (s : T) (sa : Option Addr) (sc : Nat) (t : T) (ta : Option Addr) (tc : Nat) (w : World) (hg : Ints w ar ga) (hin : InL w s.args sa) (hin2 : InL w t.args ta) :
    Calls Tryz.prog 225 #[.agg #[.slice ga ar.length gcap], .agg #[.int .i64 s.v, .int .i64 s.f, .slice sa s.args.length sc], .agg #[.int .i64 t.v, .int .i64 t.f, .slice ta t.args.length tc]] w fun e w' => UniOut w w' (unifyS ar s t) e := by
  by_cases h0 : allErr ar [s, t] = 0
  · exact Unify_any ar ga gcap s sa sc t ta tc w hg hin hin2 1000 _ (unifyS_ok h0).1 h0
  · have H1 := hide (fun o1 o2 o3 => subCheck_any ar ga gcap s sa sc t ta tc (((w.alloc o1).alloc o2).alloc o3) (Ints_alloc o3 (Ints_alloc o2 (Ints_alloc o1 hg))) (InP_alloc o3 (InP_alloc o2 (InP_alloc o1 hin))) (InP_alloc o3 (InP_alloc o2 (InP_alloc o1 hin2))))
    have hsp : unifyS ar s t = ([], false, allErr ar [s, t]) := by rw [unifyS, if_neg h0]
    rw [hsp]
    clear hsp
    obtain ⟨E, hE⟩ : ∃ E, E = allErr ar [s, t] := ⟨_, rfl⟩
    rw [← hE] at H1 h0 ⊢
    clear hE hg hin hin2
    go_enter Tryz.func225, Tryz.ntmps225
    go_wp2_with fail
    refine (H1.out _ _ _).mono ?_
    rintro e w1 ⟨rfl, hb1⟩
    have hbw : Below w.heap.size w w1 := (((below1 _ _).alloc (by simp) _).alloc (by simp; omega) _).trans (hb1.mono (by simp; omega))
    have hb : (E != 0) = true := by simpa using h0
    clear hb1 h0
    go_wp2_with fail
    go_ret3
    exact UniOut.no hbw
end Go.Proofs.YtbkedppkdhfpoabGreat

namespace Go.Proofs.YtbkedppkdhfpoabGreat
open Go.RowKit
theorem cellB {w w' : World} {b o : Nat} {v : Value} (hb : Below w.heap.size w w') (h : w.cell? ⟨b, o, none⟩ = some v) : w'.cell? ⟨b, o, none⟩ = some v := by
  rw [hb.cell (p := ⟨b, o, none⟩) (lt_of_cell h)]; exact h
attribute [local go_sem ↓] Go.wp_at_zero Go.wp_at_succ
end Go.Proofs.YtbkedppkdhfpoabGreat

namespace Go.Proofs.YtbkedppkdhfpoabGreat
open Go.RowKit
abbrev Lit := Bool × T × T
def LitsP (w : World) : List Lit → Option Addr → Prop
  | [], _ => True
  | x :: c, a => ∃ b off a1 c1 a2 c2, a = some ⟨b, off, none⟩ ∧ w.cell? ⟨b, off, none⟩ = some (.bool x.1) ∧ w.cell? ⟨b, off + 1, none⟩ = some (.int .i64 x.2.1.v) ∧ w.cell? ⟨b, off + 2, none⟩ = some (.int .i64 x.2.1.f) ∧ w.cell? ⟨b, off + 3, none⟩ = some (.slice a1 x.2.1.args.length c1) ∧
      w.cell? ⟨b, off + 4, none⟩ = some (.int .i64 x.2.2.v) ∧ w.cell? ⟨b, off + 5, none⟩ = some (.int .i64 x.2.2.f) ∧ w.cell? ⟨b, off + 6, none⟩ = some (.slice a2 x.2.2.args.length c2) ∧ InL w x.2.1.args a1 ∧ InL w x.2.2.args a2 ∧ LitsP w c (some ⟨b, off + 7, none⟩)
theorem LitsP_below {w w' : World} (hb : Below w.heap.size w w') : ∀ {c : List Lit} {a : Option Addr}, LitsP w c a → LitsP w' c a := by
  intro c
  induction c with
  | nil => intro a _; trivial
  | cons x c ih =>
    intro a h
    obtain ⟨b, off, a1, c1, a2, c2, rfl, h0, h1, h2, h3, h4, h5, h6, i1, i2, hr⟩ := h
    exact ⟨b, off, a1, c1, a2, c2, rfl, cellB hb h0, cellB hb h1, cellB hb h2, cellB hb h3, cellB hb h4, cellB hb h5, cellB hb h6, InP_below hb i1, InP_below hb i2, ih hr⟩
theorem LitsP_some {w : World} {c : List Lit} {a : Option Addr} (h : LitsP w c a) (hp : 0 < c.length) : ∃ b off, a = some ⟨b, off, none⟩ := by
  cases c with
  | nil => simp at hp
  | cons x c => obtain ⟨b, off, _, _, _, _, rfl, _⟩ := h; exact ⟨b, off, rfl⟩
theorem LitsP_at {w : World} : ∀ {c : List Lit} {b off k : Nat} {x : Lit}, LitsP w c (some ⟨b, off, none⟩) → c[k]? = some x →
    ∃ a1 c1 a2 c2, w.cell? ⟨b, off + k * 7, none⟩ = some (.bool x.1) ∧ w.cell? ⟨b, off + k * 7 + 1, none⟩ = some (.int .i64 x.2.1.v) ∧ w.cell? ⟨b, off + k * 7 + 2, none⟩ = some (.int .i64 x.2.1.f) ∧ w.cell? ⟨b, off + k * 7 + 3, none⟩ = some (.slice a1 x.2.1.args.length c1) ∧
      w.cell? ⟨b, off + k * 7 + 4, none⟩ = some (.int .i64 x.2.2.v) ∧ w.cell? ⟨b, off + k * 7 + 5, none⟩ = some (.int .i64 x.2.2.f) ∧ w.cell? ⟨b, off + k * 7 + 6, none⟩ = some (.slice a2 x.2.2.args.length c2) ∧ InL w x.2.1.args a1 ∧ InL w x.2.2.args a2 := by
  intro c
  induction c with
  | nil => intro b off k x _ h; simp at h
  | cons y c ih =>
    intro b off k x h hk
    obtain ⟨b', off', a1, c1, a2, c2, hb, h0, h1, h2, h3, h4, h5, h6, i1, i2, hr⟩ := h
    simp only [Option.some.injEq, Addr.mk.injEq] at hb
    obtain ⟨rfl, rfl, _⟩ := hb
    cases k with
    | zero =>
      simp at hk; subst hk
      exact ⟨a1, c1, a2, c2, by simpa using h0, by simpa using h1, by simpa using h2, by simpa using h3, by simpa using h4, by simpa using h5, by simpa using h6, i1, i2⟩
    | succ k =>
      have h9 := ih hr (by simpa using hk)
      rw [show off + (k + 1) * 7 = off + 7 + k * 7 by omega]
      exact h9
def ClausesP (w : World) : List (List Lit) → Option Addr → Prop
  | [], _ => True
  | c :: cs, a => ∃ b off la lc, a = some ⟨b, off, none⟩ ∧ w.cell? ⟨b, off, none⟩ = some (.slice la c.length lc) ∧ LitsP w c la ∧ ClausesP w cs (some ⟨b, off + 1, none⟩)
theorem ClausesP_below {w w' : World} (hb : Below w.heap.size w w') : ∀ {cs : List (List Lit)} {a : Option Addr}, ClausesP w cs a → ClausesP w' cs a := by
  intro cs
  induction cs with
  | nil => intro a _; trivial
  | cons c cs ih =>
    intro a h
    obtain ⟨b, off, la, lc, rfl, h0, h1, h2⟩ := h
    exact ⟨b, off, la, lc, rfl, cellB hb h0, LitsP_below hb h1, ih h2⟩
theorem ClausesP_some {w : World} {cs : List (List Lit)} {a : Option Addr} (h : ClausesP w cs a) (hp : 0 < cs.length) : ∃ b off, a = some ⟨b, off, none⟩ := by
  cases cs with
  | nil => simp at hp
  | cons c cs => obtain ⟨b, off, _, _, rfl, _⟩ := h; exact ⟨b, off, rfl⟩
theorem ClausesP_at {w : World} : ∀ {cs : List (List Lit)} {b off k : Nat} {c : List Lit}, ClausesP w cs (some ⟨b, off, none⟩) → cs[k]? = some c → ∃ la lc, w.cell? ⟨b, off + k, none⟩ = some (.slice la c.length lc) ∧ LitsP w c la := by
  intro cs
  induction cs with
  | nil => intro b off k c _ h; simp at h
  | cons m cs ih =>
    intro b off k c h hk
    obtain ⟨b', off', la, lc, hb, h0, h1, h2⟩ := h
    simp only [Option.some.injEq, Addr.mk.injEq] at hb
    obtain ⟨rfl, rfl, _⟩ := hb
    cases k with
    | zero => simp at hk; subst hk; exact ⟨la, lc, by simpa using h0, h1⟩
    | succ k =>
      obtain ⟨la2, lc2, g0, g1⟩ := ih h2 (by simpa using hk)
      exact ⟨la2, lc2, by rw [show off + (k + 1) = off + 1 + k by omega]; exact g0, g1⟩
def litsErr (ar : List Int) : List Lit → Int
  | [] => 0
  | x :: c => if termErr ar x.2.1 = 0 then (if termErr ar x.2.2 = 0 then litsErr ar c else termErr ar x.2.2) else termErr ar x.2.1
def clauseErr (ar : List Int) (c : List Lit) : Int := if 8 < c.length then 2 else litsErr ar c
def clErr (ar : List Int) : List (List Lit) → Int
  | [] => 0
  | c :: cs => if clauseErr ar c = 0 then clErr ar cs else clauseErr ar c
def clausesErr (ar : List Int) (cs : List (List Lit)) : Int := if sigErr ar = 0 then (if 60 < cs.length then 2 else clErr ar cs) else sigErr ar
theorem litsErr_drop {ar : List Int} {c : List Lit} {k : Nat} {x : Lit} (hx : c[k]? = some x) : litsErr ar (c.drop k) = if termErr ar x.2.1 = 0 then (if termErr ar x.2.2 = 0 then litsErr ar (c.drop (k + 1)) else termErr ar x.2.2) else termErr ar x.2.1 := by
  have hlt := (List.getElem?_eq_some_iff.1 hx).1
  have e : c.drop k = x :: c.drop (k + 1) := by
    rw [List.getElem?_eq_getElem hlt] at hx
    simp at hx
    rw [← hx, List.getElem_cons_drop]
  rw [e, litsErr]
theorem clErr_drop {ar : List Int} {cs : List (List Lit)} {k : Nat} {c : List Lit} (hx : cs[k]? = some c) : clErr ar (cs.drop k) = if clauseErr ar c = 0 then clErr ar (cs.drop (k + 1)) else clauseErr ar c := by
  have hlt := (List.getElem?_eq_some_iff.1 hx).1
  have e : cs.drop k = c :: cs.drop (k + 1) := by
    rw [List.getElem?_eq_getElem hlt] at hx
    simp at hx
    rw [← hx, List.getElem_cons_drop]
  rw [e, clErr]
theorem one_err {ar : List Int} (h : sigErr ar = 0) (t : T) : allErr ar [t] = termErr ar t := by
  rw [allErr, if_pos h, termsErr, termsErr]
  by_cases h1 : termErr ar t = 0
  · rw [if_pos h1, h1]
  · rw [if_neg h1]
set_option maxRecDepth 100000 in
set_option maxHeartbeats 1000000 in
theorem checkLiterals_any (ar : List Int) (ga : Option Addr) (gcap : Nat) (c : List Lit) (ca : Option Addr) (cc : Nat) (w : World) (hsig : sigErr ar = 0) (hg : Ints w ar ga) (hl : c.length ≤ 9223372036854775807) (hc : LitsP w c ca) :
    Calls Tryz.prog 63 #[.agg #[.slice ga ar.length gcap], .slice ca c.length cc] w fun e w' => e = .returned (.int .i64 (clauseErr ar c)) ∧ Below w.heap.size w w' := by
  obtain ⟨Z, hZ⟩ : ∃ Z, Z = clauseErr ar c := ⟨_, rfl⟩
  rw [← hZ]
  have HZ := hide hZ
  have Hg := hide hg
  have Hc := hide hc
  have Hone := hide (fun t => one_err hsig t)
  clear hZ hg hc hsig
  go_enter Tryz.func63, Tryz.ntmps63
  by_cases h8 : 8 < c.length
  · obtain rfl : Z = 2 := by rw [HZ.out, clauseErr, if_pos h8]
    have e8 : (8 : Int) < c.length := by omega
    clear HZ h8
    go_wp2_with fail
    go_ret
    exact ⟨rfl, below1 _ _⟩
  · have HZ1 : Hid (Z = litsErr ar c) := by show _ = _; rw [HZ.out, clauseErr, if_neg h8]
    have e8 : ¬ (8 : Int) < c.length := by omega
    have cg0 : ∀ o, o = Obj.cells #[.slice ga ar.length gcap] 24 → (w.alloc o).cell? ⟨w.heap.size, 0, none⟩ = some (.slice ga ar.length gcap) := fun o ho => by rw [ho]; exact cell_new 0 rfl
    have Hcg0 := hide (cg0 _ rfl)
    clear HZ cg0
    go_wp2_with fail
    go_loopw [14] (fun i wr => ∃ k : Nat, k ≤ c.length ∧ i = .int .i64 k ∧ Hid (Z = litsErr ar (c.drop k)) ∧ Hid (Below (w.heap.size + 1) (w.alloc (.cells #[.slice ga ar.length gcap] 24)) wr)) (fun i _ => c.length - (intOf i).toNat)
    case atStart => exact ⟨0, Nat.zero_le _, rfl, by rw [List.drop_zero]; exact HZ1, Below.refl _ _⟩
    case round =>
      obtain ⟨k, hk, rfl, Hk, Hbr⟩ := hrel
      have hzr := Hbr.out.size
      rw [World.size_alloc] at hzr
      have Hbw := hide ((below1 w (.cells #[.slice ga ar.length gcap] 24)).trans (Hbr.out.mono (by omega)))
      have cg : wr.cell? ⟨w.heap.size, 0, none⟩ = some (.slice ga ar.length gcap) := by rw [Hbr.out.cell (p := ⟨w.heap.size, 0, none⟩) (by show w.heap.size < w.heap.size + 1; omega)]; exact Hcg0.out
      by_cases hlt : k < c.length
      · obtain ⟨b, off, rfl⟩ := LitsP_some Hc.out (by omega)
        obtain ⟨x, hx⟩ : ∃ x, c[k]? = some x := ⟨c[k], List.getElem?_eq_getElem hlt⟩
        obtain ⟨a1, c1, a2, c2, k0, k1, k2, k3, k4, k5, k6, hi1, hi2⟩ := LitsP_at (LitsP_below Hbw.out Hc.out) hx
        have hst := litsErr_drop (ar := ar) hx
        rw [← Hk.out] at hst
        have HC1 := hide (fun o => Check_any ar ga gcap x.2.1 a1 c1 (wr.alloc o) (Ints_alloc o (Ints_below Hbw.out Hg.out)) (InP_alloc o hi1))
        rw [Hone.out] at HC1
        obtain ⟨F1, hF1⟩ : ∃ F, F = termErr ar x.2.1 := ⟨_, rfl⟩
        obtain ⟨F2, hF2⟩ : ∃ F, F = termErr ar x.2.2 := ⟨_, rfl⟩
        rw [← hF1] at HC1 hst
        rw [← hF2] at hst
        have Hst := hide hst
        have HF2 := hide hF2
        have Hi2 := hide hi2
        have hkI : (k : Int) < c.length := by omega
        have hk0 : (0 : Int) ≤ k := by omega
        have hbl := lt_of_cell k0
        have hzw : w.heap.size < wr.heap.size := by omega
        clear hst hx hi1 hi2 hF1 hF2 Hk
        go_wp2_with fail
        refine (HC1.out _).mono ?_
        rintro e w2 ⟨rfl, hb2⟩
        have hz2 := hb2.size
        simp at hz2
        have hb12 : Below wr.heap.size wr w2 := (below1 _ _).trans (hb2.mono (by simp))
        have Hb2 := hide (Hbr.out.trans (hb12.mono hzr))
        have Hbf := hide (Hbw.out.trans (hb12.mono Hbw.out.size))
        have cg2 := cellB hb12 cg
        have l4 : w2.cell? ⟨wr.heap.size, 4, none⟩ = some (.int .i64 x.2.2.v) := by rw [hb2.cell (p := ⟨wr.heap.size, 4, none⟩) (by simp)]; exact cell_new 4 rfl
        have l5 : w2.cell? ⟨wr.heap.size, 5, none⟩ = some (.int .i64 x.2.2.f) := by rw [hb2.cell (p := ⟨wr.heap.size, 5, none⟩) (by simp)]; exact cell_new 5 rfl
        have l6 : w2.cell? ⟨wr.heap.size, 6, none⟩ = some (.slice a2 x.2.2.args.length c2) := by rw [hb2.cell (p := ⟨wr.heap.size, 6, none⟩) (by simp)]; exact cell_new 6 rfl
        have HC2 := hide (Check_any ar ga gcap x.2.2 a2 c2 w2 (Ints_below Hbf.out Hg.out) (InP_below hb12 Hi2.out))
        rw [Hone.out, ← HF2.out] at HC2
        clear hb2 hb12 HC1 HF2 k0 k1 k2 k3 k4 k5 k6
        by_cases h1 : F1 = 0
        · have Hs2 : Hid (Z = if F2 = 0 then litsErr ar (c.drop (k + 1)) else F2) := by show _ = _; rw [Hst.out, if_pos h1]
          subst h1
          clear Hst
          go_wp2_with fail
          refine HC2.out.mono ?_
          rintro e w3 ⟨rfl, hb3⟩
          have Hb3 := hide (Hb2.out.trans (hb3.mono (by have := Hb2.out.size; rw [World.size_alloc] at this; exact this)))
          have Hbf3 := hide (Hbf.out.trans (hb3.mono Hbf.out.size))
          clear hb3 HC2
          by_cases h2 : F2 = 0
          · have Hs3 : Hid (Z = litsErr ar (c.drop (k + 1))) := by show _ = _; rw [Hs2.out, if_pos h2]
            subst h2
            clear Hs2
            go_wp2_with fail
            go_roundw
            case rel => exact ⟨k + 1, by omega, by go_num, Hs3, Hb3⟩
            case measure => simp [intOf]; omega
          · have h2b : (F2 != 0) = true := by simpa using h2
            obtain rfl : Z = F2 := by rw [Hs2.out, if_neg h2]
            clear Hs2 h2
            go_wp2_with fail
            go_ret
            exact ⟨rfl, Hbf3.out⟩
        · have h1b : (F1 != 0) = true := by simpa using h1
          obtain rfl : Z = F1 := by rw [Hst.out, if_neg h1]
          clear Hst h1 HC2
          go_wp2_with fail
          go_ret
          exact ⟨rfl, Hbf.out⟩
      · have hk2 : k = c.length := by omega
        subst hk2
        obtain rfl : Z = 0 := by rw [Hk.out, List.drop_length]; rfl
        clear Hk
        go_wp2_with fail
        go_ret
        exact ⟨rfl, Hbw.out⟩
set_option maxRecDepth 100000 in
set_option maxHeartbeats 1000000 in
theorem cCheck_any (ar : List Int) (ga : Option Addr) (gcap : Nat) (cs : List (List Lit)) (la : Option Addr) (lc : Nat) (w : World) (hg : Ints w ar ga) (hl : cs.length ≤ 9223372036854775807) (hcl : ∀ c, c ∈ cs → c.length ≤ 9223372036854775807) (hc : ClausesP w cs la) :
    Calls Tryz.prog 20 #[.agg #[.slice ga ar.length gcap], .slice la cs.length lc] w fun e w' => e = .returned (.int .i64 (clausesErr ar cs)) ∧ Below w.heap.size w w' := by
  have H1 := hide (fun o => signature_any ar ga gcap (w.alloc o) (Ints_alloc o hg))
  obtain ⟨E, hE⟩ : ∃ E, E = sigErr ar := ⟨_, rfl⟩
  obtain ⟨Z, hZ⟩ : ∃ Z, Z = clausesErr ar cs := ⟨_, rfl⟩
  rw [← hE] at H1
  rw [← hZ]
  have HE := hide hE
  have HZ := hide hZ
  have Hg := hide hg
  have Hc := hide hc
  have Hcl := hide hcl
  clear hE hZ hg hc hcl
  go_enter Tryz.func20, Tryz.ntmps20
  go_wp2_with fail
  refine (H1.out _).mono ?_
  rintro e w1 ⟨rfl, hb1⟩
  have hz1 : w.heap.size + 1 ≤ w1.heap.size := by have := hb1.size; simp at this; omega
  have hbw : Below w.heap.size w w1 := (below1 _ _).trans (hb1.mono (by simp))
  have cg : w1.cell? ⟨w.heap.size, 0, none⟩ = some (.slice ga ar.length gcap) := by
    rw [hb1.cell (p := ⟨w.heap.size, 0, none⟩) (by simp)]; exact cell_new 0 rfl
  have Hbw := hide hbw
  clear hb1 hbw H1
  by_cases h0 : E = 0
  · have HZ1 : Hid (Z = if 60 < cs.length then 2 else clErr ar cs) := by show _ = _; rw [HZ.out, clausesErr, if_pos (HE.out.symm.trans h0)]
    have Hsig := hide (HE.out.symm.trans h0)
    subst h0
    by_cases h60 : 60 < cs.length
    · obtain rfl : Z = 2 := by rw [HZ1.out, if_pos h60]
      have e60 : (60 : Int) < cs.length := by omega
      clear HZ1 HZ h60
      go_wp2_with fail
      go_ret
      exact ⟨rfl, Hbw.out⟩
    · have HZ2 : Hid (Z = clErr ar cs) := by show _ = _; rw [HZ1.out, if_neg h60]
      have e60 : ¬ (60 : Int) < cs.length := by omega
      clear HZ1 HZ
      go_wp2_with fail
      go_loopw [19] (fun iv wr => ∃ k : Nat, k ≤ cs.length ∧ iv = .int .i64 k ∧ Hid (Z = clErr ar (cs.drop k)) ∧ Hid (Below w1.heap.size w1 wr)) (fun iv _ => cs.length - (intOf iv).toNat)
      case atStart => exact ⟨0, Nat.zero_le _, rfl, by rw [List.drop_zero]; exact HZ2, Below.refl _ _⟩
      case round =>
        obtain ⟨k, hk, rfl, HZk, Hbr⟩ := hrel
        have Hbwr := hide (Hbw.out.trans (Hbr.out.mono Hbw.out.size))
        have cgr := cellB Hbr.out cg
        by_cases hlt : k < cs.length
        · obtain ⟨b, off, rfl⟩ := ClausesP_some Hc.out (by omega)
          obtain ⟨c, hx⟩ : ∃ c, cs[k]? = some c := ⟨cs[k], List.getElem?_eq_getElem hlt⟩
          obtain ⟨ca, cc, kc, hlc⟩ := ClausesP_at (ClausesP_below Hbwr.out Hc.out) hx
          have hst := clErr_drop (ar := ar) hx
          rw [← HZk.out] at hst
          have HG := hide (checkLiterals_any ar ga gcap c ca cc wr Hsig.out (Ints_below Hbwr.out Hg.out) (Hcl.out c (List.mem_of_getElem? hx)) hlc)
          obtain ⟨F, hF⟩ : ∃ F, F = clauseErr ar c := ⟨_, rfl⟩
          rw [← hF] at HG hst
          have Hst := hide hst
          have hkI : (k : Int) < cs.length := by omega
          have hk0 : (0 : Int) ≤ k := by omega
          clear hst hF hx hlc HZk
          go_wp2_with fail
          refine HG.out.mono ?_
          rintro e w2 ⟨rfl, hb2⟩
          have Hb2 := hide (Hbr.out.trans (hb2.mono Hbr.out.size))
          have Hbf := hide (Hbwr.out.trans (hb2.mono Hbwr.out.size))
          clear hb2 HG
          by_cases hF0 : F = 0
          · have Hs2 : Hid (Z = clErr ar (cs.drop (k + 1))) := by show _ = _; rw [Hst.out, if_pos hF0]
            subst hF0
            clear Hst
            go_wp2_with fail
            go_roundw
            case rel => exact ⟨k + 1, by omega, by go_num, Hs2, Hb2⟩
            case measure => simp [intOf]; omega
          · have hFb : (F != 0) = true := by simpa using hF0
            obtain rfl : Z = F := by rw [Hst.out, if_neg hF0]
            clear Hst hF0
            go_wp2_with fail
            go_ret
            exact ⟨rfl, Hbf.out⟩
        · have hk2 : k = cs.length := by omega
          subst hk2
          obtain rfl : Z = 0 := by rw [HZk.out, List.drop_length]; rfl
          clear HZk
          go_wp2_with fail
          go_ret
          exact ⟨rfl, Hbwr.out⟩
  · have h0b : (E != 0) = true := by simpa using h0
    obtain rfl : Z = E := by rw [HZ.out, clausesErr, if_neg (fun h => h0 (HE.out.trans h)), HE.out]
    clear HZ HE h0
    go_wp2_with fail
    go_ret
    exact ⟨rfl, Hbw.out⟩
end Go.Proofs.YtbkedppkdhfpoabGreat

namespace Go.Proofs.YtbkedppkdhfpoabGreat
open Go.RowKit
structure Inf where
  kind : Int
  left : Int
  right : Int
  la : Int
  ra : Int
  lt : Bool
  rt : Bool
  place : List Int
abbrev infV (i : Inf) (pa : Option Addr) (pc : Nat) : Value := .agg #[.int .i64 i.kind, .int .i64 i.left, .int .i64 i.right, .int .i64 i.la, .int .i64 i.ra, .bool i.lt, .bool i.rt, .slice pa i.place.length pc]
structure I8 (w : World) (b : Nat) (i : Inf) (pa : Option Addr) (pc : Nat) : Prop where
  e0 : w.cell? ⟨b, 0, none⟩ = some (.int .i64 i.kind)
  e1 : w.cell? ⟨b, 1, none⟩ = some (.int .i64 i.left)
  e2 : w.cell? ⟨b, 2, none⟩ = some (.int .i64 i.right)
  e3 : w.cell? ⟨b, 3, none⟩ = some (.int .i64 i.la)
  e4 : w.cell? ⟨b, 4, none⟩ = some (.int .i64 i.ra)
  e5 : w.cell? ⟨b, 5, none⟩ = some (.bool i.lt)
  e6 : w.cell? ⟨b, 6, none⟩ = some (.bool i.rt)
  e7 : w.cell? ⟨b, 7, none⟩ = some (.slice pa i.place.length pc)
theorem I8.below {w w' : World} {b : Nat} {i : Inf} {pa : Option Addr} {pc : Nat} (h : I8 w b i pa pc) (hb : Below w.heap.size w w') : I8 w' b i pa pc :=
  ⟨cellB hb h.e0, cellB hb h.e1, cellB hb h.e2, cellB hb h.e3, cellB hb h.e4, cellB hb h.e5, cellB hb h.e6, cellB hb h.e7⟩
theorem I8.new {w : World} {i : Inf} {pa : Option Addr} {pc n : Nat} (e : TypeId) (hn : n = w.heap.size) : I8 (w.alloc (.cells #[.int .i64 i.kind, .int .i64 i.left, .int .i64 i.right, .int .i64 i.la, .int .i64 i.ra, .bool i.lt, .bool i.rt, .slice pa i.place.length pc] e)) n i pa pc :=
  ⟨cell_new 0 hn, cell_new 1 hn, cell_new 2 hn, cell_new 3 hn, cell_new 4 hn, cell_new 5 hn, cell_new 6 hn, cell_new 7 hn⟩
def hasN (n : Int) (l : Nat) : Bool := decide (0 ≤ n ∧ n < (l : Int))
attribute [local go_sem ↓] Go.wp_at_zero Go.wp_at_succ
set_option maxRecDepth 100000 in
theorem hasC_any (a : Option Addr) (l cap : Nat) (n : Int) (w : World) : Calls Tryz.prog 84 #[.slice a l cap, .int .i64 n] w fun e w' => e = .returned (.bool (hasN n l)) ∧ w' = w := by
  go_enter Tryz.func84, Tryz.ntmps84
  by_cases h : 0 ≤ n
  · by_cases h2 : n < (l : Int)
    · go_wp2_with fail
      go_ret
      exact ⟨ret_bool (by rw [hasN]; simp [h, h2]), rfl⟩
    · go_wp2_with fail
      go_ret
      exact ⟨ret_bool (by rw [hasN]; simp [h, h2]), rfl⟩
  · go_wp2_with fail
    go_ret
    exact ⟨ret_bool (by rw [hasN]; exact (decide_eq_false (by omega)).symm), rfl⟩
set_option maxRecDepth 100000 in
theorem hasL_any (a : Option Addr) (l cap : Nat) (n : Int) (w : World) : Calls Tryz.prog 174 #[.slice a l cap, .int .i64 n] w fun e w' => e = .returned (.bool (hasN n l)) ∧ w' = w := by
  go_enter Tryz.func174, Tryz.ntmps174
  by_cases h : 0 ≤ n
  · by_cases h2 : n < (l : Int)
    · go_wp2_with fail
      go_ret
      exact ⟨ret_bool (by rw [hasN]; simp [h, h2]), rfl⟩
    · go_wp2_with fail
      go_ret
      exact ⟨ret_bool (by rw [hasN]; simp [h, h2]), rfl⟩
  · go_wp2_with fail
    go_ret
    exact ⟨ret_bool (by rw [hasN]; exact (decide_eq_false (by omega)).symm), rfl⟩
def spareS (i : Inf) : Bool := if i.kind = 1 then (i.right == 0) && (i.ra == 0) && !i.lt && !i.rt && ((i.place.length : Int) == 0) else if i.kind = 2 then (i.right == 0) && ((i.place.length : Int) == 0) else true
set_option maxRecDepth 100000 in
set_option maxHeartbeats 1000000 in
theorem spare_any (i : Inf) (pa : Option Addr) (pc : Nat) (w : World) : Calls Tryz.prog 133 #[infV i pa pc] w fun e w' => e = .returned (.bool (spareS i)) ∧ Below w.heap.size w w' := by
  have Hb := hide (fun o => below1 w o)
  go_enter Tryz.func133, Tryz.ntmps133
  by_cases h1 : i.kind = 1
  · have e1 : (i.kind == 1) = true := by simpa using h1
    by_cases h2 : i.right = 0
    · have e2 : (i.right == 0) = true := by simpa using h2
      by_cases h3 : i.ra = 0
      · have e3 : (i.ra == 0) = true := by simpa using h3
        cases h4 : i.lt with
        | true =>
          go_wp2_with fail
          go_ret
          exact ⟨ret_bool (by rw [spareS, if_pos h1, e2, e3, h4]; rfl), Hb.out _⟩
        | false =>
          cases h5 : i.rt with
          | true =>
            go_wp2_with fail
            go_ret
            exact ⟨ret_bool (by rw [spareS, if_pos h1, e2, e3, h4, h5]; rfl), Hb.out _⟩
          | false =>
            go_wp2_with fail
            go_ret
            exact ⟨ret_bool (by rw [spareS, if_pos h1, e2, e3, h4, h5]; rfl), Hb.out _⟩
      · have e3 : (i.ra == 0) = false := by simpa using h3
        go_wp2_with fail
        go_ret
        exact ⟨ret_bool (by rw [spareS, if_pos h1, e2, e3]; rfl), Hb.out _⟩
    · have e2 : (i.right == 0) = false := by simpa using h2
      go_wp2_with fail
      go_ret
      exact ⟨ret_bool (by rw [spareS, if_pos h1, e2]; rfl), Hb.out _⟩
  · have e1 : (i.kind == 1) = false := by simpa using h1
    by_cases h6 : i.kind = 2
    · have e6 : (i.kind == 2) = true := by simpa using h6
      by_cases h2 : i.right = 0
      · have e2 : (i.right == 0) = true := by simpa using h2
        go_wp2_with fail
        go_ret
        exact ⟨ret_bool (by rw [spareS, if_neg h1, if_pos h6, e2]; rfl), Hb.out _⟩
      · have e2 : (i.right == 0) = false := by simpa using h2
        go_wp2_with fail
        go_ret
        exact ⟨ret_bool (by rw [spareS, if_neg h1, if_pos h6, e2]; rfl), Hb.out _⟩
    · have e6 : (i.kind == 2) = false := by simpa using h6
      go_wp2_with fail
      go_ret
      exact ⟨ret_bool (by rw [spareS, if_neg h1, if_neg h6]), Hb.out _⟩
end Go.Proofs.YtbkedppkdhfpoabGreat
