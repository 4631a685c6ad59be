/- Two parts of one function: what their arguments tell. What the program's order asks of two parts, and keeps in its table. The program's order of two terms. The program's Greater and Compare. The program's own check of bindings. -/
import Derived.BigQuiet
import Derived.Deep.DrawnRows
import Derived.Deep.RegionHeld3
import Derived.Test.YtbkedppkdhfpoabGreatJoined9
namespace Go.Proofs.YtbkedppkdhfpoabGreat
open Go.RowKit

/-- The parts behind one of them, as the program cuts them off. -/
theorem tailP {b : TB} {w : World} {ts : List T} {n bb off cap k : Nat} (h : PL b.q b.q w ts n (some ⟨bb, off, none⟩)) (hc : ts.length ≤ cap) (hk : k < ts.length) :
    ∃ pa, (∀ w' : World, (Instr.slice 302 (.slice (some ⟨bb, off, none⟩) ts.length cap) (some (.int .i64 ((k : Int) + 1))) none none).run Tryz.prog w' = .ok (.slice pa (ts.drop (k + 1)).length (cap - (k + 1))) w') ∧ PL b.q b.q w (ts.drop (k + 1)) (n + T.sz.szL (ts.take (k + 1))) pa := by
  have ht : Tryz.prog.underlying 302 = some (.slice (Tryz.prog.elem 302)) := by kernel_rfl
  have hsz : ∀ w : World, (sizeOf (Tryz.prog.elem 302)).run Tryz.prog w = .ok 5 w := fun w => by kernel_rfl
  have hrun := fun w' : World => run_slice_l (P := Tryz.prog) w' 302 (some ⟨bb, off, none⟩) ts.length cap ht .i64 ((k : Int) + 1) (by omega) (by omega)
  have hN : ((k : Int) + 1).toNat = k + 1 := by omega
  by_cases h1 : cap = k + 1
  · have hl : ts.length = k + 1 := by omega
    have hd : ts.drop (k + 1) = [] := by rw [← hl, List.drop_length]
    refine ⟨some ⟨bb, off, none⟩, fun w' => ?_, by rw [hd]; exact PL_nil⟩
    rw [hrun w', hsz, hN, hd]
    simp [sliced, h1, hl]
  · refine ⟨some ⟨bb, off + (k + 1) * 5, none⟩, fun w' => ?_, PL_drop h⟩
    rw [hrun w', hsz, hN, List.length_drop]
    simp [sliced, h1, Addr.add]

theorem kt_drew (b : TB) (w : World) : KT b w w.drew := ⟨rfl, rfl, rfl, Nat.le_refl _, fun _ _ _ => rfl⟩
theorem gs_drew (b : TB) (n : Nat) (w : World) : GS b n w w.drew := GS.of_below ⟨rfl, rfl, rfl, Nat.le_refl _, fun _ _ => rfl⟩
theorem KT.cell {b : TB} {w w' : World} (h : KT b w w') {k j : Nat} {v : Value} (hk : k ≠ b.K) (hv : w.cell? ⟨k, j, none⟩ = some v) : w'.cell? ⟨k, j, none⟩ = some v := by
  rw [World.cell?_of_block (w := w) (a := ⟨k, j, none⟩) (h.block k (lt_of_cell hv) hk)]; exact hv
theorem KT.five {b : TB} {w w' : World} (h : KT b w w') {k o : Nat} {v0 v1 v2 v3 v4 : Value} (hk : k ≠ b.K) (hv : Five w k o v0 v1 v2 v3 v4) : Five w' k o v0 v1 v2 v3 v4 := hv.same (h.block k hv.lt hk)

attribute [local go_sem ↓] Go.wp_at_zero Go.wp_at_succ
set_option maxRecDepth 100000 in
set_option maxHeartbeats 4000000 in
theorem askArgs_any (b : TB) (n : Nat) (hup : IsUp b n) (s : T) (i : Nat) (t : T) (j : Nat) (sa : Option Addr) (sc : Nat) (spa : Option Addr) (spc : Nat) (ta : Option Addr) (tc : Nat) (tpa : Option Addr) (tpc : Nat) (w : World) (hn : s.sz + t.sz ≤ n + 1) (h0 : s.v = 0) (h1 : t.v = 0) (hf : s.f = t.f) (hs : PA b b.PS w s i sa spa spc) (ht : PA b b.PT w t j ta tpa tpc) (htab : TabOK b n w) :
    Calls Tryz.prog 312 #[tv b, pv s i sa sc spa spc, pv t j ta tc tpa tpc] w fun e w' => e = .returned (.int .i8 (cmpS s t)) ∧ GS b n w w' := by
  have hKl := htab.lt
  have Hup := hide hup
  have h1000 : s.args.length ≤ 1000 := by have := T.length_le s.args; have := T.sz_eq s; have := hs.sz; omega
  have Hlen := hide (same_arity hs.ok ht.ok h0 h1 hf)
  have HC := hide (fun (k : Nat) (a c : T) (ha : s.args[k]? = some a) (hc : t.args[k]? = some c) (hp : ∀ i, i < k → s.args[i]? = t.args[i]?) (h : gt a c = true) => cmp_more hs.ok ht.ok h0 h1 hf ha hc hp h)
  have HD := hide (fun (k : Nat) (a c : T) (ha : s.args[k]? = some a) (hc : t.args[k]? = some c) (hp : ∀ i, i < k → s.args[i]? = t.args[i]?) (hne : a ≠ c) (h : gt a c = false) => cmp_less hs.ok ht.ok h0 hf ha hc hp hne h)
  have HE := hide (fun (h : s.args = t.args) => cmp_same hs.ok h0 h1 hf h)
  obtain ⟨Z, hZ⟩ : ∃ Z, Z = cmpS s t := ⟨_, rfl⟩
  rw [← hZ] at HC HD HE ⊢
  obtain ⟨W3, hW3⟩ : ∃ W3, W3 = ((w.alloc (.cells #[.slice (some ⟨b.K, 0, none⟩) (b.R * b.C) (b.R * b.C), .int .i64 (b.C : Int)] 309)).alloc (.cells #[.int .i64 s.v, .int .i64 s.f, .slice sa s.args.length sc, .int .i64 (i : Int), .slice spa s.args.length spc] 304)).alloc (.cells #[.int .i64 t.v, .int .i64 t.f, .slice ta t.args.length tc, .int .i64 (j : Int), .slice tpa t.args.length tpc] 304) := ⟨_, rfl⟩
  have hb3 : Below w.heap.size w W3 := by rw [hW3]; exact ((below1 _ _).alloc (by simp) _).alloc (by simp; omega) _
  have hz3 : W3.heap.size = w.heap.size + 3 := by rw [hW3]; simp
  have s1 : ∀ o, (w.alloc o).heap.size = w.heap.size + 1 := fun o => World.size_alloc _ _
  have s2 : ∀ o o', ((w.alloc o).alloc o').heap.size = w.heap.size + 1 + 1 := fun o o' => by rw [World.size_alloc, s1]
  have hk0 : W3.cell? ⟨w.heap.size, 0, none⟩ = some (.slice (some ⟨b.K, 0, none⟩) (b.R * b.C) (b.R * b.C)) := by rw [hW3, cell_alloc_lt (by rw [s2]; omega), cell_alloc_lt (by rw [s1]; omega), cell_new 0 rfl]; rfl
  have hk1 : W3.cell? ⟨w.heap.size, 1, none⟩ = some (.int .i64 (b.C : Int)) := by rw [hW3, cell_alloc_lt (by rw [s2]; omega), cell_alloc_lt (by rw [s1]; omega), cell_new 1 rfl]; rfl
  have h5s : Five W3 (w.heap.size + 1) 0 (.int .i64 s.v) (.int .i64 s.f) (.slice sa s.args.length sc) (.int .i64 (i : Int)) (.slice spa s.args.length spc) := by
    rw [hW3]
    refine (Five.of_heap (e := 304) (fr := (0, 0)) ?_).same (Below.heap_alloc _ _ _ (by rw [s2]; omega))
    have h9 := heap_alloc_new (w.alloc (.cells #[.slice (some ⟨b.K, 0, none⟩) (b.R * b.C) (b.R * b.C), .int .i64 (b.C : Int)] 309)) (.cells #[.int .i64 s.v, .int .i64 s.f, .slice sa s.args.length sc, .int .i64 (i : Int), .slice spa s.args.length spc] 304)
    rw [s1] at h9
    exact h9
  have h5t : Five W3 (w.heap.size + 1 + 1) 0 (.int .i64 t.v) (.int .i64 t.f) (.slice ta t.args.length tc) (.int .i64 (j : Int)) (.slice tpa t.args.length tpc) := by
    rw [hW3]
    refine Five.of_heap (e := 304) (fr := (0, 0)) ?_
    have h9 := heap_alloc_new ((w.alloc (.cells #[.slice (some ⟨b.K, 0, none⟩) (b.R * b.C) (b.R * b.C), .int .i64 (b.C : Int)] 309)).alloc (.cells #[.int .i64 s.v, .int .i64 s.f, .slice sa s.args.length sc, .int .i64 (i : Int), .slice spa s.args.length spc] 304)) (.cells #[.int .i64 t.v, .int .i64 t.f, .slice ta t.args.length tc, .int .i64 (j : Int), .slice tpa t.args.length tpc] 304)
    rw [s2] at h9
    exact h9
  have hF := hide (fun (w' : World) (hk : KT b W3 w') => (show w'.cell? ⟨w.heap.size, 0, none⟩ = some (.slice (some ⟨b.K, 0, none⟩) (b.R * b.C) (b.R * b.C)) ∧ w'.cell? ⟨w.heap.size, 1, none⟩ = some (.int .i64 (b.C : Int)) ∧ Five w' (w.heap.size + 1) 0 (.int .i64 s.v) (.int .i64 s.f) (.slice sa s.args.length sc) (.int .i64 (i : Int)) (.slice spa s.args.length spc) ∧ Five w' (w.heap.size + 1 + 1) 0 (.int .i64 t.v) (.int .i64 t.f) (.slice ta t.args.length tc) (.int .i64 (j : Int)) (.slice tpa t.args.length tpc) from
    ⟨hk.cell (by omega) hk0, hk.cell (by omega) hk1, hk.five (by omega) h5s, hk.five (by omega) h5t⟩))
  have HW3 := hide hW3
  have Hb3 := hide hb3
  have Hz3 := hide hz3
  have hq4 : W3.cell? ⟨w.heap.size + 1, 4, none⟩ = some (.slice spa s.args.length spc) := h5s.2.2.2.2
  clear hup hW3 hk0 hk1 h5s h5t hZ s1 s2 h0 h1 hf hb3 hz3
  go_enter Tryz.func312, Tryz.ntmps312
  go_wp2_with fail
  rw [← HW3.out]
  go_loopw [12] (fun iv wr => ∃ k : Nat, k ≤ s.args.length ∧ iv = .int .i64 k ∧ Hid (∀ i', i' < k → s.args[i']? = t.args[i']?) ∧ GS b n W3 wr) (fun iv _ => s.args.length - (intOf iv).toNat)
  case atStart => exact ⟨0, Nat.zero_le _, rfl, fun i' hi => by omega, GS.refl _ _ _⟩
  case round =>
    obtain ⟨k, hk, rfl, HL, hg⟩ := hrel
    have hgw : GS b n w wr := (GS.of_below Hb3.out).trans hg
    have hzr : w.heap.size + 3 ≤ wr.heap.size := by have := hg.kt.size; have := Hz3.out; omega
    by_cases hlt : k < s.args.length
    · have hlt2 : k < t.args.length := by have := Hlen.out; omega
      obtain ⟨a, ha⟩ : ∃ a, s.args[k]? = some a := ⟨s.args[k], List.getElem?_eq_getElem hlt⟩
      obtain ⟨c, hc⟩ : ∃ c, t.args[k]? = some c := ⟨t.args[k], List.getElem?_eq_getElem hlt2⟩
      obtain ⟨hasz, bb, off, rfl, hqa, m, aa, ac, apa, apc, h5a, hpa⟩ := (hs.kt hgw.kt).arg ha
      obtain ⟨hcsz, bc, offc, rfl, hqc, mc, ca, cc, cpa, cpc, h5c, hpc⟩ := (ht.kt hgw.kt).arg hc
      obtain ⟨a0, a1, a2, a3, a4⟩ := h5a
      have hba := lt_of_cell a0
      have hkI : (k : Int) < s.args.length := by omega
      have hkJ : (k : Int) < t.args.length := by omega
      have hkN : (0 : Int) ≤ k := by omega
      have hk3 : k ≤ 1000 := by omega
      have hkA : KT b wr (wr.alloc (.cells #[.int .i64 a.v, .int .i64 a.f, .slice aa a.args.length ac, .int .i64 (m : Int), .slice apa a.args.length apc] 304)) := KT.of_below (below1 wr (.cells #[.int .i64 a.v, .int .i64 a.f, .slice aa a.args.length ac, .int .i64 (m : Int), .slice apa a.args.length apc] 304))
      have hG := hide (fun (w' : World) (hk' : KT b (wr.alloc (.cells #[.int .i64 a.v, .int .i64 a.f, .slice aa a.args.length ac, .int .i64 (m : Int), .slice apa a.args.length apc] 304)) w') => (show w'.cell? ⟨w.heap.size, 0, none⟩ = some (.slice (some ⟨b.K, 0, none⟩) (b.R * b.C) (b.R * b.C)) ∧ w'.cell? ⟨w.heap.size, 1, none⟩ = some (.int .i64 (b.C : Int)) ∧
          w'.cell? ⟨wr.heap.size, 0, none⟩ = some (.int .i64 a.v) ∧ w'.cell? ⟨wr.heap.size, 1, none⟩ = some (.int .i64 a.f) ∧ w'.cell? ⟨wr.heap.size, 2, none⟩ = some (.slice aa a.args.length ac) ∧ w'.cell? ⟨wr.heap.size, 3, none⟩ = some (.int .i64 (m : Int)) ∧ w'.cell? ⟨wr.heap.size, 4, none⟩ = some (.slice apa a.args.length apc) ∧ w'.cell? ⟨w.heap.size + 1 + 1, 4, none⟩ = some (.slice (some ⟨bc, offc, none⟩) t.args.length tpc) ∧
          w'.cell? ⟨bc, offc + k * 5, none⟩ = some (.int .i64 c.v) ∧ w'.cell? ⟨bc, offc + k * 5 + 1, none⟩ = some (.int .i64 c.f) ∧ w'.cell? ⟨bc, offc + k * 5 + 2, none⟩ = some (.slice ca c.args.length cc) ∧ w'.cell? ⟨bc, offc + k * 5 + 3, none⟩ = some (.int .i64 (mc : Int)) ∧ w'.cell? ⟨bc, offc + k * 5 + 4, none⟩ = some (.slice cpa c.args.length cpc) from by
        obtain ⟨f1, f2, _, ft⟩ := hF.out w' ((hg.kt.trans hkA).trans hk')
        have h5n : Five (wr.alloc (.cells #[.int .i64 a.v, .int .i64 a.f, .slice aa a.args.length ac, .int .i64 (m : Int), .slice apa a.args.length apc] 304)) wr.heap.size 0 (.int .i64 a.v) (.int .i64 a.f) (.slice aa a.args.length ac) (.int .i64 (m : Int)) (.slice apa a.args.length apc) := Five.of_heap (heap_alloc_new wr _)
        obtain ⟨z0, z1, z2, z3, z4⟩ := hk'.five (by omega) h5n
        obtain ⟨y0, y1, y2, y3, y4⟩ := (hkA.trans hk').five hqc h5c
        exact ⟨f1, f2, z0, z1, z2, z3, z4, ft.2.2.2.2, y0, y1, y2, y3, y4⟩))
      have hnn : a.sz + c.sz ≤ n := by omega
      have HI := hide (fun (w' : World) (hk' : KT b (wr.alloc (.cells #[.int .i64 a.v, .int .i64 a.f, .slice aa a.args.length ac, .int .i64 (m : Int), .slice apa a.args.length apc] 304)) w') (ht' : TabOK b n w') => Hup.out a m c mc aa ac apa apc ca cc cpa cpc w' hnn (hpa.kt (hkA.trans hk')) (hpc.kt (hkA.trans hk')) (ht'.mono hnn))
      have HT : Hid (TabOK b n (wr.alloc (.cells #[.int .i64 a.v, .int .i64 a.f, .slice aa a.args.length ac, .int .i64 (m : Int), .slice apa a.args.length apc] 304))) := (htab.gs hgw).gs (GS.of_below (below1 wr (.cells #[.int .i64 a.v, .int .i64 a.f, .slice aa a.args.length ac, .int .i64 (m : Int), .slice apa a.args.length apc] 304)))
      have Ha := hide ha
      have Hc := hide hc
      have Hg := hide (hg.trans (GS.of_below (below1 wr (.cells #[.int .i64 a.v, .int .i64 a.f, .slice aa a.args.length ac, .int .i64 (m : Int), .slice apa a.args.length apc] 304))))
      have Hgw := hide hgw
      have Hca := hide (show cmpS a c = 1 → gt a c = true from fun h => cmpS_one.1 h)
      have Hcb := hide (show cmpS a c = 2 → a = c from fun h => (cmpS_two hpa.ok).1 h)
      have Hcc := hide (show cmpS a c = 3 → a ≠ c ∧ gt a c = false from fun h => cmpS_is3 hpa.ok h)
      have Hcr := hide (cmpS_range a c)
      obtain ⟨z, hz⟩ : ∃ z, z = cmpS a c := ⟨_, rfl⟩
      rw [← hz] at HI Hca Hcb Hcc Hcr
      have hG1 := hide (hG.out (wr.alloc (.cells #[.int .i64 a.v, .int .i64 a.f, .slice aa a.args.length ac, .int .i64 (m : Int), .slice apa a.args.length apc] 304)).drew (kt_drew b _))
      have hG0 := hide (hG.out (wr.alloc (.cells #[.int .i64 a.v, .int .i64 a.f, .slice aa a.args.length ac, .int .i64 (m : Int), .slice apa a.args.length apc] 304)) (KT.refl _ _))
      have HI1 := hide (HI.out (wr.alloc (.cells #[.int .i64 a.v, .int .i64 a.f, .slice aa a.args.length ac, .int .i64 (m : Int), .slice apa a.args.length apc] 304)).drew (kt_drew b _) (HT.out.gs (gs_drew b n _)))
      have hbal : bb < wr.heap.size := hba
      clear hpa hpc h5c ha hc hg hgw hz hkA
      go_wp2_with fail
      go_region_held3 (fun w' => w'.cell? ⟨w.heap.size, 0, none⟩ = some (.slice (some ⟨b.K, 0, none⟩) (b.R * b.C) (b.R * b.C)) ∧ w'.cell? ⟨w.heap.size, 1, none⟩ = some (.int .i64 (b.C : Int)) ∧
          w'.cell? ⟨wr.heap.size, 0, none⟩ = some (.int .i64 a.v) ∧ w'.cell? ⟨wr.heap.size, 1, none⟩ = some (.int .i64 a.f) ∧ w'.cell? ⟨wr.heap.size, 2, none⟩ = some (.slice aa a.args.length ac) ∧ w'.cell? ⟨wr.heap.size, 3, none⟩ = some (.int .i64 (m : Int)) ∧ w'.cell? ⟨wr.heap.size, 4, none⟩ = some (.slice apa a.args.length apc) ∧ w'.cell? ⟨w.heap.size + 1 + 1, 4, none⟩ = some (.slice (some ⟨bc, offc, none⟩) t.args.length tpc) ∧
          w'.cell? ⟨bc, offc + k * 5, none⟩ = some (.int .i64 c.v) ∧ w'.cell? ⟨bc, offc + k * 5 + 1, none⟩ = some (.int .i64 c.f) ∧ w'.cell? ⟨bc, offc + k * 5 + 2, none⟩ = some (.slice ca c.args.length cc) ∧ w'.cell? ⟨bc, offc + k * 5 + 3, none⟩ = some (.int .i64 (mc : Int)) ∧ w'.cell? ⟨bc, offc + k * 5 + 4, none⟩ = some (.slice cpa c.args.length cpc)) ((first | with_reducible exact hG.out _ (Hid.out Hk4) | with_reducible exact hG1.out | with_reducible exact hG0.out | go_keep)) ((
        go_at_call 266
        refine HI1.out.mono ?_
        rintro e w4 ⟨rfl, hg4⟩
        have Hg4 : Hid (GS b n (wr.alloc (.cells #[.int .i64 a.v, .int .i64 a.f, .slice aa a.args.length ac, .int .i64 (m : Int), .slice apa a.args.length apc] 304)) w4) := (gs_drew b n _).trans (hg4.mono hnn)
        have Hk4 : Hid (KT b (wr.alloc (.cells #[.int .i64 a.v, .int .i64 a.f, .slice aa a.args.length ac, .int .i64 (m : Int), .slice apa a.args.length apc] 304)) w4) := Hg4.out.kt))
      have HgA := hide (Hg.out.trans Hg4.out)
      have HT4 : Hid (TabOK b n w4) := (htab.gs (GS.of_below Hb3.out)).gs HgA.out
      have Hkw := hide ((KT.of_below (b := b) Hb3.out).trans HgA.out.kt)
      have hsl0 : True := trivial
      have hwr : IntKind.i64.wrap ((k : Int) + 1) = (k : Int) + 1 := wrap_ok _ (by omega) (by omega)
      rcases Hcr.out with hz | hz | hz
      · have Hgt := hide (Hca.out hz)
        subst hz
        obtain ⟨pa', hsl, hpl'⟩ := tailP ht.pl ht.cap hlt2
        have Hfin := hide (HC.out k a c Ha.out Hc.out HL.out Hgt.out)
        have hsbT := ht.sub.drop (k + 1)
        have HA := hide (fun (w' : World) (hk' : KT b w4 w') (ht' : TabOK b n w') => above_any b n Hup.out s i sa sc (some ⟨bb, off, none⟩) spc (t.args.drop (k + 1)) _ pa' (tpc - (k + 1)) w' (fun x hx => by
          have hx' := List.mem_of_mem_drop hx
          have h9 := arg_sz hx'
          have h8 := ht.sz
          exact ⟨okArg ht.ok hx', by omega, by omega⟩) (by rw [List.length_drop]; have := Hlen.out; omega) (PL_kt (Hkw.out.trans hk') hpl') hsbT (hs.kt (Hkw.out.trans hk')) ht')
        have hG6 := hide (fun (w' : World) (hk' : KT b w4 w') => (show w'.cell? ⟨w.heap.size, 0, none⟩ = some (.slice (some ⟨b.K, 0, none⟩) (b.R * b.C) (b.R * b.C)) ∧ w'.cell? ⟨w.heap.size, 1, none⟩ = some (.int .i64 (b.C : Int)) ∧ w'.cell? ⟨w.heap.size + 1, 0, none⟩ = some (.int .i64 s.v) ∧ w'.cell? ⟨w.heap.size + 1, 1, none⟩ = some (.int .i64 s.f) ∧ w'.cell? ⟨w.heap.size + 1, 2, none⟩ = some (.slice sa s.args.length sc) ∧ w'.cell? ⟨w.heap.size + 1, 3, none⟩ = some (.int .i64 (i : Int)) ∧ w'.cell? ⟨w.heap.size + 1, 4, none⟩ = some (.slice (some ⟨bb, off, none⟩) s.args.length spc) ∧ w'.cell? ⟨w.heap.size + 1 + 1, 4, none⟩ = some (.slice (some ⟨bc, offc, none⟩) t.args.length tpc) from by
          obtain ⟨f1, f2, ⟨s0, s1, s2, s3, s4⟩, ⟨t0, t1, t2, t3, t4⟩⟩ := hF.out w' (HgA.out.kt.trans hk')
          exact ⟨f1, f2, s0, s1, s2, s3, s4, t4⟩))
        obtain ⟨R, hR⟩ : ∃ R : Int, R = Z := ⟨_, rfl⟩
        have HR := hide hR
        rw [Hfin.out] at hR
        rw [← hR] at HA
        have HA1 := hide (HA.out w4.drew (kt_drew b _) (HT4.out.gs (gs_drew b n _)))
        rw [List.length_drop] at HA1
        have hG7 := hide (hG6.out w4.drew (kt_drew b _))
        have hG8 := hide (hG6.out w4 (KT.refl _ _))
        clear hR hG hG0 hG1 Hcr HI HI1 HT hsl0 HA
        go_wp2_with fail
        go_region_held3 (fun w' => w'.cell? ⟨w.heap.size, 0, none⟩ = some (.slice (some ⟨b.K, 0, none⟩) (b.R * b.C) (b.R * b.C)) ∧ w'.cell? ⟨w.heap.size, 1, none⟩ = some (.int .i64 (b.C : Int)) ∧ w'.cell? ⟨w.heap.size + 1, 0, none⟩ = some (.int .i64 s.v) ∧ w'.cell? ⟨w.heap.size + 1, 1, none⟩ = some (.int .i64 s.f) ∧ w'.cell? ⟨w.heap.size + 1, 2, none⟩ = some (.slice sa s.args.length sc) ∧ w'.cell? ⟨w.heap.size + 1, 3, none⟩ = some (.int .i64 (i : Int)) ∧ w'.cell? ⟨w.heap.size + 1, 4, none⟩ = some (.slice (some ⟨bb, off, none⟩) s.args.length spc) ∧ w'.cell? ⟨w.heap.size + 1 + 1, 4, none⟩ = some (.slice (some ⟨bc, offc, none⟩) t.args.length tpc)) ((first | with_reducible exact hG6.out _ (Hid.out Hk5) | with_reducible exact hG7.out | with_reducible exact hG8.out | go_keep)) ((
          go_at_call 311
          refine HA1.out.mono ?_
          rintro e w5 ⟨rfl, hg5⟩
          have Hg5 : Hid (GS b n w4 w5) := (gs_drew b n _).trans hg5
          have Hk5 : Hid (KT b w4 w5) := Hg5.out.kt))
        go_wp2_with fail
        go_ret
        exact ⟨ret_int HR.out, (GS.of_below Hb3.out).trans (HgA.out.trans Hg5.out)⟩
      · have Heq := hide (Hcb.out hz)
        subst hz
        clear hG hG0 hG1 Hcr HI HI1 HT hsl0
        go_wp2_with fail
        go_roundw
        case rel => exact ⟨k + 1, by omega, by go_num, fun i' hi => by
            rcases Nat.lt_or_ge i' k with h9 | h9
            · exact HL.out i' h9
            · have : i' = k := by omega
              subst this
              rw [Ha.out, Hc.out, Heq.out], HgA.out⟩
        case measure => simp [intOf]; omega
      · have Hgt := hide (Hcc.out hz)
        subst hz
        obtain ⟨pa', hsl, hpl'⟩ := tailP hs.pl hs.cap hlt
        have Hfin := hide (HD.out k a c Ha.out Hc.out HL.out Hgt.out.1 Hgt.out.2)
        have hsbS := hs.sub.drop (k + 1)
        have HA := hide (fun (w' : World) (hk' : KT b w4 w') (ht' : TabOK b n w') => byArg_any b n Hup.out (s.args.drop (k + 1)) _ pa' (spc - (k + 1)) t j ta tc (some ⟨bc, offc, none⟩) tpc w' (fun x hx => by
          have hx' := List.mem_of_mem_drop hx
          have h9 := arg_sz hx'
          have h8 := hs.sz
          exact ⟨okArg hs.ok hx', by omega, by omega⟩) (by rw [List.length_drop]; omega) (PL_kt (Hkw.out.trans hk') hpl') hsbS (ht.kt (Hkw.out.trans hk')) ht')
        have hG6 := hide (fun (w' : World) (hk' : KT b w4 w') => (show w'.cell? ⟨w.heap.size, 0, none⟩ = some (.slice (some ⟨b.K, 0, none⟩) (b.R * b.C) (b.R * b.C)) ∧ w'.cell? ⟨w.heap.size, 1, none⟩ = some (.int .i64 (b.C : Int)) ∧ w'.cell? ⟨w.heap.size + 1, 4, none⟩ = some (.slice (some ⟨bb, off, none⟩) s.args.length spc) ∧ w'.cell? ⟨w.heap.size + 1 + 1, 0, none⟩ = some (.int .i64 t.v) ∧ w'.cell? ⟨w.heap.size + 1 + 1, 1, none⟩ = some (.int .i64 t.f) ∧ w'.cell? ⟨w.heap.size + 1 + 1, 2, none⟩ = some (.slice ta t.args.length tc) ∧ w'.cell? ⟨w.heap.size + 1 + 1, 3, none⟩ = some (.int .i64 (j : Int)) ∧ w'.cell? ⟨w.heap.size + 1 + 1, 4, none⟩ = some (.slice (some ⟨bc, offc, none⟩) t.args.length tpc) from by
          obtain ⟨f1, f2, ⟨s0, s1, s2, s3, s4⟩, ⟨t0, t1, t2, t3, t4⟩⟩ := hF.out w' (HgA.out.kt.trans hk')
          exact ⟨f1, f2, s4, t0, t1, t2, t3, t4⟩))
        obtain ⟨R, hR⟩ : ∃ R : Int, R = Z := ⟨_, rfl⟩
        have HR := hide hR
        rw [Hfin.out] at hR
        rw [← hR] at HA
        have HA1 := hide (HA.out w4.drew (kt_drew b _) (HT4.out.gs (gs_drew b n _)))
        rw [List.length_drop] at HA1
        have hG7 := hide (hG6.out w4.drew (kt_drew b _))
        have hG8 := hide (hG6.out w4 (KT.refl _ _))
        clear hR hG hG0 hG1 Hcr HI HI1 HT hsl0 HA
        go_wp2_with fail
        go_region_held3 (fun w' => w'.cell? ⟨w.heap.size, 0, none⟩ = some (.slice (some ⟨b.K, 0, none⟩) (b.R * b.C) (b.R * b.C)) ∧ w'.cell? ⟨w.heap.size, 1, none⟩ = some (.int .i64 (b.C : Int)) ∧ w'.cell? ⟨w.heap.size + 1, 4, none⟩ = some (.slice (some ⟨bb, off, none⟩) s.args.length spc) ∧ w'.cell? ⟨w.heap.size + 1 + 1, 0, none⟩ = some (.int .i64 t.v) ∧ w'.cell? ⟨w.heap.size + 1 + 1, 1, none⟩ = some (.int .i64 t.f) ∧ w'.cell? ⟨w.heap.size + 1 + 1, 2, none⟩ = some (.slice ta t.args.length tc) ∧ w'.cell? ⟨w.heap.size + 1 + 1, 3, none⟩ = some (.int .i64 (j : Int)) ∧ w'.cell? ⟨w.heap.size + 1 + 1, 4, none⟩ = some (.slice (some ⟨bc, offc, none⟩) t.args.length tpc)) ((first | with_reducible exact hG6.out _ (Hid.out Hk5) | with_reducible exact hG7.out | with_reducible exact hG8.out | go_keep)) ((
          go_at_call 310
          refine HA1.out.mono ?_
          rintro e w5 ⟨rfl, hg5⟩
          have Hg5 : Hid (GS b n w4 w5) := (gs_drew b n _).trans hg5
          have Hk5 : Hid (KT b w4 w5) := Hg5.out.kt))
        go_wp2_with fail
        go_ret
        exact ⟨ret_int HR.out, (GS.of_below Hb3.out).trans (HgA.out.trans Hg5.out)⟩
    · have hk2 : k = s.args.length := by omega
      subst hk2
      have Hfin : Hid (Z = 2) := HE.out (List.ext_getElem? (fun i' => by
        rcases Nat.lt_or_ge i' s.args.length with h | h
        · exact HL.out i' h
        · rw [List.getElem?_eq_none h, List.getElem?_eq_none (by have := Hlen.out; omega)]))
      have Hgw := hide hgw
      clear hg hgw
      have hZ2 := Hfin.out
      subst hZ2
      go_wp2_with fail
      go_ret
      exact ⟨rfl, Hgw.out⟩

end Go.Proofs.YtbkedppkdhfpoabGreat

namespace Go.Proofs.YtbkedppkdhfpoabGreat
open Go.RowKit

theorem belowT (w : World) (o1 o2 o3 : Obj) : Below w.heap.size w (((w.alloc o1).alloc o2).alloc o3) := (below2 w o1 o2).alloc (by simp; omega) o3

set_option maxRecDepth 100000 in
set_option maxHeartbeats 2000000 in
theorem ask_any (b : TB) (n : Nat) (hup : IsUp b n) (s : T) (i : Nat) (t : T) (j : Nat) (sa : Option Addr) (sc : Nat) (spa : Option Addr) (spc : Nat) (ta : Option Addr) (tc : Nat) (tpa : Option Addr) (tpc : Nat) (w : World) (hn : s.sz + t.sz ≤ n + 1) (hs : PA b b.PS w s i sa spa spc) (ht : PA b b.PT w t j ta tpa tpc) (htab : TabOK b n w) :
    Calls Tryz.prog 297 #[tv b, pv s i sa sc spa spc, pv t j ta tc tpa tpc] w fun e w' => e = .returned (.int .i8 (cmpS s t)) ∧ GS b n w w' := by
  have hsl : s.args.length ≤ 1000 := by have := T.length_le s.args; have := T.sz_eq s; have := hs.sz; omega
  have htl : t.args.length ≤ 1000 := by have := T.length_le t.args; have := T.sz_eq t; have := ht.sz; omega
  have hb := fun o1 o2 o3 => belowT w o1 o2 o3
  have hk := fun o1 o2 o3 => KT.of_below (b := b) (belowT w o1 o2 o3)
  by_cases h0 : s.v = 0
  · have e0 : (s.v != 0) = false := by simpa using h0
    by_cases hA : t.v ≠ 0 ∨ s.f < t.f
    · have Hfin := hide (cmp_byArg hs.ok ht.ok h0 hA)
      have HA := hide (fun o1 o2 o3 => byArg_any b n hup s.args (i + 1) spa spc t j ta tc tpa tpc (((w.alloc o1).alloc o2).alloc o3) (fun x hx => by
        have h9 := arg_sz hx
        have h8 := hs.sz
        exact ⟨okArg hs.ok hx, by omega, by omega⟩) hsl (PL_kt (hk o1 o2 o3) hs.pl) hs.sub (ht.kt (hk o1 o2 o3)) (htab.gs (GS.of_below (hb o1 o2 o3))))
      have HB := hide (fun o1 o2 o3 => GS.of_below (b := b) (n := n) (hb o1 o2 o3))
      obtain ⟨Z, hZ⟩ : ∃ Z, Z = cmpS s t := ⟨_, rfl⟩
      rw [← Hfin.out, ← hZ] at HA
      rw [← hZ]
      clear Hfin hZ hb hk hup hs ht htab h0
      by_cases h1 : t.v = 0
      · have e1 : (t.v != 0) = false := by simpa using h1
        have hlt : s.f < t.f := hA.resolve_left (fun h => h h1)
        clear hA h1
        go_enter Tryz.func297, Tryz.ntmps297
        go_wp2_with fail
        refine (HA.out _ _ _).mono ?_
        rintro e w4 ⟨rfl, hg4⟩
        have H4 := hide ((HB.out _ _ _).trans hg4)
        clear hg4
        go_wp2_with fail
        go_ret
        exact ⟨rfl, H4.out⟩
      · have e1 : (t.v != 0) = true := by simpa using h1
        clear hA h1
        go_enter Tryz.func297, Tryz.ntmps297
        go_wp2_with fail
        refine (HA.out _ _ _).mono ?_
        rintro e w4 ⟨rfl, hg4⟩
        have H4 := hide ((HB.out _ _ _).trans hg4)
        clear hg4
        go_wp2_with fail
        go_ret
        exact ⟨rfl, H4.out⟩
    · have h1 : t.v = 0 := by
        rcases Classical.em (t.v = 0) with h | h
        · exact h
        · exact absurd (Or.inl h) hA
      have hnl : ¬ s.f < t.f := fun h => hA (Or.inr h)
      have e1 : (t.v != 0) = false := by simpa using h1
      by_cases hgt : t.f < s.f
      · have Hfin := hide (cmp_above hs.ok ht.ok h0 h1 hgt)
        have HA := hide (fun o1 o2 o3 => above_any b n hup s i sa sc spa spc t.args (j + 1) tpa tpc (((w.alloc o1).alloc o2).alloc o3) (fun x hx => by
          have h9 := arg_sz hx
          have h8 := ht.sz
          exact ⟨okArg ht.ok hx, by omega, by omega⟩) htl (PL_kt (hk o1 o2 o3) ht.pl) ht.sub (hs.kt (hk o1 o2 o3)) (htab.gs (GS.of_below (hb o1 o2 o3))))
        have HB := hide (fun o1 o2 o3 => GS.of_below (b := b) (n := n) (hb o1 o2 o3))
        obtain ⟨Z, hZ⟩ : ∃ Z, Z = cmpS s t := ⟨_, rfl⟩
        rw [← Hfin.out, ← hZ] at HA
        rw [← hZ]
        clear Hfin hZ hb hk hup hs ht htab h0 h1 hA
        go_enter Tryz.func297, Tryz.ntmps297
        go_wp2_with fail
        refine (HA.out _ _ _).mono ?_
        rintro e w4 ⟨rfl, hg4⟩
        have H4 := hide ((HB.out _ _ _).trans hg4)
        clear hg4
        go_wp2_with fail
        go_ret
        exact ⟨rfl, H4.out⟩
      · have hf : s.f = t.f := by omega
        have HA := hide (fun o1 o2 o3 => askArgs_any b n hup s i t j sa sc spa spc ta tc tpa tpc (((w.alloc o1).alloc o2).alloc o3) hn h0 h1 hf (hs.kt (hk o1 o2 o3)) (ht.kt (hk o1 o2 o3)) (htab.gs (GS.of_below (hb o1 o2 o3))))
        have HB := hide (fun o1 o2 o3 => GS.of_below (b := b) (n := n) (hb o1 o2 o3))
        obtain ⟨Z, hZ⟩ : ∃ Z, Z = cmpS s t := ⟨_, rfl⟩
        rw [← hZ] at HA ⊢
        clear hZ hb hk hup hs ht htab h0 h1 hA hf
        go_enter Tryz.func297, Tryz.ntmps297
        go_wp2_with fail
        refine (HA.out _ _ _).mono ?_
        rintro e w4 ⟨rfl, hg4⟩
        have H4 := hide ((HB.out _ _ _).trans hg4)
        clear hg4
        go_wp2_with fail
        go_ret
        exact ⟨rfl, H4.out⟩
  · have e0 : (s.v != 0) = true := by simpa using h0
    have Hfin := hide (cmp_var hs.ok ht.ok h0)
    obtain ⟨Z, hZ⟩ : ∃ Z, Z = cmpS s t := ⟨_, rfl⟩
    rw [← hZ] at Hfin ⊢
    have HB := hide (fun o1 o2 o3 => GS.of_below (b := b) (n := n) (hb o1 o2 o3))
    by_cases h1 : s.v = t.v
    · have e1 : (s.v == t.v) = true := by simpa using h1
      obtain rfl : Z = 2 := by rw [Hfin.out, if_pos h1]
      clear hZ hb hk hup hs ht htab h0 h1 Hfin
      go_enter Tryz.func297, Tryz.ntmps297
      go_wp2_with fail
      go_ret
      exact ⟨rfl, HB.out _ _ _⟩
    · have e1 : (s.v == t.v) = false := by simpa using h1
      obtain rfl : Z = 3 := by rw [Hfin.out, if_neg h1]
      clear hZ hb hk hup hs ht htab h0 h1 Hfin
      go_enter Tryz.func297, Tryz.ntmps297
      go_wp2_with fail
      go_ret
      exact ⟨rfl, HB.out _ _ _⟩

theorem cellT {w w' : World} {b o : Nat} {v : Value} (hb : Below w.heap.size w w') (h : w.cell? ⟨b, o, none⟩ = some v) : w'.cell? ⟨b, o, none⟩ = some v := by
  rw [hb.cell (p := ⟨b, o, none⟩) (lt_of_cell h)]; exact h
/-- What was asked is written down. -/
theorem memo_step {b : TB} {n : Nat} {w w4 : World} {i j : Nat} {s t : T} (hi : i < b.R) (hj : j < b.C) (hs : b.PS[i]? = some s) (ht : b.PT[j]? = some t) (hn1 : s.sz + t.sz = n + 1) (hg : GS b n w w4) : GS b (n + 1) w (w4.setCell ⟨b.K, i * b.C + j, none⟩ (.int .i8 (cmpS s t))) := by
  refine ⟨hg.kt.set _ _, fun M hM hC => ?_⟩
  obtain ⟨M', g1, g2, g3⟩ := hg.st M hM (hC.mono (by omega))
  refine ⟨_, g1.set hi hj (cmpS s t), fun i' j' s' t' hs' ht' hz => ?_, fun i' j' s' t' hs' ht' hz => ?_⟩
  · by_cases e : i' = i ∧ j' = j
    · obtain ⟨rfl, rfl⟩ := e
      rw [hs] at hs'; rw [ht] at ht'
      obtain rfl : s = s' := Option.some.inj hs'
      obtain rfl : t = t' := Option.some.inj ht'
      simp
    · simp only [if_neg e]
      rcases Nat.lt_or_ge n (s'.sz + t'.sz) with h | h
      · rw [g3 i' j' s' t' hs' ht' h]; exact hC i' j' s' t' hs' ht' hz
      · exact g2 i' j' s' t' hs' ht' h
  · have e : ¬ (i' = i ∧ j' = j) := fun e => by
      obtain ⟨rfl, rfl⟩ := e
      rw [hs] at hs'; rw [ht] at ht'
      obtain rfl : s = s' := Option.some.inj hs'
      obtain rfl : t = t' := Option.some.inj ht'
      omega
    simp only [if_neg e]
    exact g3 i' j' s' t' hs' ht' (by omega)

set_option maxRecDepth 100000 in
set_option maxHeartbeats 2000000 in
theorem isUp (b : TB) (hok : b.Ok) : ∀ n, IsUp b n := by
  intro n
  induction n with
  | zero => intro s i t j sa sc spa spc ta tc tpa tpc w hn; have := s.sz_pos; omega
  | succ n ih =>
    intro s i t j sa sc spa spc ta tc tpa tpc w hn hs ht htab
    rcases Nat.lt_or_ge n (s.sz + t.sz) with hlt | hlt
    · have hn1 : s.sz + t.sz = n + 1 := by omega
      rw [hn1] at htab ⊢
      have hi : i < b.R := by
        rw [hok.hR]
        rcases Nat.lt_or_ge i b.PS.length with h | h
        · exact h
        · have := hs.num; rw [List.getElem?_eq_none h] at this; cases this
      have hj : j < b.C := by
        rw [hok.hC]
        rcases Nat.lt_or_ge j b.PT.length with h | h
        · exact h
        · have := ht.num; rw [List.getElem?_eq_none h] at this; cases this
      have htab0 := htab
      obtain ⟨M, hM, hC⟩ := htab
      have hr1 := hok.r1
      have hc1 := hok.c1
      have hNb : b.R * b.C ≤ 1000000 := Nat.mul_le_mul hr1 hc1
      have hql := idx_lt hi hj
      obtain ⟨p, hp⟩ : ∃ p, p = i * b.C := ⟨_, rfl⟩
      obtain ⟨q, hq⟩ : ∃ q, q = p + j := ⟨_, rfl⟩
      have hqe : i * b.C + j = q := by rw [hq, hp]
      have hw1 : IntKind.i64.wrap ((i : Int) * (b.C : Int)) = (p : Int) := by
        have e : ((i : Int) * (b.C : Int)) = (p : Int) := by rw [hp, Int.natCast_mul]
        rw [e]; exact wrap_ok _ (by omega) (by omega)
      have hw2 : IntKind.i64.wrap ((p : Int) + (j : Int)) = (q : Int) := by
        have e : ((p : Int) + (j : Int)) = (q : Int) := by rw [hq]; omega
        rw [e]; exact wrap_ok _ (by omega) (by omega)
      have cE := hM.ent i j hi hj
      have fE := hM.fr q
      have lK := hM.lt
      rw [hqe] at cE hql
      have Hqe := hide hqe
      obtain ⟨NN, hNN⟩ : ∃ NN, NN = b.R * b.C := ⟨_, rfl⟩
      have HNN := hide hNN
      have hq0 : (0 : Int) ≤ (q : Int) := by omega
      have hq1 : (q : Int) < (NN : Int) := by omega
      show Calls Tryz.prog 266 #[.agg #[.slice (some ⟨b.K, 0, none⟩) (b.R * b.C) (b.R * b.C), .int .i64 (b.C : Int)], pv s i sa sc spa spc, pv t j ta tc tpa tpc] w _
      rw [← hNN]
      have hb := fun o1 o2 o3 => belowT w o1 o2 o3
      have HB := hide (fun o1 o2 o3 => GS.of_below (b := b) (n := n + 1) (hb o1 o2 o3))
      have HZ0 := hide (show cmpS s t ≠ 0 from by rcases cmpS_range s t with h | h | h <;> rw [h] <;> decide)
      by_cases h0 : M i j = 0
      · rw [h0] at cE
        have HA := hide (fun o1 o2 o3 => (show Calls Tryz.prog 297 #[.agg #[.slice (some ⟨b.K, 0, none⟩) NN NN, .int .i64 (b.C : Int)], pv s i sa sc spa spc, pv t j ta tc tpa tpc] (((w.alloc o1).alloc o2).alloc o3) (fun e w' => e = .returned (.int .i8 (cmpS s t)) ∧ GS b n (((w.alloc o1).alloc o2).alloc o3) w') from by rw [hNN]; exact ask_any b n ih s i t j sa sc spa spc ta tc tpa tpc (((w.alloc o1).alloc o2).alloc o3) (by omega) (hs.kt (KT.of_below (hb o1 o2 o3))) (ht.kt (KT.of_below (hb o1 o2 o3))) ((htab0.mono (by omega)).gs (GS.of_below (hb o1 o2 o3)))))
        have HM := hide (fun (w4 : World) (hg : GS b n w w4) => memo_step hi hj hs.num ht.num hn1 hg)
        have HC4 := hide (fun (w4 : World) (hg : GS b n w w4) => (show (∃ v, w4.cell? ⟨b.K, q, none⟩ = some (.int .i8 v)) ∧ w4.frozen? ⟨b.K, q, none⟩ = false from by
          obtain ⟨M', g1, _, _⟩ := hg.st M hM (hC.mono (by omega))
          have h9 := g1.ent i j hi hj
          rw [hqe] at h9
          exact ⟨⟨_, h9⟩, g1.fr q⟩))
        have HB2 := hide (fun o1 o2 o3 => GS.of_below (b := b) (n := n) (hb o1 o2 o3))
        obtain ⟨Z, hZ⟩ : ∃ Z, Z = cmpS s t := ⟨_, rfl⟩
        rw [← hZ] at HA HM ⊢
        have cE3 := fun o1 o2 o3 => cellT (belowT w o1 o2 o3) cE
        clear hZ HZ0 HB hb hM hC htab0 hs ht ih h0 hNN hqe hp hq hNb hql hn1 hlt hn hok cE
        go_enter Tryz.func266, Tryz.ntmps266
        go_wp2_with fail
        with_reducible refine (HA.out _ _ _).mono ?_
        rintro e w4 ⟨rfl, hg4⟩
        have Hg4 := hide ((HB2.out _ _ _).trans hg4)
        obtain ⟨⟨v4, c4⟩, f4⟩ := HC4.out _ Hg4.out
        have HF := hide (HM.out _ Hg4.out)
        rw [Hqe.out] at HF
        clear hg4 HM HC4 HA
        go_wp2_with fail
        go_ret
        exact ⟨rfl, HF.out⟩
      · have hv : M i j = cmpS s t := (hC i j s t hs.num ht.num (by omega)).resolve_left h0
        rw [hv] at cE
        obtain ⟨Z, hZ⟩ : ∃ Z, Z = cmpS s t := ⟨_, rfl⟩
        rw [← hZ] at cE HZ0 ⊢
        have hz0 : (Z == 0) = false := by simpa using HZ0.out
        have cE3 := fun o1 o2 o3 => cellT (belowT w o1 o2 o3) cE
        clear hZ HZ0 hb hM hC htab0 hs ht ih h0 hNN hqe hp hq hNb hql hn1 hlt hn hok hv cE
        go_enter Tryz.func266, Tryz.ntmps266
        go_wp2_with fail
        go_ret
        exact ⟨rfl, HB.out _ _ _⟩
    · exact ih s i t j sa sc spa spc ta tc tpa tpc w hlt hs ht htab

end Go.Proofs.YtbkedppkdhfpoabGreat

namespace Go.Proofs.YtbkedppkdhfpoabGreat
open Go.RowKit

theorem Tryz.underlying307 : Tryz.prog.underlying 307 = some (.slice 240) := by kernel_rfl
theorem Tryz.info240 : (Tryz.prog.info? 240).map (fun i => (i.zero, i.size, i.bytes)) = some (some (.int .i8 0), 1, 1) := by kernel_rfl

def row8 (n : Nat) : Array Value := madeCells #[.int .i8 0] (n * 1)
theorem run_make8 (n : Nat) (hn : n ≤ 1000000) (w : World) : (Instr.makeSlice 307 (.int .i64 (n : Int)) (.int .i64 (n : Int))).run Tryz.prog w = .ok (.slice (some ⟨w.heap.size, 0, none⟩) n n) (w.alloc (.cells (row8 n) 240)) := by
  obtain ⟨i, hi, hzz⟩ := Option.map_eq_some_iff.1 Tryz.info240
  simp only [Prod.mk.injEq] at hzz
  obtain ⟨hz, hs, hb⟩ := hzz
  have hr := run_make (P := Tryz.prog) w 307 240 i _ Tryz.underlying307 hi hz .i64 .i64 n n (by omega) (Int.le_refl _) (by rw [hb]; omega) (by omega)
  simp only [Int.toNat_natCast, hs] at hr
  exact hr
theorem row8_at {n j : Nat} (h : j < n) : (row8 n)[j]? = some (.int .i8 0) := by
  simp [row8, madeCells, h, Nat.mod_one]

theorem pre_head (t : T) : (pre t)[0]? = some t := by rw [pre_eq]; rfl
theorem pre_subs (t : T) : Subs (pre t) 1 t.args := ⟨[], by rw [pre_eq, List.append_nil]; rfl⟩
theorem pre_len (t : T) : (pre t).length = t.sz := (pre_length _).1 t (Nat.le_refl _)

theorem numbered0 (r : Nat → Prop) (t : T) (a : Option Addr) (cap : Nat) (w : World) (h120 : t.sz ≤ 120) (hr : ∀ k, r k → k < w.heap.size) (hin : InP r w t.args a) :
    Calls Tryz.prog 265 #[.agg #[.int .i64 t.v, .int .i64 t.f, .slice a t.args.length cap], .int .i64 0] w fun e w' =>
      ∃ pa pc, e = .returned (.tuple #[.agg #[.int .i64 t.v, .int .i64 t.f, .slice a t.args.length cap, .int .i64 0, .slice pa t.args.length pc], .int .i64 (t.sz : Int)]) ∧
        t.args.length ≤ pc ∧ PL (fun k => w.heap.size ≤ k) r w' t.args 1 pa ∧ Below w.heap.size w w' := by
  have h := numbered_any r 120 t 0 a cap w h120 (by omega) (by omega) hr hin
  rw [Nat.zero_add, Nat.zero_add] at h
  exact h

set_option maxRecDepth 100000 in
set_option maxHeartbeats 2000000 in
theorem great_any (ar : List Int) (s : T) (sa : Option Addr) (sc : Nat) (t : T) (ta : Option Addr) (tc : Nat) (w : World) (hs : okP ar s) (ht : okP ar t) (hs1 : s.sz ≤ 120) (ht1 : t.sz ≤ 120) (hin : InL w s.args sa) (hin2 : InL w t.args ta) :
    Calls Tryz.prog 234 #[.agg #[.int .i64 s.v, .int .i64 s.f, .slice sa s.args.length sc], .agg #[.int .i64 t.v, .int .i64 t.f, .slice ta t.args.length tc]] w fun e w' => e = .returned (.bool (gt s t)) ∧ Below w.heap.size w w' := by
  have hNb : s.sz * t.sz ≤ 14400 := Nat.mul_le_mul hs1 ht1
  obtain ⟨N, hN⟩ : ∃ N, N = s.sz * t.sz := ⟨_, rfl⟩
  have hwm : IntKind.i64.wrap ((s.sz : Int) * (t.sz : Int)) = (N : Int) := by
    have e : ((s.sz : Int) * (t.sz : Int)) = (N : Int) := by rw [hN, Int.natCast_mul]
    rw [e]; exact wrap_ok _ (by omega) (by omega)
  have hmk8 := run_make8 N (by omega)
  have HN := hide hN
  have H1 := hide (fun o1 o2 => numbered0 (fun k => k < w.heap.size) s sa sc ((w.alloc o1).alloc o2) hs1 (fun k hk => by have hk : k < w.heap.size := hk; simp; omega) (InP_alloc o2 (InP_alloc o1 (InP_imp (fun _ h => h.2) (InP_lt hin)))))
  clear hN hNb
  go_enter Tryz.func234, Tryz.ntmps234
  go_wp2_with fail
  refine (H1.out _ _).mono ?_
  rintro e w1 ⟨pa1, pc1, rfl, hpc1, hpl1, hb1⟩
  have hz1 := hb1.size
  simp at hz1
  have hbw1 : Below w.heap.size w w1 := (below2 _ _ _).trans (hb1.mono (by simp; omega))
  have h3t : Three w1 (w.heap.size + 1) (.int .i64 t.v) (.int .i64 t.f) (.slice ta t.args.length tc) := (Three.new 77 (by simp)).below hb1
  obtain ⟨d0, d1, d2, _, _, _⟩ := h3t
  have hq1 : w.heap.size + 1 < w1.heap.size := by omega
  have H2 := hide (fun o => numbered0 (fun k => k < w.heap.size) t ta tc (w1.alloc o) ht1 (fun k hk => by have hk : k < w.heap.size := hk; simp; omega) (InP_alloc o (InP_below hbw1 (InP_imp (fun _ h => h.2) (InP_lt hin2)))))
  have Hpl1 := hide hpl1
  have Hpc1 := hide hpc1
  clear H1 hpl1 hb1 hpc1
  go_wp2_with fail
  refine (H2.out _).mono ?_
  rintro e w2 ⟨pa2, pc2, rfl, hpc2, hpl2, hb2⟩
  have hz2 := hb2.size
  simp at hz2
  have hb12 : Below w1.heap.size w1 w2 := (below1 _ _).trans (hb2.mono (by simp))
  have hbw2 : Below w.heap.size w w2 := hbw1.trans (hb12.mono (by omega))
  obtain ⟨WT, hWT⟩ : ∃ WT, WT = ((w2.alloc (.cells #[.int .i64 t.v, .int .i64 t.f, .slice ta t.args.length tc, .int .i64 0, .slice pa2 t.args.length pc2] 304)).alloc (.cells (row8 N) 240)).alloc (.cells #[.slice (some ⟨w2.heap.size + 1, 0, none⟩) N N, .int .i64 (t.sz : Int)] 309) := ⟨_, rfl⟩
  have hb2T : Below w2.heap.size w2 WT := by rw [hWT]; exact ((below1 _ _).alloc (by simp) _).alloc (by simp; omega) _
  have hb1T : Below w1.heap.size w1 WT := hb12.trans (hb2T.mono (by omega))
  have hbwT : Below w.heap.size w WT := hbw1.trans (hb1T.mono (by omega))
  have g1 : ∀ o, (w2.alloc o).heap.size = w2.heap.size + 1 := fun o => World.size_alloc _ _
  have g2 : ∀ o o', ((w2.alloc o).alloc o').heap.size = w2.heap.size + 1 + 1 := fun o o' => by rw [World.size_alloc, g1]
  have hzT : WT.heap.size = w2.heap.size + 1 + 1 + 1 := by rw [hWT, World.size_alloc, g2]
  have hheap : WT.heap[w2.heap.size + 1]? = some (.cells (row8 N) 240) := by
    rw [hWT, Below.heap_alloc _ _ _ (by rw [g2]; omega)]
    have h9 := heap_alloc_new (w2.alloc (.cells #[.int .i64 t.v, .int .i64 t.f, .slice ta t.args.length tc, .int .i64 0, .slice pa2 t.args.length pc2] 304)) (.cells (row8 N) 240)
    rw [g1] at h9
    exact h9
  obtain ⟨bt, hbt⟩ : ∃ bt : TB, bt = { K := w2.heap.size + 1, R := s.sz, C := t.sz, PS := pre s, PT := pre t, ar := ar } := ⟨_, rfl⟩
  have hq : ∀ b', b' < w2.heap.size + 1 → bt.q b' := fun b' hb' => by
    subst hbt
    show b' ≠ w2.heap.size + 1
    omega
  have hok : bt.Ok := by
    subst hbt
    exact ⟨(pre_len s).symm, (pre_len t).symm, by show s.sz ≤ 1000; omega, by show t.sz ≤ 1000; omega⟩
  have hpas : PA bt bt.PS WT s 0 sa pa1 pc1 := by
    refine ⟨by subst hbt; exact hs, by subst hbt; exact pre_head s, by subst hbt; exact pre_subs s, ?_, ?_, by omega, Hpc1.out⟩
    · exact InP_imp (fun k' hk' => hq k' (by have := hk'.2; omega)) (InP_below hbwT (InP_lt hin))
    · exact PL_mono (fun b' o v hp hv => ⟨hq b' (by have := lt_of_cell hv; omega), by rw [hb1T.cell (p := ⟨b', o, none⟩) (lt_of_cell hv)]; exact hv⟩) (fun b' o v hp hv => ⟨hq b' (by have := lt_of_cell hv; omega), by rw [hb1T.cell (p := ⟨b', o, none⟩) (lt_of_cell hv)]; exact hv⟩) _ _ _ _ (Nat.le_refl _) Hpl1.out
  have hpat : PA bt bt.PT WT t 0 ta pa2 pc2 := by
    refine ⟨by subst hbt; exact ht, by subst hbt; exact pre_head t, by subst hbt; exact pre_subs t, ?_, ?_, by omega, hpc2⟩
    · exact InP_imp (fun k' hk' => hq k' (by have := hk'.2; omega)) (InP_below hbwT (InP_lt hin2))
    · exact PL_mono (fun b' o v hp hv => ⟨hq b' (by have := lt_of_cell hv; omega), by rw [hb2T.cell (p := ⟨b', o, none⟩) (lt_of_cell hv)]; exact hv⟩) (fun b' o v hp hv => ⟨hq b' (by have := lt_of_cell hv; omega), by rw [hb2T.cell (p := ⟨b', o, none⟩) (lt_of_cell hv)]; exact hv⟩) _ _ _ _ (Nat.le_refl _) hpl2
  have htab : TabOK bt (s.sz + t.sz) WT := by
    refine ⟨fun _ _ => 0, ?_, fun _ _ _ _ _ _ _ => Or.inl rfl⟩
    subst hbt
    refine ⟨fun i j hi hj => ?_, fun k => frozen_of_heap hheap k, by show w2.heap.size + 1 < _; omega⟩
    show WT.cell? ⟨w2.heap.size + 1, i * t.sz + j, none⟩ = some (.int .i8 0)
    have h9 : i * t.sz + j < N := by rw [HN.out]; exact idx_lt (show i < s.sz from hi) (show j < t.sz from hj)
    simp [World.cell?, hheap, row8_at h9]
  have hgr := isUp bt hok (s.sz + t.sz) s 0 t 0 sa sc pa1 pc1 ta tc pa2 pc2 WT (Nat.le_refl _) hpas hpat htab
  have HG : Hid (Calls Tryz.prog 266 #[.agg #[.slice (some ⟨w2.heap.size + 1, 0, none⟩) N N, .int .i64 (t.sz : Int)], .agg #[.int .i64 s.v, .int .i64 s.f, .slice sa s.args.length sc, .int .i64 0, .slice pa1 s.args.length pc1], .agg #[.int .i64 t.v, .int .i64 t.f, .slice ta t.args.length tc, .int .i64 0, .slice pa2 t.args.length pc2]] WT fun e w' =>
      e = .returned (.int .i8 (cmpS s t)) ∧ GS bt (s.sz + t.sz) WT w') := by
    rw [HN.out]
    subst hbt
    exact hgr
  have h5s : Five w2 w1.heap.size 0 (.int .i64 s.v) (.int .i64 s.f) (.slice sa s.args.length sc) (.int .i64 0) (.slice pa1 s.args.length pc1) := (Five.of_heap (heap_alloc_new w1 _)).same (hb2.block w1.heap.size (by simp))
  have h5 := fun o1 o2 o3 => h5s.same ((belowT w2 o1 o2 o3).block w1.heap.size (by omega))
  have a0 := fun o1 o2 o3 => (h5 o1 o2 o3).1
  have a1 := fun o1 o2 o3 => (h5 o1 o2 o3).2.1
  have a2 := fun o1 o2 o3 => (h5 o1 o2 o3).2.2.1
  have a3 := fun o1 o2 o3 => (h5 o1 o2 o3).2.2.2.1
  have a4 := fun o1 o2 o3 => (h5 o1 o2 o3).2.2.2.2
  have h6 := fun o2 o3 => (Five.of_heap (e := 304) (fr := (0, 0)) (heap_alloc_new w2 (.cells #[.int .i64 t.v, .int .i64 t.f, .slice ta t.args.length tc, .int .i64 0, .slice pa2 t.args.length pc2] 304))).same ((below2 (w2.alloc (.cells #[.int .i64 t.v, .int .i64 t.f, .slice ta t.args.length tc, .int .i64 0, .slice pa2 t.args.length pc2] 304)) o2 o3).block w2.heap.size (by simp))
  have c0 := fun o2 o3 => (h6 o2 o3).1
  have c1 := fun o2 o3 => (h6 o2 o3).2.1
  have c2 := fun o2 o3 => (h6 o2 o3).2.2.1
  have c3 := fun o2 o3 => (h6 o2 o3).2.2.2.1
  have c4 := fun o2 o3 => (h6 o2 o3).2.2.2.2
  have hlw1 : w1.heap.size < w2.heap.size := by omega
  have HbT := hide hbwT
  have Hrb : Hid (∀ k', k' < w.heap.size → k' ≠ bt.K) := fun k' hk' => by
    subst hbt
    show k' ≠ w2.heap.size + 1
    omega
  have HWT := hide hWT
  have Hz := hide (show (cmpS s t == 1) = gt s t from by
    cases hgt : gt s t with
    | true => rw [cmpS_one.2 hgt]; rfl
    | false => rw [beq_eq_false_iff_ne]; exact fun h => by rw [cmpS_one.1 h] at hgt; cases hgt)
  obtain ⟨Z, hZ⟩ : ∃ Z, Z = cmpS s t := ⟨_, rfl⟩
  rw [← hZ] at HG Hz
  clear hgr hpas hpat htab hok hq hbt hbwT hb1T hb2T hWT hheap g1 g2 hzT hZ hpl2 hpc2 hb2 hb12 H2 Hpl1 Hpc1 hin hin2 hs ht d0 d1 d2 h5s h5 h6
  go_wp2_with fail
  rw [← HWT.out]
  with_reducible refine HG.out.mono ?_
  rintro e w5 ⟨rfl, hg5⟩
  have Hfin : Hid (Below w.heap.size w w5) := ⟨hg5.kt.os.trans HbT.out.os, hg5.kt.tape.trans HbT.out.tape, hg5.kt.output.trans HbT.out.output, Nat.le_trans HbT.out.size hg5.kt.size, fun k' hk' => (hg5.kt.block k' (by have := HbT.out.size; omega) (Hrb.out k' hk')).trans (HbT.out.block k' hk')⟩
  clear hg5
  go_wp2_with fail
  go_ret
  exact ⟨ret_bool Hz.out, Hfin.out⟩

end Go.Proofs.YtbkedppkdhfpoabGreat

namespace Go.Proofs.YtbkedppkdhfpoabGreat
open Go.RowKit

/-- What Greater and Compare answer beside the error. -/
def grSpec (ar : List Int) (s t : T) : Bool := decide (allErr ar [s, t] = 0) && gt s t
set_option maxRecDepth 100000 in
set_option maxHeartbeats 400000 in
theorem Greater_any (ar : List Int) (ga : Option Addr) (gcap : Nat) (s : T) (sa : Option Addr) (sc : Nat) (t : T) (ta : Option Addr) (tc : Nat) (w : World) (hg : Ints w ar ga) (hin : InL w s.args sa) (hin2 : InL w t.args ta) :
    Calls Tryz.prog 190 #[.agg #[.slice ga ar.length gcap], .agg #[.int .i64 s.v, .int .i64 s.f, .slice sa s.args.length sc], .agg #[.int .i64 t.v, .int .i64 t.f, .slice ta t.args.length tc]] w fun e w' =>
      e = .returned (.tuple #[.bool (grSpec ar s t), .int .i64 (allErr ar [s, t])]) ∧ Below w.heap.size w w' := by
  have H1 := hide (fun o1 o2 o3 => ordCheck_any ar ga gcap s sa sc t ta tc (((w.alloc o1).alloc o2).alloc o3) (Ints_alloc o3 (Ints_alloc o2 (Ints_alloc o1 hg))) (InP_alloc o3 (InP_alloc o2 (InP_alloc o1 hin))) (InP_alloc o3 (InP_alloc o2 (InP_alloc o1 hin2))))
  obtain ⟨E, hE⟩ : ∃ E, E = allErr ar [s, t] := ⟨_, rfl⟩
  obtain ⟨G, hG⟩ : ∃ G, G = grSpec ar s t := ⟨_, rfl⟩
  rw [← hE] at H1 ⊢
  rw [← hG]
  have HE := hide hE
  have HG := hide hG
  clear hE hG
  go_enter Tryz.func190, Tryz.ntmps190
  go_wp2_with fail
  refine (H1.out _ _ _).mono ?_
  rintro e w1 ⟨rfl, hb1⟩
  have hz1 : w.heap.size + 3 ≤ w1.heap.size := by have := hb1.size; simp at this; omega
  have hbw : Below w.heap.size w w1 := (((below1 _ _).alloc (by simp) _).alloc (by simp; omega) _).trans (hb1.mono (by simp; omega))
  have h3s : Three w1 (w.heap.size + 1) (.int .i64 s.v) (.int .i64 s.f) (.slice sa s.args.length sc) := ((Three.new _ (by simp)).alloc _).below hb1
  have h3t : Three w1 (w.heap.size + 1 + 1) (.int .i64 t.v) (.int .i64 t.f) (.slice ta t.args.length tc) := (Three.new _ (by simp)).below hb1
  obtain ⟨c0, c1, c2, _, _, _⟩ := h3s
  obtain ⟨d0, d1, d2, _, _, _⟩ := h3t
  clear hb1
  by_cases h : E = 0
  · obtain ⟨k1, k2, k3, k4⟩ := ok_two (HE.out.symm.trans h)
    have H2 := hide (great_any ar s sa sc t ta tc w1 k2 k4 k1 k3 (InP_below hbw hin) (InP_below hbw hin2))
    have HG2 : Hid (gt s t = G) := by show _ = _; rw [HG.out, grSpec, decide_eq_true (HE.out.symm.trans h), Bool.true_and]
    subst h
    clear k1 k2 k3 k4
    go_wp2_with fail
    refine H2.out.mono ?_
    rintro e w2 ⟨rfl, hb2⟩
    rw [HG2.out]
    have Hb := hide (hbw.trans (hb2.mono (by omega)))
    clear hb2
    go_wp2_with fail
    go_ret2
    exact ⟨rfl, Hb.out⟩
  · have hb : (E != 0) = true := by simpa using h
    have hG0 : G = false := by rw [HG.out, grSpec, decide_eq_false (fun h' => h (HE.out.trans h')), Bool.false_and]
    subst hG0
    clear h
    go_wp2_with fail
    go_ret2
    exact ⟨rfl, hbw⟩

end Go.Proofs.YtbkedppkdhfpoabGreat

namespace Go.Proofs.YtbkedppkdhfpoabGreat
open Go.RowKit

theorem all_one {ar : List Int} (h : sigErr ar = 0) (t : T) : allErr ar [t] = termErr ar t := by
  rw [allErr, if_pos h, termsErr]
  by_cases h1 : termErr ar t = 0
  · rw [if_pos h1, h1]; rfl
  · rw [if_neg h1]

set_option maxRecDepth 100000 in
set_option maxHeartbeats 1000000 in
theorem checkBindings_any (ar : List Int) (ga : Option Addr) (gcap : Nat) (bs : List (Int × T)) (a : Option Addr) (cap : Nat) (w : World) (p : Nat → Prop) (hl : bs.length ≤ 9223372036854775807) (hg : Ints w ar ga) (hin : Binds p w bs a) :
    Calls Tryz.prog 294 #[.agg #[.slice ga ar.length gcap], .slice a bs.length cap] w fun e w' => e = .returned (.int .i64 (bindsErr ar bs)) ∧ Below w.heap.size w w' := by
  go_enter Tryz.func294, Tryz.ntmps294
  go_wp2_with fail
  refine (signature_any ar ga gcap _ (Ints_alloc _ hg)).mono ?_
  rintro e w1 ⟨rfl, hb1⟩
  have hz1 : w.heap.size < w1.heap.size := by have := hb1.size; simp at this; omega
  have hbw : Below w.heap.size w w1 := (below1 _ _).trans (hb1.mono (by simp))
  have cg : w1.cell? ⟨w.heap.size, 0, none⟩ = some (.slice ga ar.length gcap) := by
    rw [hb1.cell (p := ⟨w.heap.size, 0, none⟩) (by simp), cell_new _ rfl]; rfl
  clear hb1
  by_cases hs : sigErr ar = 0
  · have hfin : bindsErr ar bs = bindErr ar 0 bs := by rw [bindsErr, if_pos hs]
    have Hfin := hide hfin
    have Hone := hide (all_one hs)
    rw [hs]
    clear hfin hs
    go_wp2_with fail
    go_loopw [6, 17] (fun l i wr => ∃ (k : Nat), k ≤ bs.length ∧ i = .int .i64 k ∧ l = .int .i64 (lastB bs k) ∧ Hid (bindErr ar 0 bs = bindErr ar (lastB bs k) (bs.drop k)) ∧ Below w1.heap.size w1 wr) (fun _ i _ => bs.length - (intOf i).toNat)
    case atStart => exact ⟨0, Nat.zero_le _, rfl, rfl, rfl, Below.refl _ _⟩
    case round =>
      obtain ⟨k, hk, rfl, rfl, HL, hb⟩ := hrel
      have hzr := hb.size
      have hbR : Below w.heap.size w wr := hbw.trans (hb.mono (by omega))
      by_cases hlt : k < bs.length
      · have hin' := Binds_below hb (Binds_below hbw hin)
        have Hg' := hide (Ints_below hb (Ints_below hbw hg))
        obtain ⟨b, off, rfl⟩ := Binds_some hin (by omega)
        obtain ⟨x, hx⟩ : ∃ x, bs[k]? = some x := ⟨bs[k], List.getElem?_eq_getElem hlt⟩
        obtain ⟨a1, cap1, _, c0, c1, c2, c3, hin1⟩ := Binds_at hin' hx
        have Hst := hide (HL.out.trans (bindErr_step hx))
        have Hls := hide (lastB_succ hx)
        have cg' : wr.cell? ⟨w.heap.size, 0, none⟩ = some (.slice ga ar.length gcap) := cell_below hb cg
        have hgw : w.heap.size < wr.heap.size := by omega
        have hkI : (k : Int) < bs.length := by omega
        have hk0 : (0 : Int) ≤ k := by omega
        have HC := hide (fun o => Check_any ar ga gcap x.2 a1 cap1 (wr.alloc o) (Ints_alloc o Hg'.out) (InP_alloc o (InP_imp (q := fun _ => True) (fun _ _ => trivial) hin1)))
        have HbA := hide (fun o => hbR.alloc (show w.heap.size ≤ wr.heap.size by omega) o)
        have HbB := hide (fun o => hb.alloc hzr o)
        have hbb := lt_of_cell c0
        clear hx HL hin hin' hin1
        by_cases h1 : x.1 < 1
        · rw [if_pos (Or.inl h1)] at Hst
          go_wp2_with fail
          go_ret
          exact ⟨ret_int (by rw [Hfin.out, Hst.out]), HbA.out _⟩
        · by_cases h2 : 1000 < x.1
          · rw [if_pos (Or.inr h2)] at Hst
            go_wp2_with fail
            go_ret
            exact ⟨ret_int (by rw [Hfin.out, Hst.out]), HbA.out _⟩
          · rw [if_neg (by omega)] at Hst
            by_cases h3 : x.1 ≤ lastB bs k
            · rw [if_pos h3] at Hst
              go_wp2_with fail
              go_ret
              exact ⟨ret_int (by rw [Hfin.out, Hst.out]), HbA.out _⟩
            · rw [if_neg h3] at Hst
              go_wp2_with fail
              refine (HC.out _).mono ?_
              rintro e w2 ⟨rfl, hb2⟩
              rw [Hone.out]
              have hz2 := hb2.size
              rw [World.size_alloc] at hz2
              have Hb2 := hide ((HbB.out _).trans (hb2.mono (by rw [World.size_alloc]; omega)))
              have Hb3 := hide ((HbA.out _).trans (hb2.mono (by rw [World.size_alloc]; omega)))
              have d0 : w2.cell? ⟨wr.heap.size, 0, none⟩ = some (.int .i64 x.1) := cell_below hb2 (by rw [cell_new 0 rfl]; rfl)
              clear HC HbA HbB hb2
              by_cases h4 : termErr ar x.2 = 0
              · rw [if_pos h4] at Hst
                rw [h4]
                clear h4
                go_wp2_with fail
                go_roundw
                case rel => exact ⟨k + 1, by omega, by go_num, by rw [Hls.out], by rw [Hls.out]; exact Hst.out, Hb2.out⟩
                case measure => simp [intOf]; omega
              · rw [if_neg h4] at Hst
                have h4' : (termErr ar x.2 != 0) = true := by simpa using h4
                clear h4
                go_wp2_with fail
                go_ret
                exact ⟨ret_int (by rw [Hfin.out, Hst.out]), Hb3.out⟩
      · have hk2 : k = bs.length := by omega
        subst hk2
        have Hek : Hid (bindErr ar 0 bs = 0) := by show _ = _; rw [HL.out, List.drop_length]; rfl
        clear HL
        go_wp2_with fail
        go_ret
        exact ⟨ret_int (by rw [Hfin.out, Hek.out]), hbR⟩
  · have hfin : bindsErr ar bs = sigErr ar := by rw [bindsErr, if_neg hs]
    have Hfin := hide hfin
    have hs1 : (sigErr ar != 0) = true := by simpa using hs
    clear hfin hs
    generalize sigErr ar = sg at *
    go_wp2_with fail
    go_ret
    exact ⟨ret_int Hfin.out.symm, hbw⟩

end Go.Proofs.YtbkedppkdhfpoabGreat
