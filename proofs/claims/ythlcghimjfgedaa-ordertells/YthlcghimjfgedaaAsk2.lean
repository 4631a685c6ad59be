/- What the program's order asks of two parts. -/
import Derived.Test.YthlcghimjfgedaaFgr
namespace Go.Proofs.Ythlcghimjfgedaa
open Go.RowKit

theorem eg129 (args : Array Value) (w : World) : (callFunc 129 args).run Try.prog w = .ok (.enter 129 args) w := by kernel_rfl
theorem eg130 (args : Array Value) (w : World) : (callFunc 130 args).run Try.prog w = .ok (.enter 130 args) w := by kernel_rfl

/-- What the closures hold on to, in the three boxes from x on. -/
structure Boxes (b : TB) (n x : Nat) (s : T) (i : Nat) (sa : Option Addr) (sc : Nat) (spa : Option Addr) (spc : Nat) (t : T) (j : Nat) (ta : Option Addr) (tc : Nat) (tpa : Option Addr) (tpc : Nat) (w : World) : Prop where
  k : w.cell? ⟨x, 0, none⟩ = some (.slice (some ⟨b.K, 0, none⟩) b.R b.R)
  s5 : Five w (x + 1) 0 (.int .i64 s.v) (.int .i64 s.f) (.slice sa s.args.length sc) (.int .i64 (i : Int)) (.slice spa s.args.length spc)
  t5 : Five w (x + 1 + 1) 0 (.int .i64 t.v) (.int .i64 t.f) (.slice ta t.args.length tc) (.int .i64 (j : Int)) (.slice tpa t.args.length tpc)
  pas : PA b b.PS w s i sa spa
  pat : PA b b.PT w t j ta tpa
  tab : TabOK b n w
  rb : ∀ i', i' < b.R → b.rb i' < x
theorem Boxes.gs {b : TB} {n x : Nat} {s : T} {i : Nat} {sa : Option Addr} {sc : Nat} {spa : Option Addr} {spc : Nat} {t : T} {j : Nat} {ta : Option Addr} {tc : Nat} {tpa : Option Addr} {tpc : Nat} {w w' : World} (h : Boxes b n x s i sa sc spa spc t j ta tc tpa tpc w) (hg : GS b n w w') : Boxes b n x s i sa sc spa spc t j ta tc tpa tpc w' := by
  have hr := h.rb
  exact ⟨hg.kt.cell (fun i' hi' => by have := hr i' hi'; omega) h.k, h.s5.same (hg.kt.block _ h.s5.lt (fun i' hi' => by have := hr i' hi'; omega)), h.t5.same (hg.kt.block _ h.t5.lt (fun i' hi' => by have := hr i' hi'; omega)), h.pas.kt hg.kt, h.pat.kt hg.kt, h.tab.gs hg, hr⟩

set_option maxRecDepth 100000 in
set_option maxHeartbeats 2000000 in
theorem ask_any (b : TB) (n : Nat) (hgr : GrUp b n) (s : T) (i : Nat) (t : T) (j : Nat) (sa : Option Addr) (sc : Nat) (spa : Option Addr) (spc : Nat) (ta : Option Addr) (tc : Nat) (tpa : Option Addr) (tpc : Nat) (w : World) (hn : s.sz + t.sz ≤ n + 1) (hs : PA b b.PS w s i sa spa) (ht : PA b b.PT w t j ta tpa) (htab : TabOK b n w) :
    Calls Try.prog 118 #[.slice (some ⟨b.K, 0, none⟩) b.R b.R, .agg #[.int .i64 s.v, .int .i64 s.f, .slice sa s.args.length sc, .int .i64 (i : Int), .slice spa s.args.length spc], .agg #[.int .i64 t.v, .int .i64 t.f, .slice ta t.args.length tc, .int .i64 (j : Int), .slice tpa t.args.length tpc]] w fun e w' =>
      e = .returned (.bool (gt s t)) ∧ GS b n w w' := by
  have hmf : ∀ (fn : Fn) (first cap : Array Value) (w : World), (Instr.makeFunc fn first cap).run Try.prog w = .ok (.func fn first cap) w := fun _ _ _ _ => rfl
  obtain ⟨W3, hW3⟩ : ∃ W3, W3 = ((w.alloc (.cells #[.slice (some ⟨b.K, 0, none⟩) b.R b.R] 139)).alloc (.cells #[.int .i64 s.v, .int .i64 s.f, .slice sa s.args.length sc, .int .i64 (i : Int), .slice spa s.args.length spc] 135)).alloc (.cells #[.int .i64 t.v, .int .i64 t.f, .slice ta t.args.length tc, .int .i64 (j : Int), .slice tpa t.args.length tpc] 135) := ⟨_, rfl⟩
  have hb3 : Below w.heap.size w W3 := by rw [hW3]; exact ((below1 _ _).alloc (by simp) _).alloc (by simp; omega) _
  have hB : Boxes b n w.heap.size s i sa sc spa spc t j ta tc tpa tpc W3 := by
    have s1 : ∀ o, (w.alloc o).heap.size = w.heap.size + 1 := fun o => World.size_alloc _ _
    have s2 : ∀ o o', ((w.alloc o).alloc o').heap.size = w.heap.size + 1 + 1 := fun o o' => by rw [World.size_alloc, s1]
    refine ⟨?_, ?_, ?_, hs.kt (KT.of_below hb3), ht.kt (KT.of_below hb3), htab.gs (GS.of_below hb3), htab.rb⟩
    · rw [hW3, cell_alloc_lt (by rw [s2]; omega), cell_alloc_lt (by rw [s1]; omega), cell_new 0 rfl]; rfl
    · rw [hW3]
      refine (Five.of_heap (e := 135) (fr := (0, 0)) ?_).same (Below.heap_alloc _ _ _ (by rw [s2]; omega))
      have h9 := heap_alloc_new (w.alloc (.cells #[.slice (some ⟨b.K, 0, none⟩) b.R b.R] 139)) (.cells #[.int .i64 s.v, .int .i64 s.f, .slice sa s.args.length sc, .int .i64 (i : Int), .slice spa s.args.length spc] 135)
      rw [s1] at h9
      exact h9
    · rw [hW3]
      refine Five.of_heap (e := 135) (fr := (0, 0)) ?_
      have h9 := heap_alloc_new ((w.alloc (.cells #[.slice (some ⟨b.K, 0, none⟩) b.R b.R] 139)).alloc (.cells #[.int .i64 s.v, .int .i64 s.f, .slice sa s.args.length sc, .int .i64 (i : Int), .slice spa s.args.length spc] 135)) (.cells #[.int .i64 t.v, .int .i64 t.f, .slice ta t.args.length tc, .int .i64 (j : Int), .slice tpa t.args.length tpc] 135)
      rw [s2] at h9
      exact h9
  have HB := hide hB
  have HW3 := hide hW3
  have hgt := gt_eq s t
  have hsl : s.args.length ≤ 1000 := by have := T.length_le s.args; have := T.sz_eq s; have := hs.sz; omega
  have htl : t.args.length ≤ 1000 := by have := T.length_le t.args; have := T.sz_eq t; have := ht.sz; omega
  have H3 : Hid (GS b n w W3) := GS.of_below hb3
  obtain ⟨_, _, _, _, q4⟩ := hB.s5
  obtain ⟨_, _, _, _, p4⟩ := hB.t5
  clear hW3 hB
  by_cases h1 : s.v = 0
  · by_cases h2 : t.v = 0
    · rw [if_neg (by simp [h1]), if_neg (by simp [h2])] at hgt
      have HC1 := hide (partHas_any b n b.PS 129 #[.pointer (some ⟨w.heap.size + 1 + 1, 0, none⟩), .pointer (some ⟨w.heap.size, 0, none⟩)] (fun a => sameT a t || gt a t) (Boxes b n w.heap.size s i sa sc spa spc t j ta tc tpa tpc) eg129 (fun _ _ hg h => h.gs hg) s.args
        (fun w' x m xa xc xpa xpc hI hx hnum hsub hin hpl => ask1_any b n hgr x m t j xa xc xpa xpc ta tc tpa tpc w.heap.size (w.heap.size + 1 + 1) w' (by have := arg_sz hx; omega) ⟨okL_mem.1 (okP_iff.1 hs.ok).2 x hx, hnum, hsub, hin, hpl, by have := arg_sz hx; have := hs.sz; omega⟩ hI.pat hI.k hI.t5 hI.tab)
        (i + 1) spa spc W3 hsl HB.out.pas.pl HB.out.pas.sub HB.out)
      have HC2 := hide (fun (w' : World) (hB' : Boxes b n w.heap.size s i sa sc spa spc t j ta tc tpa tpc w') => partHas_any b n b.PT 130 #[.pointer (some ⟨w.heap.size, 0, none⟩), .pointer (some ⟨w.heap.size + 1, 0, none⟩)] (fun c => !gt s c) (Boxes b n w.heap.size s i sa sc spa spc t j ta tc tpa tpc) eg130 (fun _ _ hg h => h.gs hg) t.args
        (fun w' x m xa xc xpa xpc hI hx hnum hsub hin hpl => ask2_any b n hgr x m s i xa xc xpa xpc sa sc spa spc w.heap.size (w.heap.size + 1) w' (by have := arg_sz hx; omega) ⟨okL_mem.1 (okP_iff.1 ht.ok).2 x hx, hnum, hsub, hin, hpl, by have := arg_sz hx; have := ht.sz; omega⟩ hI.pas hI.k hI.s5 hI.tab)
        (j + 1) tpa tpc w' htl hB'.pat.pl hB'.pat.sub hB')
      have HF := hide (fun (w' : World) (hB' : Boxes b n w.heap.size s i sa sc spa spc t j ta tc tpa tpc w') (hl : s.args.length = t.args.length) => fgr_any b n hgr s i t j sa sc spa spc ta tc tpa tpc w' hn hl hB'.pas hB'.pat hB'.tab)
      have Har := hide (fun hf => same_arity hs.ok ht.ok h1 h2 hf)
      have Hgt := hide hgt
      have e1 : (s.v != 0) = false := by simpa using h1
      have e2 : (t.v != 0) = false := by simpa using h2
      have HB0 := HB.out
      obtain ⟨f0, f1, f2, f3, f4⟩ := HB0.s5
      obtain ⟨g0, g1, g2, g3, g4⟩ := HB0.t5
      clear hgt hgr h1 h2 HB0
      go_enter Try.func118, Try.ntmps118
      go_wp2_with fail
      rw [← HW3.out]
      refine HC1.out.mono ?_
      rintro e w4 ⟨rfl, hg4⟩
      have HB4 := hide (HB.out.gs hg4)
      have H4 := hide (H3.out.trans hg4)
      have HB40 := HB4.out
      obtain ⟨a0, a1, a2, a3, a4⟩ := HB40.s5
      obtain ⟨c0, c1, c2, c3, c4⟩ := HB40.t5
      have k4 := HB40.k
      clear HB40 hg4 HC1 f0 f1 f2 f3 f4 g0 g1 g2 g3 g4 q4 p4
      rcases Bool.eq_false_or_eq_true (s.args.any (fun a => sameT a t || gt a t)) with hany | hany
      · rw [hany]
        have Hfin : Hid (gt s t = true) := by show _ = _; rw [Hgt.out, hany]; rfl
        clear hany
        go_wp2_with fail
        go_ret
        exact ⟨ret_bool Hfin.out.symm, H4.out⟩
      · rw [hany]
        by_cases hf1 : s.f < t.f
        · have Hfin : Hid (gt s t = false) := by show _ = _; rw [Hgt.out, hany, decide_eq_true hf1]; rfl
          clear hany
          go_wp2_with fail
          go_ret
          exact ⟨ret_bool Hfin.out.symm, H4.out⟩
        · have Hg2 : Hid (gt s t = if t.args.any (fun c => !gt s c) then false else decide (t.f < s.f) || firstN gt s.args t.args) := by
            show _ = _
            rw [Hgt.out, hany, decide_eq_false hf1, Bool.false_or]; rfl
          clear hany
          go_wp2_with fail
          refine (HC2.out _ HB4.out).mono ?_
          rintro e w5 ⟨rfl, hg5⟩
          have HB5 := hide (HB4.out.gs hg5)
          have H5 := hide (H4.out.trans hg5)
          have HB50 := HB5.out
          obtain ⟨d0, d1, d2, d3, d4⟩ := HB50.s5
          obtain ⟨e0, e1', e2', e3, e4⟩ := HB50.t5
          have k5 := HB50.k
          clear HB50 hg5 HC2 a0 a1 a2 a3 a4 c0 c1 c2 c3 c4 k4
          rcases Bool.eq_false_or_eq_true (t.args.any (fun c => !gt s c)) with hany2 | hany2
          · rw [hany2]
            have Hfin : Hid (gt s t = false) := by show _ = _; rw [Hg2.out, hany2]; rfl
            clear hany2
            go_wp2_with fail
            go_ret
            exact ⟨ret_bool Hfin.out.symm, H5.out⟩
          · rw [hany2]
            by_cases hf2 : t.f < s.f
            · have Hfin : Hid (gt s t = true) := by show _ = _; rw [Hg2.out, hany2, decide_eq_true hf2]; rfl
              clear hany2
              go_wp2_with fail
              go_ret
              exact ⟨ret_bool Hfin.out.symm, H5.out⟩
            · have Hfin : Hid (gt s t = firstN gt s.args t.args) := by show _ = _; rw [Hg2.out, hany2, decide_eq_false hf2, Bool.false_or]; rfl
              have HF5 := hide (HF.out w5 HB5.out (Har.out (by omega)))
              clear hany2 HF
              go_wp2_with fail
              refine HF5.out.mono ?_
              rintro e w6 ⟨rfl, hg6⟩
              have H6 := hide (H5.out.trans hg6)
              clear hg6
              go_wp2_with fail
              go_ret
              exact ⟨ret_bool (by rw [Hfin.out, decide_eq_false (show ¬ t.f < s.f by omega), Bool.false_or]), H6.out⟩
    · rw [if_neg (by simp [h1]), if_pos h2] at hgt
      have Hgt := hide hgt
      have e1 : (s.v != 0) = false := by simpa using h1
      have e2 : (t.v != 0) = true := by simpa using h2
      have HS := hide (stands_any 1000 (Nat.le_refl _) t.v s sa sc W3 hs.sz HB.out.pas.inl)
      clear hgt hgr h1 h2 q4 p4
      go_enter Try.func118, Try.ntmps118
      go_wp2_with fail
      rw [← HW3.out]
      refine HS.out.mono ?_
      rintro e w4 ⟨rfl, hb4⟩
      have H4 := hide (H3.out.trans (GS.of_below hb4))
      clear hb4
      go_wp2_with fail
      go_ret
      exact ⟨ret_bool Hgt.out.symm, H4.out⟩
  · rw [if_pos h1] at hgt
    have Hgt := hide hgt
    have e1 : (s.v != 0) = true := by simpa using h1
    clear hgt hgr h1 q4 p4
    go_enter Try.func118, Try.ntmps118
    go_wp2_with fail
    rw [← HW3.out]
    go_ret
    exact ⟨ret_bool Hgt.out.symm, H3.out⟩

end Go.Proofs.Ythlcghimjfgedaa
