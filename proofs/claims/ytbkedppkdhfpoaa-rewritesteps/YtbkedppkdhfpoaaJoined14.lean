/- The program's step: what it answers. The document's list of the places of a term. Bindings appended to a list of the call's own: some, or none. -/
import Derived.Laws.AppendOwnNone
import Derived.Maps.AppendAt
import Derived.Test.YtbkedppkdhfpoaaJoined13
namespace Go.Proofs.Ytbkedppkdhfpoaa
open Go.RowKit

/-- A term in blocks of which q holds, a yes or no, and an error handed back. -/
def GivesS (q : Nat → Prop) (x : T × Bool × Int) (e : Ending) (w' : World) : Prop :=
  ∃ a1 cap1, e = .returned (.tuple #[.agg #[.int .i64 x.1.v, .int .i64 x.1.f, .slice a1 x.1.args.length cap1], .bool x.2.1, .int .i64 x.2.2]) ∧ InP q w' x.1.args a1
theorem givesS_zero (q : Nat → Prop) (w' : World) : GivesS q (zeroT, false, 2) (.returned (.tuple #[.agg #[.int .i64 0, .int .i64 0, .slice none 0 0], .bool false, .int .i64 2])) w' := ⟨none, 0, rfl, InP_nil⟩

theorem rules_ok {ar : List Int} {rs : List (T × T)} (h : rulesErr ar rs = 0) : sigErr ar = 0 ∧ rs.length ≤ 20 ∧ RulesOk ar rs := by
  have hsig : sigErr ar = 0 := by
    rw [rulesErr] at h
    by_cases h1 : sigErr ar = 0
    · exact h1
    · rw [if_neg h1] at h; exact absurd h h1
  rw [rulesErr, if_pos hsig] at h
  by_cases h2 : 20 < rs.length
  · rw [if_pos h2] at h; cases h
  · rw [if_neg h2] at h
    refine ⟨hsig, by omega, fun x hx => ?_⟩
    have h3 := ruleErr_mem h x hx
    have h4 := allErr_iff.1 h3.1
    exact ⟨h4.2 x.1 (by simp), h4.2 x.2 (by simp), h3.2⟩

/-- A list of the call's own, with where it lies. -/
theorem own_where {base : Nat} {w : World} {v : Value} {l : List Int} (h : OwnI base w v l) : ∃ a cap, v = .slice a l.length cap ∧ ∀ w' : World, (∀ k, base ≤ k → k < w.heap.size → w'.heap[k]? = w.heap[k]?) → Ints w' l a := by
  have hi := own_ints h
  have hl := own_lt h
  rcases h.2 with ⟨rfl, h0⟩ | ⟨g, cap, cur, rfl, hb, hg, hc, hm, hs, ht⟩
  · exact ⟨none, 0, by rw [h0], fun _ _ => Or.inl (List.length_eq_zero_iff.1 h0)⟩
  · obtain ⟨a', cap', he, hI, _⟩ := hi
    simp only [Value.slice.injEq, true_and] at he
    obtain ⟨rfl, rfl⟩ := he
    refine ⟨_, _, rfl, fun w' hw => ?_⟩
    rcases hI with hI | ⟨b, off, he, hcell⟩
    · exact Or.inl hI
    · simp only [Option.some.injEq, Addr.mk.injEq, and_true] at he
      obtain ⟨rfl, rfl⟩ := he
      exact Or.inr ⟨g, 0, rfl, fun i hi => by rw [World.cell?_of_block (w := w) (a := ⟨g, 0 + i, none⟩) (hw g (hl g rfl).1 (hl g rfl).2)]; exact hcell i hi⟩

/-- What step lays ahead of its search. -/
structure SixB (ar : List Int) (ga : Option Addr) (gcap : Nat) (rs : List (T × T)) (ra : Option Addr) (rc : Nat) (t : T) (a : Option Addr) (cap : Nat) (w W : World) : Prop where
  b : Below w.heap.size w W
  size : W.heap.size = w.heap.size + 6
  g : W.cell? ⟨w.heap.size, 0, none⟩ = some (.slice ga ar.length gcap)
  l : W.cell? ⟨w.heap.size + 1, 0, none⟩ = some (.slice ra rs.length rc)
  t : Three W (w.heap.size + 1 + 1) (.int .i64 t.v) (.int .i64 t.f) (.slice a t.args.length cap)
  r : Three W (w.heap.size + 1 + 1 + 1) (.int .i64 0) (.int .i64 0) (.slice none 0 0)
  tt : Three W (w.heap.size + 1 + 1 + 1 + 1) (.int .i64 0) (.int .i64 0) (.slice none 0 0)
  y : W.cell? ⟨w.heap.size + 1 + 1 + 1 + 1 + 1, 0, none⟩ = some (.slice none 0 0)
  yf : W.frozen? ⟨w.heap.size + 1 + 1 + 1 + 1 + 1, 0, none⟩ = false
theorem SixB.new (ar : List Int) (ga : Option Addr) (gcap : Nat) (rs : List (T × T)) (ra : Option Addr) (rc : Nat) (t : T) (a : Option Addr) (cap : Nat) (w : World) (e1 e2 e3 e4 e5 e6 : TypeId) :
    SixB ar ga gcap rs ra rc t a cap w ((((((w.alloc (.cells #[.slice ga ar.length gcap] e1)).alloc (.cells #[.slice ra rs.length rc] e2)).alloc (.cells #[.int .i64 t.v, .int .i64 t.f, .slice a t.args.length cap] e3)).alloc (.cells #[.int .i64 0, .int .i64 0, .slice none 0 0] e4)).alloc (.cells #[.int .i64 0, .int .i64 0, .slice none 0 0] e5)).alloc (.cells #[.slice none 0 0] e6)) where
  b := (((((below1 w _).alloc (by simp <;> omega) _).alloc (by simp <;> omega) _).alloc (by simp <;> omega) _).alloc (by simp <;> omega) _).alloc (by simp <;> omega) _
  size := by simp
  g := by
    rw [cell_alloc_lt (by simp <;> omega), cell_alloc_lt (by simp <;> omega), cell_alloc_lt (by simp <;> omega), cell_alloc_lt (by simp <;> omega), cell_alloc_lt (by simp)]; exact cell_new 0 rfl
  l := by
    rw [cell_alloc_lt (by simp <;> omega), cell_alloc_lt (by simp <;> omega), cell_alloc_lt (by simp <;> omega), cell_alloc_lt (by simp)]; exact cell_new 0 (by simp)
  t := (((Three.new e3 (by simp)).alloc _).alloc _).alloc _
  r := ((Three.new e4 (by simp)).alloc _).alloc _
  tt := (Three.new e5 (by simp)).alloc _
  y := cell_new 0 (by simp)
  yf := by
    have h : ∀ (W : World) (n : Nat), n = W.heap.size → (W.alloc (.cells #[.slice none 0 0] e6)).frozen? ⟨n, 0, none⟩ = false := fun W n hn => by subst hn; simp
    exact h _ _ (by simp)
theorem SixB.fs {ar : List Int} {ga : Option Addr} {gcap : Nat} {rs : List (T × T)} {ra : Option Addr} {rc : Nat} {t : T} {a : Option Addr} {cap : Nat} {w W : World} (h : SixB ar ga gcap rs ra rc t a cap w W) (hrs : rulesErr ar rs = 0) (hg : Ints w ar ga) (hr : RulesP (fun _ => True) w rs ra) :
    FSz ar ga gcap rs ra rc (w.heap.size + 1) w.heap.size (w.heap.size + 1 + 1 + 1 + 1) (w.heap.size + 1 + 1 + 1 + 1 + 1) (w.heap.size + 6) W where
  rsok := hrs
  l := h.l
  g := h.g
  r := RulesP_mono (fun b o v hp hv => ⟨by have hp := hp.2; omega, by rw [h.b.cell (p := ⟨b, o, none⟩) hp.2]; exact hv⟩) (RulesP_lt hr)
  gi := fun w' hs => by
    rcases hg with hg | ⟨b, off, rfl, hg⟩
    · exact Or.inl hg
    · refine Or.inr ⟨b, off, rfl, fun i hi => ?_⟩
      have hb := lt_of_cell (hg i hi)
      rw [World.cell?_of_block (w := W) (a := ⟨b, off + i, none⟩) (hs b (by omega) (by omega) (by omega)), h.b.cell (p := ⟨b, off + i, none⟩) hb]
      exact hg i hi
  ll := by omega
  gl := by omega
  tl := by omega
  bl := by omega
  ne := by omega
theorem SixB.fd {ar : List Int} {ga : Option Addr} {gcap : Nat} {rs : List (T × T)} {ra : Option Addr} {rc : Nat} {t : T} {a : Option Addr} {cap : Nat} {w W : World} (h : SixB ar ga gcap rs ra rc t a cap w W) : FD (w.heap.size + 1 + 1 + 1 + 1) (w.heap.size + 1 + 1 + 1 + 1 + 1) (w.heap.size + 6) W W :=
  ⟨fun _ _ _ _ => rfl, ⟨_, _, _, h.tt⟩, ⟨_, h.y⟩, h.yf, by have := h.size; omega⟩

theorem putSpec_made {ar : List Int} {t z u : T} {p : List Int} (hs : sigErr ar = 0) (ht : t.sz ≤ 120 ∧ okP ar t) (hz : z.sz ≤ 120 ∧ okP ar z) (hu : atT t p = some u) : putSpec ar t p z = if 120 < (putT z t p).sz then (zeroT, 2) else (putT z t p, 0) := by
  have h : allErr ar [t, z] = 0 := allErr_iff.2 ⟨hs, fun x hx => by
    rcases List.mem_cons.1 hx with rfl | hx
    · exact ht
    · rcases List.mem_cons.1 hx with rfl | hx
      · exact hz
      · cases hx⟩
  have hsz := putT_sz (u := z) hu
  have hc := atT_sz hu
  rw [putSpec, if_pos h, hu]
  by_cases h1 : 120 < (putT z t p).sz
  · simp only [if_pos h1, if_pos (show 120 < (t.sz : Int) - u.sz + z.sz by omega)]
  · simp only [if_neg h1, if_neg (show ¬ 120 < (t.sz : Int) - u.sz + z.sz by omega)]
theorem applySpec_made {ar : List Int} {y : T} {bs : List (Int × T)} (hs : sigErr ar = 0) (hb : bindErr ar 0 bs = 0) (hy : y.sz ≤ 120 ∧ okP ar y) : applySpec ar bs y = if 120 < (applyT bs y).sz then (zeroT, 2) else (applyT bs y, 0) := by
  rw [applySpec, bindsErr, if_pos hs, if_pos hb, if_pos (termErr_iff.2 hy)]

set_option maxRecDepth 100000 in
set_option maxHeartbeats 1000000 in
theorem step_any (ar : List Int) (ga : Option Addr) (gcap : Nat) (rs : List (T × T)) (ra : Option Addr) (rc : Nat) (t : T) (a : Option Addr) (cap : Nat) (w : World) (hrs : rulesErr ar rs = 0) (ht : t.sz ≤ 120 ∧ okP ar t) (hg : Ints w ar ga) (hr : RulesP (fun _ => True) w rs ra) (hin : InL w t.args a) :
    Calls Try.prog 84 #[.agg #[.slice ga ar.length gcap], .slice ra rs.length rc, .agg #[.int .i64 t.v, .int .i64 t.f, .slice a t.args.length cap]] w fun e w' => GivesS (fun k => w.heap.size ≤ k) (stepSpec rs t) e w' ∧ Below w.heap.size w w' := by
  have HS := hide (fun e1 e2 e3 e4 e5 e6 => SixB.new ar ga gcap rs ra rc t a cap w e1 e2 e3 e4 e5 e6)
  have HF := hide (fun (W : World) (h : SixB ar ga gcap rs ra rc t a cap w W) => first_any (h.fs hrs hg hr) (w.heap.size + 6) (Nat.le_refl _) t.sz t a cap (.slice none 0 0) [] W (Nat.le_refl _) ht.1 ht.2 (by simp <;> omega) h.fd (by have := h.size; omega) (World.ownsRow_nil _ _ _ _) (InP_mono (p := fun k => True ∧ k < w.heap.size) (fun b o v hp hv => ⟨by have hp := hp.2; omega, by rw [h.b.cell (p := ⟨b, o, none⟩) hp.2]; exact hv⟩) _ _ _ (Nat.le_refl _) (InP_lt hin)))
  have Hro := hide (rules_ok hrs)
  have Ht := hide ht
  have Hg := hide hg
  have Hin := hide hin
  obtain ⟨S, hS⟩ : ∃ S, S = stepSpec rs t := ⟨_, rfl⟩
  rw [← hS]
  have HSp := hide hS
  clear hS hrs ht hg hr hin
  go_enter Try.func84, Try.ntmps84
  go_wp2_with fail
  have HW0 := hide (HS.out 24 70 27 27 27 51)
  generalize ((((((w.alloc (.cells #[.slice ga ar.length gcap] 24)).alloc (.cells #[.slice ra rs.length rc] 70)).alloc (.cells #[.int .i64 t.v, .int .i64 t.f, .slice a t.args.length cap] 27)).alloc (.cells #[.int .i64 0, .int .i64 0, .slice none 0 0] 27)).alloc (.cells #[.int .i64 0, .int .i64 0, .slice none 0 0] 27)).alloc (.cells #[.slice none 0 0] 51)) = W at *
  clear HS
  refine (HF.out _ HW0.out).mono ?_
  rintro e w1 ⟨v1, B, rfl, hout⟩
  have hzW := HW0.out.size
  rcases hout with ⟨hB, hr1, hv1, ho1, hg1⟩ | ⟨hB, p, y, bs, a1, c1, la, lc, hr1, ho1, hT1, hI1, hc1, hf1, hb1, e1, e2, e3, e4, e5⟩
  · subst hB hv1
    have hbW1 : Below W.heap.size W w1 := ⟨hg1.os, hg1.tape, hg1.output, hg1.size, fun k hk => hg1.block k hk (fun e => by cases e)⟩
    have hb1 : Below w.heap.size w w1 := HW0.out.b.trans (hbW1.mono (by omega))
    obtain ⟨c0, c1, c2, _, _, _⟩ := HW0.out.t.below hbW1
    have HR1 := hide (HW0.out.r.below hbW1)
    have Hsp : Hid (S = (t, false, 0)) := by show _ = _; rw [HSp.out, stepSpec, hr1]
    have HC := hide (copyOf_any (t.sz + 1) t a cap w1 (by omega) (by have := Ht.out.1; omega) (InP_below hb1 Hin.out))
    have Hb1 := hide hb1
    have hz1 : w.heap.size + 1 + 1 + 1 < w1.heap.size := by have := hg1.size; omega
    clear hr1 ho1 hg1 hbW1 hb1 HF HW0 HSp
    go_wp2_with fail
    refine HC.out.mono ?_
    rintro e w2 ⟨s, B, rfl, ho, _, hBk, hb2⟩
    obtain ⟨a2, cap2, rfl, hin2⟩ := Own_in ho
    obtain ⟨d0, d1, d2, f0, f1, f2⟩ := HR1.out.below hb2
    have Hb2 := hide (Hb1.out.trans (hb2.mono Hb1.out.size))
    have Hin2 : Hid (InP (fun k => w.heap.size ≤ k ∧ k ≠ w.heap.size + 1 + 1 + 1) w2 t.args a2) := by
      obtain ⟨a3, cap3, he, hi3⟩ := In_iff.1 (Own_inP ho)
      simp only [Value.slice.injEq, true_and] at he
      obtain ⟨rfl, rfl⟩ := he
      exact InP_imp (fun k hk => by have := (hBk k hk).1; omega) hi3
    have hz2 : w.heap.size + 1 + 1 + 1 < w2.heap.size := by have := hb2.size; omega
    clear ho hBk hb2 hin2 c0 c1 c2 HC
    go_wp2_with fail
    exact bodyPost_ret (v := .tuple #[.agg #[.int .i64 t.v, .int .i64 t.f, .slice a2 t.args.length cap2], .bool false, .int .i64 0]) (by simp [results, Try.results84, go_sem, d0, d1, d2]) rfl
      ⟨by rw [Hsp.out]; exact ⟨a2, cap2, rfl, InP_imp (fun k hk => hk.1) (InP_same (fun k hk _ => set3_block hk.2) Hin2.out)⟩, below_set3 Hb2.out (by omega) _ _ _⟩
  · subst hB
    obtain ⟨u, hu1, hpl, hy, hbe, hbo, hok⟩ := find_ok Hro.out.2.2 Ht.out hr1
    have Hsp : Hid (S = madeR t p y bs) := by show _ = _; rw [HSp.out, stepSpec, hr1]
    have Hap := hide (applySpec_made Hro.out.1 hbe hy)
    have Hpu := hide (fun hz => putSpec_made (z := applyT bs y) Hro.out.1 Ht.out ⟨hz, hok⟩ hu1)
    obtain ⟨pa, pc, hv1, hpI⟩ := own_where ho1
    rw [List.nil_append] at hv1 hpI
    subst hv1
    have hbl : bs.length ≤ 9223372036854775807 := by have := (bindErr_rise hbe).2.2 (by omega) (by omega); omega
    have hb1w : Below w.heap.size w w1 := ⟨e1.trans HW0.out.b.os, e2.trans HW0.out.b.tape, e3.trans HW0.out.b.output, by have := HW0.out.b.size; omega, fun k hk => by rw [e5 k (by omega) (by omega) (by omega) (by simp [Value.ownBlock]), HW0.out.b.block k hk]⟩
    have cg : w1.cell? ⟨w.heap.size, 0, none⟩ = some (.slice ga ar.length gcap) := by
      rw [World.cell?_of_block (w := W) (a := ⟨w.heap.size, 0, none⟩) (e5 w.heap.size (by omega) (by omega) (by omega) (by simp [Value.ownBlock]))]; exact HW0.out.g
    have HT2 := hide (HW0.out.t.same (e5 (w.heap.size + 1 + 1) (by omega) (by omega) (by omega) (by simp [Value.ownBlock])))
    have HR2 := hide (HW0.out.r.same (e5 (w.heap.size + 1 + 1 + 1) (by omega) (by omega) (by omega) (by simp [Value.ownBlock])))
    have HA := hide (Apply_new ar ga gcap bs la lc y a1 c1 w1 (Ints_below hb1w Hg.out) hbl (Binds_imp (fun _ _ => trivial) hb1) (InP_imp (fun _ _ => trivial) hI1))
    have HTT := hide hT1
    obtain ⟨t0, t1, t2, _, _, _⟩ := hT1
    have Hb1 := hide hb1w
    have HpI := hide hpI
    have hz1 : w.heap.size + 6 ≤ w1.heap.size := by omega
    have hpl2 : p.length ≤ 9223372036854775807 := by omega
    clear hr1 ho1 hI1 hf1 hb1 e1 e2 e3 e4 e5 hb1w HF HW0 HSp hu1 hy hbe hbo hok hpI hpl
    go_wp2_with fail
    refine HA.out.mono ?_
    rintro e w2 ⟨⟨a2, c2, rfl, hin2⟩, hb2⟩
    have HTT2 := hide (HTT.out.below hb2)
    have HT3 := hide (HT2.out.below hb2)
    have HR3 := hide (HR2.out.below hb2)
    have cg2 : w2.cell? ⟨w.heap.size, 0, none⟩ = some (.slice ga ar.length gcap) := by rw [hb2.cell (p := ⟨w.heap.size, 0, none⟩) (show w.heap.size < w1.heap.size by omega)]; exact cg
    have Hb2 := hide (Hb1.out.trans (hb2.mono Hb1.out.size))
    have HpI2 : Hid (∀ w' : World, (∀ k, w.heap.size + 6 ≤ k → k < w1.heap.size → w'.heap[k]? = w2.heap[k]?) → Ints w' p pa) := fun w' hw => HpI.out w' (fun k h1 h2 => (hw k h1 h2).trans (hb2.block k h2))
    have hz2 : w.heap.size + 6 ≤ w2.heap.size := by have := hb2.size; omega
    rw [Hap.out] at hin2 ⊢
    clear hb2 cg t0 t1 t2 hc1 HTT HT2 HR2 HpI Hap HA
    by_cases hbig : 120 < (applyT bs y).sz
    · rw [if_pos hbig] at hin2 ⊢
      have Hsp2 : Hid (S = (zeroT, false, 2)) := by show _ = _; rw [Hsp.out, madeR, if_pos hbig]
      clear hbig Hsp Hpu
      obtain ⟨x0, x1, x2, xf0, xf1, xf2⟩ := HTT2.out
      obtain ⟨d0, d1, d2, f0, f1, f2⟩ := HR3.out
      simp only [zeroT, List.length_nil]
      go_wp2_with fail
      exact bodyPost_ret (v := .tuple #[.agg #[.int .i64 0, .int .i64 0, .slice none 0 0], .bool false, .int .i64 2]) (by simp [results, Try.results84, go_sem, d0, d1, d2]) rfl
        ⟨by rw [Hsp2.out]; exact givesS_zero _ _, below_set3 (below_set3 (off := 0) Hb2.out (b := w.heap.size + 1 + 1 + 1 + 1) (by omega) _ _ _) (by omega) _ _ _⟩
    · rw [if_neg hbig] at hin2 ⊢
      have Hsp2 : Hid (S = if 120 < (putT (applyT bs y) t p).sz then (zeroT, false, 2) else (putT (applyT bs y) t p, true, 0)) := by show _ = _; rw [Hsp.out, madeR, if_neg hbig]
      have Hpu2 := hide (Hpu.out (by omega))
      obtain ⟨z, hz⟩ : ∃ z, z = applyT bs y := ⟨_, rfl⟩
      rw [← hz] at hin2 Hsp2 Hpu2 ⊢
      have Hin2 := hide hin2
      clear hbig Hsp Hpu hz hin2
      obtain ⟨x0, x1, x2, xf0, xf1, xf2⟩ := HTT2.out
      obtain ⟨q0, q1, q2, _, _, _⟩ := HT3.out
      have HIn3 : Hid (InL (set3 w2 (w.heap.size + 1 + 1 + 1 + 1) 0 (.int .i64 z.v) (.int .i64 z.f) (.slice a2 z.args.length c2)) z.args a2) := InP_mono (p := fun k => w1.heap.size ≤ k) (fun b o v hp hv => ⟨trivial, by rw [World.cell?_of_block (w := w2) (a := ⟨b, o, none⟩) (set3_block (show b ≠ w.heap.size + 1 + 1 + 1 + 1 by omega))]; exact hv⟩) _ _ _ (Nat.le_refl _) Hin2.out
      have HB3 := hide (below_set3 (off := 0) Hb2.out (b := w.heap.size + 1 + 1 + 1 + 1) (by omega) (.int .i64 z.v) (.int .i64 z.f) (.slice a2 z.args.length c2))
      have HX3 := hide (HTT2.out.set (.int .i64 z.v) (.int .i64 z.f) (.slice a2 z.args.length c2))
      have HP3 := hide (Put_new ar ga gcap t a cap p pa pc z a2 c2 (set3 w2 (w.heap.size + 1 + 1 + 1 + 1) 0 (.int .i64 z.v) (.int .i64 z.f) (.slice a2 z.args.length c2)) (Ints_below HB3.out Hg.out) (InP_below HB3.out Hin.out) (HpI2.out _ (fun k h1 _ => set3_block (by omega))) HIn3.out hpl2)
      rw [Hpu2.out] at HP3
      clear HpI2 Hpu2 Hin2 HIn3 HTT2 HT3
      go_wp2_with fail
      refine HP3.out.mono ?_
      rintro e w4 ⟨⟨a4, c4, rfl, hin4⟩, hb4⟩
      have hz4 : w.heap.size + 6 ≤ w4.heap.size := by have := hb4.size; rw [set3_size] at this; omega
      obtain ⟨d0, d1, d2, f0, f1, f2⟩ := (HR3.out.same (set3_block (off := 0) (u0 := .int .i64 z.v) (u1 := .int .i64 z.f) (u2 := .slice a2 z.args.length c2) (show w.heap.size + 1 + 1 + 1 ≠ w.heap.size + 1 + 1 + 1 + 1 by omega))).below hb4
      have Hb4 := hide (HB3.out.trans (hb4.mono (by rw [set3_size]; omega)))
      have Hin4 := hide hin4
      clear hb4 hin4 HP3 HB3 HX3 x0 x1 x2 xf0 xf1 xf2 q0 q1 q2 cg2
      rw [set3_size] at Hin4
      have hz4' : w.heap.size + 1 + 1 + 1 < w4.heap.size := by omega
      by_cases hb : 120 < (putT z t p).sz
      · have Hsp3 : Hid (S = (zeroT, false, 2)) := by show _ = _; rw [Hsp2.out, if_pos hb]
        simp only [if_pos hb, zeroT, List.length_nil]
        clear hb Hsp2 Hin4
        go_wp2_with fail
        exact bodyPost_ret (v := .tuple #[.agg #[.int .i64 0, .int .i64 0, .slice a4 0 c4], .bool false, .int .i64 2]) (by simp [results, Try.results84, go_sem, d0, d1, d2, hz4']) rfl
          ⟨by rw [Hsp3.out]; exact ⟨a4, c4, rfl, InP_nil⟩, (below_set3 Hb4.out (by omega) _ _ _).alloc (by rw [set3_size]; omega) _⟩
      · have Hsp3 : Hid (S = (putT z t p, true, 0)) := by show _ = _; rw [Hsp2.out, if_neg hb]
        rw [if_neg hb] at Hin4 ⊢
        clear hb Hsp2
        go_wp2_with fail
        exact bodyPost_ret (v := .tuple #[.agg #[.int .i64 (putT z t p).v, .int .i64 (putT z t p).f, .slice a4 (putT z t p).args.length c4], .bool true, .int .i64 0]) (by simp [results, Try.results84, go_sem, d0, d1, d2, hz4']) rfl
          ⟨by rw [Hsp3.out]; exact ⟨a4, c4, rfl, InP_imp (p := fun k => w2.heap.size ≤ k) (fun k hk => by omega) (InP_alloc _ (InP_same (fun k hk _ => set3_block (b := w.heap.size + 1 + 1 + 1) (off := 0) (by omega)) Hin4.out))⟩, (below_set3 Hb4.out (by omega) _ _ _).alloc (by rw [set3_size]; omega) _⟩

end Go.Proofs.Ytbkedppkdhfpoaa

namespace Go.Proofs.Ytbkedppkdhfpoaa
open Go.RowKit

/-- Lists that are somewhere. -/
def RS (xs : List Value) : Prop := ∀ x, x ∈ xs → ∃ b n c, x = .slice (some ⟨b, 0, none⟩) n c ∧ n ≤ c
theorem RS_append {xs ys : List Value} (h1 : RS xs) (h2 : RS ys) : RS (xs ++ ys) := fun x hx => by
  rcases List.mem_append.1 hx with hx | hx
  · exact h1 x hx
  · exact h2 x hx
theorem RS_one {b n c : Nat} (h : n ≤ c) : RS [.slice (some ⟨b, 0, none⟩) n c] := fun x hx => by
  rw [List.mem_singleton] at hx
  exact ⟨b, n, c, hx, h⟩
theorem OwnI.oneAt {base n : Nat} {w : World} {z : Int} (h : w.heap[n]? = some (.cells #[.int .i64 z] 3)) (hb : base ≤ n) : OwnI base w (.slice (some ⟨n, 0, none⟩) 1 1) [z] :=
  ⟨by simp, Or.inr ⟨n, 1, #[.int .i64 z], rfl, hb, h, by simp, by decide, by simp, by simp⟩⟩
theorem src_row {p : Nat → Prop} {w : World} {l : List Int} {b c : Nat} (h : IP p w l (some ⟨b, 0, none⟩)) : SrcI w (.slice (some ⟨b, 0, none⟩) l.length c) l := by
  refine Or.inr ⟨b, 0, c, rfl, fun j hj => ?_⟩
  rcases h with rfl | ⟨b', off, he, _, hc⟩
  · simp at hj
  · simp only [Option.some.injEq, Addr.mk.injEq, and_true] at he
    obtain ⟨rfl, rfl⟩ := he
    exact hc j hj

theorem srcv_two {w : World} {o : Obj} {v : Value} {e : TypeId} (hv : v.oneCell' = true) : SrcV ((w.alloc o).alloc (.cells #[v] e)) (.slice (some ⟨w.heap.size + 1, 0, none⟩) 1 1) [v] := by
  have h := srcv_one (w := w.alloc o) (e := e) hv
  rw [World.size_alloc] at h
  exact h
/-- One more row behind those that are there. -/
theorem rows_more {B : Nat} {wi w6 w7 : World} {vi v6 v7 : Value} {R : List (List Int)} {l : List Int} {xi : List Value} {a6 : Option Addr} {c6 : Nat} (hki : RK (fun b => B ≤ b ∧ vi.ownBlock ≠ some b) wi R xi) (hil : IP (fun b => wi.heap.size ≤ b) w6 l a6) (hv6 : v6 = .slice a6 l.length c6)
    (hlo : ∀ k, vi.ownBlock = some k → k < wi.heap.size) (hB : B ≤ wi.heap.size) (h6 : ∀ k, k < wi.heap.size → w6.heap[k]? = wi.heap[k]?) (hz6 : wi.heap.size ≤ w6.heap.size) (hgr : w6.grownBy w7 vi.ownBlock) (hat : v7.ownBlock = vi.ownBlock ∨ v7.ownBlock = some w6.heap.size) :
    RK (fun b => B ≤ b ∧ v7.ownBlock ≠ some b) w7 (R ++ [l]) (xi ++ [v6]) := by
  refine RK_append (RK_mono (fun k hk hlt => ?_) hki) ⟨a6, c6, [], by rw [hv6], IP_mono (fun k hk hlt => ?_) hil, rfl⟩
  · refine ⟨⟨hk.1, ?_⟩, by rw [hgr.block k (by omega) (fun e => hk.2 e.symm)]; exact h6 k hlt⟩
    rcases hat with h | h
    · rw [h]; exact hk.2
    · rw [h]; intro e; cases e; omega
  · refine ⟨⟨by omega, ?_⟩, hgr.block k hlt (fun e => by have := hlo k e.symm; omega)⟩
    rcases hat with h | h
    · rw [h]; intro e; have := hlo k e; omega
    · rw [h]; intro e; cases e; omega

set_option maxRecDepth 100000 in
set_option maxHeartbeats 2000000 in
theorem placesOf_any (N : Nat) : ∀ (t : T) (a : Option Addr) (cap : Nat) (w : World), t.sz ≤ N → t.sz ≤ 120 → InL w t.args a →
    Calls Try.prog 85 #[.agg #[.int .i64 t.v, .int .i64 t.f, .slice a t.args.length cap]] w fun e w' =>
      ∃ v xs, e = .returned v ∧ w'.ownsRow w.heap.size 22 1 v (placesT t).length xs ∧ RK (fun k => w.heap.size ≤ k ∧ v.ownBlock ≠ some k) w' (placesT t) xs ∧ RS xs ∧ Below w.heap.size w w' := by
  induction N with
  | zero => intro t a cap w hN; have := t.sz_pos; omega
  | succ N ih =>
    intro t a cap w hN h120 hin
    have Hih := hide ih
    have hts := T.sz_eq t
    have hlen : t.args.length ≤ 120 := by have := T.length_le t.args; omega
    obtain ⟨W1, hW1⟩ : ∃ W1, W1 = w.alloc (.cells #[.int .i64 t.v, .int .i64 t.f, .slice a t.args.length cap] 27) := ⟨_, rfl⟩
    have hzW : W1.heap.size = w.heap.size + 1 := by rw [hW1]; simp
    have hbW : Below w.heap.size w W1 := by rw [hW1]; exact below1 _ _
    have H3 : Hid (Three W1 w.heap.size (.int .i64 t.v) (.int .i64 t.f) (.slice a t.args.length cap)) := by rw [hW1]; exact Three.new 27 rfl
    have HW1 := hide hW1
    clear ih hW1
    go_enter Try.func85, Try.ntmps85
    go_wp2_with fail
    rw [← HW1.out]
    go_loopw [3, 4] (fun vo iv wr => ∃ (k : Nat) (xo : List Value), k ≤ t.args.length ∧ iv = .int .i64 k ∧ wr.ownsRow (w.heap.size + 1) 22 1 vo (placesT.placesL (t.args.take k) 0).length xo ∧ RK (fun b => w.heap.size + 1 ≤ b ∧ vo.ownBlock ≠ some b) wr (placesT.placesL (t.args.take k) 0) xo ∧ RS xo ∧ Below (w.heap.size + 1) W1 wr) (fun _ iv _ => t.args.length - (intOf iv).toNat)
    case atStart => exact ⟨0, [], Nat.zero_le _, rfl, ⟨rfl, Or.inl ⟨rfl, rfl⟩⟩, rfl, (fun x hx => by cases hx), Below.refl _ _⟩
    case round =>
      obtain ⟨k, xo, hk, rfl, hoo, hko, hso, hb⟩ := hrel
      have hzr := hb.size
      obtain ⟨c0, c1, c2, _, _, _⟩ := H3.out.same (hb.block w.heap.size (by omega))
      have hbw : Below w.heap.size w wr := hbW.trans (hb.mono (by omega))
      have hol : (placesT.placesL (t.args.take k) 0).length = T.sz.szL (t.args.take k) := ((places_sz _).2 _ 0 (Nat.le_refl _)).1
      by_cases hlt : k < t.args.length
      · obtain ⟨b, off, rfl⟩ := InP_some hin (by omega)
        obtain ⟨c, hc⟩ : ∃ c, t.args[k]? = some c := ⟨t.args[k], List.getElem?_eq_getElem hlt⟩
        obtain ⟨a1, cap1, _, k0, k1, k2, hin1⟩ := InP_at (InP_below hbw hin) hc
        obtain ⟨hs1, hs2⟩ := szL_take hc
        have hce := T.sz_eq c
        have hcsz := T.szL_mem (List.mem_of_getElem? hc)
        have Hcall := hide (Hih.out c a1 cap1 wr (by omega) (by omega) hin1)
        have Hst := hide (placesL_step hc)
        have hkI : (k : Int) < t.args.length := by omega
        have hk0 : (0 : Int) ≤ k := by omega
        obtain ⟨P, hP⟩ : ∃ P, P = placesT.placesL (t.args.take k) 0 := ⟨_, rfl⟩
        rw [← hP] at hoo hko hol
        have HP := hide hP
        have hPl : P.length + c.sz ≤ 120 := by omega
        have Hoo := hide hoo
        have Hko := hide hko
        have Hso := hide hso
        have Hb := hide hb
        clear hc hin1 hol hoo hko hso hb hce hs1 hs2 hcsz hP
        go_wp2_with fail
        refine Hcall.out.mono ?_
        rintro e wx ⟨vx, xx, rfl, hox, hkx, hsx, hbx⟩
        have hXs := (places_sz c.sz).1 c (Nat.le_refl _)
        obtain ⟨X, hX⟩ : ∃ X, X = placesT c := ⟨_, rfl⟩
        rw [← hX] at hox hkx hXs
        have hcp := c.sz_pos
        have hX0 : 0 < X.length := by omega
        obtain ⟨g, cx, rfl, hg1, hg2, hcx, _⟩ := own_cells1 hox hX0
        obtain ⟨S, hS⟩ : ∃ S, S = wr.heap.size := ⟨_, rfl⟩
        rw [← hS] at hkx
        have Hcx := hide hcx
        have Hkx := hide hkx
        have Hsx := hide hsx
        have HX := hide hX
        have HrL : Hid (∀ l, l ∈ X → l.length < c.sz) := hXs.2
        have hXl := hide hXs.1
        have hXl2 : X.length ≤ c.sz := by rw [hXs.1]; exact Nat.le_refl _
        have Hbx := hide hbx
        have hzx := hbx.size
        rw [← hS] at hg1 hzx
        have HS := hide hS
        have hBS : w.heap.size + 1 ≤ S := by omega
        clear hS hX hox hkx hsx hbx hXs hcx k0 k1 k2 c0 c1 c2 Hcall
        go_wp2_with fail
        go_loopw [3, 6] (fun vi kv wi => ∃ (kk : Nat) (xi : List Value), kk ≤ X.length ∧ kv = .int .i64 kk ∧ wi.ownsRow (w.heap.size + 1) 22 1 vi (P.length + kk) xi ∧ RK (fun b => w.heap.size + 1 ≤ b ∧ vi.ownBlock ≠ some b) wi (P ++ (X.take kk).map (fun p => (k : Int) :: p)) xi ∧ RS xi ∧
            (∀ b, vi.ownBlock = some b → b < S ∨ wx.heap.size ≤ b) ∧ (∀ b, S ≤ b → b < wx.heap.size → wi.heap[b]? = wx.heap[b]?) ∧ wx.heap.size ≤ wi.heap.size ∧ Below (w.heap.size + 1) W1 wi) (fun _ kv _ => X.length - (intOf kv).toNat)
        case atStart =>
          refine ⟨0, xo, Nat.zero_le _, rfl, own_same Hoo.out (fun g' hg' => Hbx.out.block g' (own_lt Hoo.out g' hg').2), ?_, Hso.out, fun b hb => Or.inl (by rw [HS.out]; exact (own_lt Hoo.out b hb).2), fun _ _ _ => rfl, Nat.le_refl _, Hb.out.trans (Hbx.out.mono (by omega))⟩
          rw [List.take_zero, List.map_nil, List.append_nil]
          exact RK_mono (fun k' hk' hl' => ⟨hk', Hbx.out.block k' hl'⟩) Hko.out
        case round =>
          obtain ⟨kk, xi, hkk, rfl, hoi, hki, hsi, hvi, hsame, hzi, hbi⟩ := hrel
          obtain ⟨ai, ci, hvi2⟩ := own_shape hoi
          subst hvi2
          by_cases hlt2 : kk < X.length
          · obtain ⟨l, hl⟩ : ∃ l, X[kk]? = some l := ⟨X[kk], List.getElem?_eq_getElem hlt2⟩
            obtain ⟨la, lc, hxl, hipl⟩ := RK_at Hkx.out hl
            obtain ⟨lb, ln, lc', he, hlc⟩ := Hsx.out _ (List.mem_of_getElem? hxl)
            simp only [Value.slice.injEq] at he
            obtain ⟨rfl, rfl, rfl⟩ := he
            have ck : wr.cell? ⟨g, kk, none⟩ = some (.slice (some ⟨lb, 0, none⟩) l.length lc) := by
              rw [World.cell?_of_block (w := wx) (a := ⟨g, kk, none⟩) (hsame g hg1 hg2)]; exact Hcx.out kk _ hxl
            have hipi : IP (fun _ => True) wr l (some ⟨lb, 0, none⟩) := IP_mono (fun k' hk' hl' => ⟨trivial, hsame k' hk'.1 hl'⟩) hipl
            have hll : l.length < c.sz := HrL.out l (List.mem_of_getElem? hl)
            have Htk : Hid (P ++ (X.take (kk + 1)).map (fun p => (k : Int) :: p) = (P ++ (X.take kk).map (fun p => (k : Int) :: p)) ++ [(k : Int) :: l]) := by
              show _ = _
              rw [List.take_add_one, hl, List.map_append, List.append_assoc]; rfl
            have HSr := hide (fun o1 => src_row (c := lc) (IP_mono (q := fun _ => True) (w' := wr.alloc o1) (fun k' hk' hl' => ⟨trivial, (below1 wr o1).block k' hl'⟩) hipi))
            have Hoi := hide hoi
            have Hki := hide hki
            have Hsi := hide hsi
            have Hvi := hide hvi
            have Hsame := hide hsame
            have Hbi := hide hbi
            have hkkI : (kk : Int) < X.length := by omega
            have hgwr : g < wr.heap.size := by omega
            have hkk0 : (0 : Int) ≤ kk := by omega
            clear hl hxl hipl hipi hoi hki hsi hvi hsame hbi hlc
            go_wp2_with (at_builtin; go_must (refine wpList_append_ints rfl (.tmp 28) (.tmp 32) rfl wr.heap.size (.slice (some ⟨wr.heap.size, 0, none⟩) 1 1) [(k : Int)] rfl (OwnI.oneAt (heap_alloc_new _ _) (Nat.le_refl _)) (.slice (some ⟨lb, 0, none⟩) l.length lc) l rfl (HSr.out _) (by rw [List.length_singleton]; omega) (by rw [World.size_alloc]; omega) ?_))
            intro v6 w6 hown6 hgr6 hat6
            obtain ⟨a6, c6, hv6, hip6⟩ := OwnI.ip hown6
            obtain ⟨_, _, hv6', _, hc6⟩ := own_ints hown6
            obtain ⟨g6, hg6⟩ : ∃ g6, v6.ownBlock = some g6 := by
              rcases hat6 with h | h
              · exact ⟨_, h⟩
              · exact ⟨_, h⟩
            have hg6w : wr.heap.size ≤ g6 ∧ g6 < w6.heap.size := own_lt hown6 g6 hg6
            obtain ⟨hk6, hz6⟩ : (∀ b, b < wr.heap.size → w6.heap[b]? = wr.heap[b]?) ∧ wr.heap.size < w6.heap.size := by
              refine ⟨fun b hb => ?_, by have := hgr6.size; rw [World.size_alloc] at this; omega⟩
              rw [hgr6.block b (by rw [World.size_alloc]; omega) (fun e => by simp [Value.ownBlock] at e; omega)]
              exact (below1 wr _).block b hb
            have hbl6 : Below (w.heap.size + 1) W1 w6 := (Hbi.out.alloc (by omega) _).grown hgr6 (by rw [World.size_alloc]; omega) (fun k' hk' => by simp [Value.ownBlock] at hk'; omega)
            simp only [List.length_cons] at hv6 hip6 hv6'
            obtain ⟨b6, rfl⟩ : ∃ b6, a6 = some ⟨b6, 0, none⟩ := by
              rcases hown6.2 with ⟨rfl, _⟩ | ⟨g', cap', cur, rfl, _⟩
              · cases hg6
              · simp only [Value.slice.injEq] at hv6; exact ⟨g', hv6.1.symm⟩
            have hc6' : l.length + 1 ≤ c6 := by
              rw [hv6] at hv6'
              simp only [Value.slice.injEq] at hv6'
              rw [hv6'.2.2]; exact hc6
            subst hv6
            have Hip6 : Hid (IP (fun b => wr.heap.size ≤ b) w6 ((k : Int) :: l) (some ⟨b6, 0, none⟩)) := IP_mono (fun k' hk' hl' => ⟨(own_lt hown6 k' hk').1, rfl⟩) hip6
            have HO6 := hide (fun o1 => own_same Hoi.out (w' := w6.alloc o1) (fun g' hg' => ((below1 w6 o1).block g' (by have := (own_lt Hoi.out g' hg').2; omega)).trans (hk6 g' (own_lt Hoi.out g' hg').2)))
            have Hk6 := hide hk6
            have Hbl6 := hide hbl6
            clear hown6 hgr6 hat6 hip6 hv6' hc6 hg6 hg6w hk6 hbl6
            go_wp2_with (at_builtin; go_must (refine wpList_append_vals rfl (.tmp 26) (.tmp 34) rfl (w.heap.size + 1) (.slice ai (P.length + kk) ci) (P.length + kk) xi rfl (HO6.out _) (.slice (some ⟨w6.heap.size, 0, none⟩) 1 1) [.slice (some ⟨b6, 0, none⟩) (l.length + 1) c6] rfl (srcv_one rfl) (by rw [List.length_singleton]; omega) (by rw [World.size_alloc]; omega) ?_))
            intro v7 w7 hown7 hgr7 hat7
            have hz7 := hgr7.size
            rw [World.size_alloc] at hz7
            have hrk : RK (fun b => w.heap.size + 1 ≤ b ∧ v7.ownBlock ≠ some b) w7 ((P ++ (X.take kk).map (fun p => (k : Int) :: p)) ++ [(k : Int) :: l]) (xi ++ [.slice (some ⟨b6, 0, none⟩) (l.length + 1) c6]) := by
              refine rows_more Hki.out (IP_mono (fun k' hk' hl' => ⟨hk', (below1 w6 _).block k' hl'⟩) Hip6.out) rfl (fun k' hk' => (own_lt Hoi.out k' hk').2) (by omega) (fun k' hk' => ((below1 w6 _).block k' (by omega)).trans (Hk6.out k' hk')) (by rw [World.size_alloc]; omega) hgr7 (by rw [World.size_alloc]; exact hat7)
            obtain ⟨a7, c7, hv7⟩ := own_shape hown7
            have Hfin : Hid (w7.ownsRow (w.heap.size + 1) 22 1 v7 (P.length + (kk + 1)) (xi ++ [.slice (some ⟨b6, 0, none⟩) (l.length + 1) c6]) ∧ RK (fun b => w.heap.size + 1 ≤ b ∧ v7.ownBlock ≠ some b) w7 (P ++ (X.take (kk + 1)).map (fun p => (k : Int) :: p)) (xi ++ [.slice (some ⟨b6, 0, none⟩) (l.length + 1) c6]) ∧ RS (xi ++ [.slice (some ⟨b6, 0, none⟩) (l.length + 1) c6]) ∧
                (∀ b, v7.ownBlock = some b → b < S ∨ wx.heap.size ≤ b) ∧ (∀ b, S ≤ b → b < wx.heap.size → w7.heap[b]? = wx.heap[b]?) ∧ wx.heap.size ≤ w7.heap.size ∧ Below (w.heap.size + 1) W1 w7) := by
              refine ⟨hown7, by rw [Htk.out]; exact hrk, RS_append Hsi.out (RS_one hc6'), fun b hb => ?_, fun b h1 h2 => ?_, by omega, (Hbl6.out.alloc (by omega) _).grown hgr7 (by rw [World.size_alloc]; omega) (fun k' hk' => (own_lt Hoi.out k' hk').1)⟩
              · rcases hat7 with h | h
                · exact Hvi.out b (h.symm.trans hb)
                · rw [h] at hb; simp at hb; omega
              · rw [hgr7.block b (by rw [World.size_alloc]; omega) (fun e => by have := Hvi.out b e.symm; omega), (below1 w6 _).block b (by omega), Hk6.out b (by omega)]
                exact Hsame.out b h1 h2
            subst hv7
            clear hown7 hgr7 hat7 hrk
            go_wp2_with fail
            go_roundw
            case rel => exact ⟨kk + 1, _, by omega, by go_num, Hfin.out⟩
            case measure => simp [intOf]; omega
          · have hkk2 : kk = X.length := by omega
            subst hkk2
            rw [List.take_length] at hki
            have Hst1 : Hid (placesT.placesL (t.args.take (k + 1)) 0 = P ++ X.map (fun p => (k : Int) :: p)) := by show _ = _; rw [Hst.out, HP.out, HX.out]
            have hlen1 : (P ++ X.map (fun p => (k : Int) :: p)).length = P.length + X.length := by rw [List.length_append, List.length_map]
            have Hfin : Hid (wr.ownsRow (w.heap.size + 1) 22 1 (.slice ai (P.length + X.length) ci) (placesT.placesL (t.args.take (k + 1)) 0).length xi ∧ RK (fun b => w.heap.size + 1 ≤ b ∧ (Value.slice ai (P.length + X.length) ci).ownBlock ≠ some b) wr (placesT.placesL (t.args.take (k + 1)) 0) xi ∧ RS xi ∧ Below (w.heap.size + 1) W1 wr) := by
              rw [Hst1.out, hlen1]; exact ⟨hoi, hki, hsi, hbi⟩
            clear hoi hki hsi hvi hsame hbi hlen1 Hst1
            go_wp2_with fail
            go_roundw
            case rel => exact ⟨k + 1, xi, by omega, by go_num, Hfin.out⟩
            case measure => simp [intOf]; omega
      · have hk2 : k = t.args.length := by omega
        subst hk2
        rw [List.take_length] at hoo hko hol
        obtain ⟨oa, oc, hvo⟩ := own_shape hoo
        subst hvo
        have hsmall : (placesT.placesL t.args 0).length ≤ 120 := by omega
        obtain ⟨P, hP⟩ : ∃ P, P = placesT.placesL t.args 0 := ⟨_, rfl⟩
        rw [← hP] at hoo hko hsmall ⊢
        have HP := hide hP
        have Hoo := hide hoo
        have Hko := hide hko
        have Hso := hide hso
        have Hb := hide hb
        have HO := hide (fun o1 o2 => own_same Hoo.out (w' := (wr.alloc o1).alloc o2) (fun g' hg' => (below2 wr o1 o2).block g' (own_lt Hoo.out g' hg').2))
        clear hoo hko hb hol hso hP
        go_wp2_with (at_builtin; go_must (refine wpList_append_vals rfl (.tmp 36) (.tmp 38) rfl (w.heap.size + 1) (.slice oa P.length oc) P.length xo rfl (HO.out _ _) (.slice (some ⟨wr.heap.size + 1, 0, none⟩) 1 1) [.slice (some ⟨wr.heap.size, 0, none⟩) 0 0] rfl (srcv_two rfl) (by rw [List.length_singleton]; omega) (by rw [World.size_alloc, World.size_alloc]; omega) ?_))
        intro v7 w7 hown7 hgr7 hat7
        have Hrk : Hid (RK (fun b => w.heap.size ≤ b ∧ v7.ownBlock ≠ some b) w7 (placesT t) (xo ++ [.slice (some ⟨wr.heap.size, 0, none⟩) 0 0])) := by
          rw [placesT_eq, ← HP.out]
          refine RK_mono (q := fun b => w.heap.size ≤ b ∧ v7.ownBlock ≠ some b) (fun k' hk' hl' => ⟨⟨by omega, hk'.2⟩, rfl⟩) (rows_more (l := []) (a6 := some ⟨wr.heap.size, 0, none⟩) (c6 := 0) Hko.out (Or.inl rfl) rfl (fun k' hk' => (own_lt Hoo.out k' hk').2) (by omega) (fun k' hk' => (below2 wr _ _).block k' hk') (by rw [World.size_alloc, World.size_alloc]; omega) hgr7 (by rw [World.size_alloc, World.size_alloc]; exact hat7))
        have Hown : Hid (w7.ownsRow w.heap.size 22 1 v7 (placesT t).length (xo ++ [.slice (some ⟨wr.heap.size, 0, none⟩) 0 0])) := by
          rw [placesT_eq, ← HP.out, List.length_append, List.length_singleton]
          obtain ⟨h1, h2⟩ := hown7
          refine ⟨h1, ?_⟩
          rcases h2 with h2 | ⟨g', cap', cur, hv, hg', r'⟩
          · exact Or.inl h2
          · exact Or.inr ⟨g', cap', cur, hv, by omega, r'⟩
        have Hbf := hide (hbW.trans ((((Hb.out.alloc (by omega) _).alloc (by rw [World.size_alloc]; omega) _).grown hgr7 (by rw [World.size_alloc, World.size_alloc]; omega) (fun k' hk' => (own_lt Hoo.out k' hk').1)).mono (by omega)))
        have HRS := hide (RS_append Hso.out (RS_one (b := wr.heap.size) (Nat.le_refl 0)))
        clear hown7 hgr7 hat7
        go_wp2_with fail
        go_ret
        exact ⟨_, _, rfl, Hown.out, Hrk.out, HRS.out, Hbf.out⟩

end Go.Proofs.Ytbkedppkdhfpoaa

namespace Go.Proofs.Ytbkedppkdhfpoaa
open Go.RowKit

/-- What is appended: nothing, or the cells that lie at an address. -/
def SrcB (w : World) (x : Value) (m : Nat) (news : List Value) : Prop :=
  (x = .slice none 0 0 ∧ m = 0 ∧ news = []) ∨ ∃ b off c, x = .slice (some ⟨b, off, none⟩) m c ∧ news.length = m * 4 ∧ (∀ j u, news[j]? = some u → w.cell? ⟨b, off + j, none⟩ = some u) ∧ ∀ u, u ∈ news → u.oneCell' = true
theorem run_append_v {w : World} {base n m : Nat} {v x : Value} {xs news : List Value} (ty : TypeId) (hown : w.ownsRow base 95 4 v n xs) (hx : SrcB w x m news) (hl : n + m ≤ 200000) (hbase : base ≤ w.heap.size) :
    ∃ v' w', (Builtin.append_ #[51, 51] ty #[v, x]).run Try.prog w = .ok v' w' ∧ w'.ownsRow base 95 4 v' (n + m) (xs ++ news) ∧ w.grownBy w' v.ownBlock ∧ (v'.ownBlock = v.ownBlock ∨ v'.ownBlock = some w.heap.size) := by
  obtain ⟨i, hi, hzz⟩ := Option.map_eq_some_iff.1 Try.info95
  simp only [Prod.mk.injEq] at hzz
  obtain ⟨hz0, hz1, hz2⟩ := hzz
  rcases hx with ⟨rfl, rfl, rfl⟩ | ⟨b, off, c, rfl, hl2, hc, h1⟩
  · rw [List.append_nil]
    exact ⟨v, w, run_append_owned_none (P := Try.prog) w base 51 ty 95 i 4 Try.underlying51 hi _ _ _ hown, hown, ⟨rfl, rfl, rfl, Nat.le_refl _, fun _ _ _ => rfl⟩, Or.inl rfl⟩
  · obtain ⟨v', w', hr, h2, h3, _, h5⟩ := run_append_own_at (P := Try.prog) w base 51 ty 95 i (.agg #[.int .i64 0, .int .i64 0, .int .i64 0, .slice none 0 0]) 4 48 Try.underlying51 hi hz0 hz1 hz2 rfl (by decide) v n xs hown ⟨b, off, none⟩ m c news hl2 (fun j u hu => by
        have e : (⟨b, off, none⟩ : Addr).add j = ⟨b, off + j, none⟩ := by simp [Addr.add]
        rw [e]; exact hc j u hu) h1 (by unfold maxLen; omega) (by omega) hbase
    exact ⟨v', w', hr, h2, h3, h5⟩
theorem wp_append_v {w : World} {o : Oper} {a : Act} {K : Act → World → Prop} {Q : Exit → Act → World → Prop} (s x : Operand) (ho : o.op = .call { callee := .builtin .append, args := #[s, x], argTypes := #[51, 51] })
    (base n m : Nat) (v : Value) (xs news : List Value) (hs : a.eval s = v) (hown : w.ownsRow base 95 4 v n xs) (xv : Value) (hx : a.eval x = xv) (hsrc : SrcB w xv m news) (hl : n + m ≤ 200000) (hbase : base ≤ w.heap.size)
    (h : ∀ v' w', w'.ownsRow base 95 4 v' (n + m) (xs ++ news) → w.grownBy w' v.ownBlock → (v'.ownBlock = v.ownBlock ∨ v'.ownBlock = some w.heap.size) → K (a.put o.dst v') w') : o.wp Try.prog a w K Q := by
  obtain ⟨v', w', hr, h2, h3, h4⟩ := run_append_v o.type hown hsrc hl hbase
  unfold Oper.wp execOp
  simp only [ho, resolve, invoke, builtin, Sem.run_bind, Sem.run_pure, Result.andThen_ok, List.map_toArray, List.map_cons, List.map_nil, hs, hx, hr]
  exact h v' w' h2 h3 h4
theorem wpList_append_v {w : World} {ops : Array Oper} {rest : List Oper} {o : Oper} {a : Act} {Q : Exit → Act → World → Prop} (hgd : o.guard = none) (s x : Operand) (ho : o.op = .call { callee := .builtin .append, args := #[s, x], argTypes := #[51, 51] })
    (base n m : Nat) (v : Value) (xs news : List Value) (hs : a.eval s = v) (hown : w.ownsRow base 95 4 v n xs) (xv : Value) (hx : a.eval x = xv) (hsrc : SrcB w xv m news) (hl : n + m ≤ 200000) (hbase : base ≤ w.heap.size)
    (h : ∀ v' w', w'.ownsRow base 95 4 v' (n + m) (xs ++ news) → w.grownBy w' v.ownBlock → (v'.ownBlock = v.ownBlock ∨ v'.ownBlock = some w.heap.size) → wpList Try.prog ops Q rest (a.put o.dst v') w') : wpList Try.prog ops Q (o :: rest) a w :=
  wpList_plain hgd fun _ hK => wp_append_v s x ho base n m v xs news hs hown xv hx hsrc hl hbase fun v' w' h2 h3 h4 => hK _ _ (h v' w' h2 h3 h4)
theorem step_append_v {w : World} {ops : Array Oper} {o : Oper} {a : Act} {K : Act → World → Prop} {Q : Exit → Act → World → Prop} {E : Prop} (hgd : o.guard = none) (s x : Operand) (ho : o.op = .call { callee := .builtin .append, args := #[s, x], argTypes := #[51, 51] })
    (base n m : Nat) (v : Value) (xs news : List Value) (hs : a.eval s = v) (hown : w.ownsRow base 95 4 v n xs) (xv : Value) (hx : a.eval x = xv) (hsrc : SrcB w xv m news) (hl : n + m ≤ 200000) (hbase : base ≤ w.heap.size)
    (h : ∀ v' w', w'.ownsRow base 95 4 v' (n + m) (xs ++ news) → w.grownBy w' v.ownBlock → (v'.ownBlock = v.ownBlock ∨ v'.ownBlock = some w.heap.size) → K (a.put o.dst v') w') :
    if Region.wanted o (yielded ops a.tmps) = true then Oper.wp Try.prog o a w K Q else E := by
  have hw : Region.wanted o (yielded ops a.tmps) = true := by simp [Region.wanted, hgd]
  rw [if_pos hw]
  exact wp_append_v s x ho base n m v xs news hs hown xv hx hsrc hl hbase h

/-- The cells of bindings that lie at an address. -/
theorem Binds_cells {p : Nat → Prop} {w : World} : ∀ {bs : List (Int × T)} {b off : Nat}, Binds p w bs (some ⟨b, off, none⟩) → ∃ cs, KidsB p w bs cs ∧ cs.length = bs.length * 4 ∧ (∀ j u, cs[j]? = some u → w.cell? ⟨b, off + j, none⟩ = some u) ∧ ∀ u, u ∈ cs → u.oneCell' = true := by
  intro bs
  induction bs with
  | nil => intro b off _; exact ⟨[], rfl, rfl, fun j u h => by simp at h, fun u h => by cases h⟩
  | cons x bs ih =>
    intro b off h
    obtain ⟨b', off', a1, cap, hb, hp, h0, h1, h2, h3, hin, hr⟩ := h
    simp only [Option.some.injEq, Addr.mk.injEq] at hb
    obtain ⟨rfl, rfl, _⟩ := hb
    obtain ⟨cs, k1, k2, k3, k4⟩ := ih hr
    refine ⟨_, ⟨a1, cap, cs, rfl, hin, k1⟩, by simp [k2]; omega, fun j u hu => ?_, fun u hu => ?_⟩
    · rcases j with _ | _ | _ | _ | j
      · simp at hu; rw [← hu]; exact h0
      · simp at hu; rw [← hu]; exact h1
      · simp at hu; rw [← hu]; exact h2
      · simp at hu; rw [← hu]; exact h3
      · simp at hu
        rw [show off + (j + 1 + 1 + 1 + 1) = off + 4 + j by omega]
        exact k3 j u hu
    · simp only [List.mem_cons] at hu
      rcases hu with rfl | rfl | rfl | rfl | hu
      · rfl
      · rfl
      · rfl
      · rfl
      · exact k4 u hu
/-- A slice is nil, or begins at a cell. -/
def Shape (ba : Option Addr) (bc : Nat) : Prop := (ba = none ∧ bc = 0) ∨ ∃ b off, ba = some ⟨b, off, none⟩
theorem Binds_src {p : Nat → Prop} {w : World} {bs : List (Int × T)} {ba : Option Addr} {bc : Nat} (h : Binds p w bs ba) (hn : Shape ba bc) : ∃ cs, KidsB p w bs cs ∧ SrcB w (.slice ba bs.length bc) bs.length cs := by
  rcases hn with ⟨rfl, rfl⟩ | ⟨b, off, rfl⟩
  · have hb : bs = [] := by
      cases bs with
      | nil => rfl
      | cons x bs => obtain ⟨_, _, _, _, e, _⟩ := h; cases e
    subst hb
    exact ⟨[], rfl, Or.inl ⟨rfl, rfl, rfl⟩⟩
  · obtain ⟨cs, k1, k2, k3, k4⟩ := Binds_cells h
    exact ⟨cs, k1, Or.inr ⟨b, off, bc, rfl, k2, k3, k4⟩⟩
theorem SrcB.below {w w' : World} {x : Value} {m : Nat} {news : List Value} (h : SrcB w x m news) (hb : Below w.heap.size w w') : SrcB w' x m news := by
  rcases h with h | ⟨b, off, c, h1, h2, h3, h4⟩
  · exact Or.inl h
  · exact Or.inr ⟨b, off, c, h1, h2, fun j u hu => cell_below hb (h3 j u hu), h4⟩

end Go.Proofs.Ytbkedppkdhfpoaa
