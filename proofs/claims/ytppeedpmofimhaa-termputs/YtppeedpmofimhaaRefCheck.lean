/- The document's own check of terms: the same errors, in the same order. -/
import Derived.Test.YtppeedpmofimhaaParts
namespace Go.Proofs.Ytppeedpmofimhaa
open Go.RowKit

/-- The first error of a list of parts. -/
def firstErr (ar : List Int) : List T → Int
  | [] => 0
  | t :: ts => if partErr ar t.v t.f t.args.length = 0 then firstErr ar ts else partErr ar t.v t.f t.args.length
theorem firstErr_append (ar : List Int) (a b : List T) : firstErr ar (a ++ b) = if firstErr ar a = 0 then firstErr ar b else firstErr ar a := by
  induction a with
  | nil => simp [firstErr]
  | cons t ts ih =>
    rw [List.cons_append, firstErr, firstErr]
    by_cases h : partErr ar t.v t.f t.args.length = 0
    · rw [if_pos h, if_pos h, ih]
    · rw [if_neg h, if_neg h, if_neg h]
theorem firstErr_step {ar : List Int} {ts : List T} {k : Nat} {t : T} (ht : ts[k]? = some t) (h : firstErr ar (ts.take k) = 0) :
    (partErr ar t.v t.f t.args.length = 0 → firstErr ar (ts.take (k + 1)) = 0) ∧ (partErr ar t.v t.f t.args.length ≠ 0 → firstErr ar ts = partErr ar t.v t.f t.args.length) := by
  have hlt : k < ts.length := by
    rcases Nat.lt_or_ge k ts.length with h | h
    · exact h
    · rw [List.getElem?_eq_none h] at ht; cases ht
  constructor
  · intro h2
    rw [List.take_add_one, ht, firstErr_append, if_pos h]
    simp [firstErr, h2]
  · intro h2
    have e : ts = ts.take k ++ t :: ts.drop (k + 1) := by
      rw [List.getElem?_eq_getElem hlt] at ht
      simp at ht
      rw [← ht, List.getElem_cons_drop, List.take_append_drop]
    rw [e, firstErr_append, if_pos h, firstErr, if_neg h2]

/-- The look through the parts tells the first error. -/
theorem look_first {ar : List Int} : ∀ (n : Nat), (∀ (t : T) (s : Int), t.sz ≤ n → (lookT (partStep ar) s t).1 = firstErr ar (parts t) ∧ ((lookT (partStep ar) s t).2 = true ↔ firstErr ar (parts t) = 0)) ∧
    (∀ (ts : List T) (s : Int), T.sz.szL ts ≤ n → (ts ≠ [] → (lookT.lookL (partStep ar) s ts).1 = firstErr ar (parts.partsL ts)) ∧ ((lookT.lookL (partStep ar) s ts).2 = true ↔ firstErr ar (parts.partsL ts) = 0)) := by
  intro n
  induction n with
  | zero =>
    refine ⟨fun t s hn => by have := t.sz_pos; omega, fun ts s hn => ?_⟩
    cases ts with
    | nil => exact ⟨fun h => absurd rfl h, by simp [lookL_nil, parts.partsL, firstErr]⟩
    | cons t ts => have := t.sz_pos; rw [T.szL_cons] at hn; omega
  | succ n ih =>
    have h1 : ∀ (t : T) (s : Int), t.sz ≤ n + 1 → (lookT (partStep ar) s t).1 = firstErr ar (parts t) ∧ ((lookT (partStep ar) s t).2 = true ↔ firstErr ar (parts t) = 0) := fun t s hn => by
      rw [T.sz_eq] at hn
      obtain ⟨h2, h3⟩ := ih.2 t.args s (by omega)
      rw [lookT_eq, parts_eq, firstErr_append]
      by_cases h : (lookT.lookL (partStep ar) s t.args).2 = false
      · have h4 : ¬ firstErr ar (parts.partsL t.args) = 0 := fun h5 => by rw [h3.2 h5] at h; cases h
        have hne : t.args ≠ [] := fun h5 => by rw [h5, lookL_nil] at h; cases h
        rw [if_pos h, if_neg h4]
        exact ⟨h2 hne, by simp [h4]⟩
      · have h4 : firstErr ar (parts.partsL t.args) = 0 := h3.1 (by simpa using h)
        rw [if_neg h, if_pos h4]
        by_cases h5 : partErr ar t.v t.f t.args.length = 0
        · simp [partStep, firstErr, h5]
        · simp [partStep, firstErr, h5]
    refine ⟨h1, fun ts => ?_⟩
    induction ts with
    | nil => intro s _; exact ⟨fun h => absurd rfl h, by simp [lookL_nil, parts.partsL, firstErr]⟩
    | cons t ts iht =>
      intro s hn
      rw [T.szL_cons] at hn
      obtain ⟨h2, h3⟩ := h1 t s (by omega)
      obtain ⟨h4, h5⟩ := iht (lookT (partStep ar) s t).1 (by omega)
      rw [lookL_cons, partsL_cons, firstErr_append]
      by_cases h : (lookT (partStep ar) s t).2 = false
      · have h6 : ¬ firstErr ar (parts t) = 0 := fun h7 => by rw [h3.2 h7] at h; cases h
        rw [if_pos h, if_neg h6]
        exact ⟨fun _ => h2, by simp [h6]⟩
      · have h6 : firstErr ar (parts t) = 0 := h3.1 (by simpa using h)
        rw [if_neg h, if_pos h6]
        refine ⟨fun _ => ?_, h5⟩
        by_cases h7 : ts = []
        · subst h7
          rw [lookL_nil]
          show (lookT (partStep ar) s t).1 = 0
          rw [h2, h6]
        · exact h4 h7

theorem termErr_first {ar : List Int} {t : T} : termErr ar t = if 120 < t.sz then 2 else firstErr ar (parts t) := by
  rw [termErr]
  by_cases h : 120 < t.sz
  · rw [if_pos h, if_pos h]
  · rw [if_neg h, if_neg h]
    have := ((look_first (ar := ar) _).2 [t] 0 (Nat.le_refl _)).1 (by simp)
    rw [this]
    show firstErr ar (parts t ++ []) = _
    rw [List.append_nil]

set_option maxRecDepth 100000 in
set_option maxHeartbeats 1000000 in
theorem refCheckTerm_any (ar : List Int) (ga : Option Addr) (gcap : Nat) (t : T) (a : Option Addr) (cap : Nat) (w : World) (hg : Ints w ar ga) (hgl : ar.length ≤ 12) (hin : InL w t.args a) :
    Calls Try.prog 31 #[.agg #[.slice ga ar.length gcap], .agg #[.int .i64 t.v, .int .i64 t.f, .slice a t.args.length cap]] w fun e w' => e = .returned (.int .i64 (termErr ar t)) ∧ Below w.heap.size w w' := by
  have Hin2 := hide (fun o1 o2 => InP_alloc o2 (InP_alloc o1 hin))
  go_enter Try.func31, Try.ntmps31
  go_wp2_with fail
  refine (sizeOf_any (t.sz + 1) t 120 a cap _ (by omega) (by omega) (by omega) (Hin2.out _ _)).mono ?_
  rintro e w1 ⟨rfl, hb1⟩
  have hz1 : w.heap.size + 2 ≤ w1.heap.size := by have := hb1.size; simp at this; omega
  have hbw : Below w.heap.size w w1 := (below2 _ _ _).trans (hb1.mono (by simp; omega))
  by_cases hbig : 120 < t.sz
  · have hm : min (t.sz : Int) (120 + 1) = 121 := by omega
    rw [hm]
    clear hm
    go_wp2_with fail
    go_ret
    exact ⟨ret_int (by rw [termErr_first, if_pos hbig]), hbw⟩
  · have hm : min (t.sz : Int) (120 + 1) = t.sz := by omega
    rw [hm]
    have Hfin : Hid (termErr ar t = firstErr ar (parts t)) := by
      show _ = _
      rw [termErr_first, if_neg hbig]
    have cg : w1.cell? ⟨w.heap.size, 0, none⟩ = some (.slice ga ar.length gcap) := by
      rw [hb1.cell (p := ⟨w.heap.size, 0, none⟩) (by simp; omega), cell_alloc_lt (by simp), cell_new _ rfl]; rfl
    have h3t : Three w1 (w.heap.size + 1) (.int .i64 t.v) (.int .i64 t.f) (.slice a t.args.length cap) := (Three.new _ (by simp)).below hb1
    obtain ⟨c0, c1, c2, _, _, _⟩ := h3t
    clear hm hb1 Hin2
    go_wp2_with fail
    refine (parts_one t a cap _ (by omega) (InP_below hbw hin)).mono ?_
    rintro e w2 ⟨g, cap1, rfl, hg1, hg2, hcells, hb2⟩
    have hz2 := hb2.size
    have hbw2 : Below w.heap.size w w2 := hbw.trans (hb2.mono (by omega))
    have cg2 : w2.cell? ⟨w.heap.size, 0, none⟩ = some (.slice ga ar.length gcap) := by rw [hb2.cell (p := ⟨w.heap.size, 0, none⟩) (show w.heap.size < w1.heap.size by omega)]; exact cg
    have Hcells := hide hcells
    have hplen := ((parts_length _).1 t (Nat.le_refl _))
    have Hplen := hide hplen
    have hg3 := Ints_below hbw2 hg
    clear hcells cg c0 c1 c2 hb2 hplen
    go_wp2_with fail
    go_loopw [6] (fun i wr => ∃ k : Nat, k ≤ t.sz ∧ i = .int .i64 k ∧ Hid (firstErr ar ((parts t).take k) = 0) ∧ Below w2.heap.size w2 wr) (fun i _ => t.sz - (intOf i).toNat)
    case atStart => exact ⟨0, Nat.zero_le _, rfl, rfl, Below.refl _ _⟩
    case round =>
      obtain ⟨k, hk, rfl, HL, hb⟩ := hrel
      have hzr := hb.size
      have hfb : Below w.heap.size w wr := hbw2.trans (hb.mono (by omega))
      by_cases hlt : k < t.sz
      · have hlt2 : k < (parts t).length := by rw [Hplen.out]; exact hlt
        obtain ⟨x, hx⟩ : ∃ x, (parts t)[k]? = some x := ⟨(parts t)[k], List.getElem?_eq_getElem hlt2⟩
        obtain ⟨a1, cap2, k0, k1, k2⟩ := Hcells.out k x hx
        rw [← hb.cell (p := ⟨g, k * 3, none⟩) hg2] at k0
        rw [← hb.cell (p := ⟨g, k * 3 + 1, none⟩) hg2] at k1
        rw [← hb.cell (p := ⟨g, k * 3 + 2, none⟩) hg2] at k2
        have cgr : wr.cell? ⟨w.heap.size, 0, none⟩ = some (.slice ga ar.length gcap) := by rw [hb.cell (p := ⟨w.heap.size, 0, none⟩) (show w.heap.size < w2.heap.size by omega)]; exact cg2
        have hq : w.heap.size < wr.heap.size := by omega
        have Hst := hide (firstErr_step hx HL.out)
        have hgr := Ints_below hb hg3
        have hfa : ∀ o, Below w.heap.size w (wr.alloc o) := fun o => hfb.alloc (by omega) o
        have hra : ∀ o, Below w2.heap.size w2 (wr.alloc o) := fun o => hb.alloc hzr o
        clear hx cg2
        by_cases h1 : x.v = 0
        · by_cases h2 : 0 ≤ x.f ∧ x.f ≤ (ar.length : Int) - 1
          · obtain ⟨m, hm⟩ := Int.eq_ofNat_of_zero_le h2.1
            have hm2 : m < ar.length := by omega
            obtain ⟨b, off, rfl, hc⟩ := Ints_some hgr (by omega)
            have hck : wr.cell? ⟨b, off + m, none⟩ = some (.int .i64 (ar.getD m 0)) := hc m hm2
            have hbk := lt_of_cell hck
            have hpe : partErr ar x.v x.f x.args.length = if (x.args.length : Int) ≠ ar.getD m 0 then 1 else 0 := by
              rw [partErr, if_neg (by simpa using h1), if_neg (by omega), hm, Int.toNat_natCast]
            have h1' : (x.v != 0) = false := by simpa using h1
            have H2 := hide h2
            have Hpe := hide hpe
            rw [hm] at k1
            rw [hm] at H2
            clear hc hpe h2 h1 hgr
            generalize ar.getD m 0 = y at *
            by_cases h4 : (x.args.length : Int) = y
            · have hgo := hide (Hst.out.1 (by rw [Hpe.out, if_neg (by simpa using h4)]))
              have h4' : ((x.args.length : Int) != y) = false := by simpa using h4
              clear h4 Hst Hpe
              go_wp2_with fail
              refine (between_yes _ 0 _ _ H2.out.1 H2.out.2).mono ?_
              rintro e w' ⟨rfl, rfl⟩
              go_wp2_with fail
              go_quiet (fail)
              go_wp2_with fail
              go_roundw
              case rel => exact ⟨k + 1, by omega, by go_num, hgo, (hra _).trans ⟨rfl, rfl, rfl, Nat.le_refl _, fun _ _ => rfl⟩⟩
              case measure => simp [intOf]; omega
            · have hgo := hide (Hst.out.2 (by rw [Hpe.out, if_pos h4]; decide))
              have h4' : ((x.args.length : Int) != y) = true := by simpa using h4
              have Hpe2 : Hid (partErr ar x.v x.f x.args.length = 1) := by rw [Hpe.out, if_pos h4]; rfl
              clear h4 Hst Hpe
              go_wp2_with fail
              refine (between_yes _ 0 _ _ H2.out.1 H2.out.2).mono ?_
              rintro e w' ⟨rfl, rfl⟩
              go_wp2_with fail
              go_quiet (fail)
              go_wp2_with fail
              go_ret
              exact ⟨ret_int (by rw [Hfin.out, hgo.out, Hpe2.out]), (hfa _).trans ⟨rfl, rfl, rfl, Nat.le_refl _, fun _ _ => rfl⟩⟩
          · have Hpe2 : Hid (partErr ar x.v x.f x.args.length = 5) := by
              show _ = _
              rw [partErr, if_neg (by simpa using h1), if_pos (by omega)]
            have hgo := hide (Hst.out.2 (by rw [Hpe2.out]; decide))
            have h1' : (x.v != 0) = false := by simpa using h1
            have H2 := hide h2
            clear h2 h1 Hst
            go_wp2_with fail
            refine (between_no _ 0 _ _ H2.out).mono ?_
            rintro e w' ⟨rfl, rfl⟩
            go_wp2_with fail
            go_ret
            exact ⟨ret_int (by rw [Hfin.out, hgo.out, Hpe2.out]), hfa _⟩
        · have h1' : (x.v != 0) = true := by simpa using h1
          by_cases h2 : 1 ≤ x.v ∧ x.v ≤ 1000
          · have H2 := hide h2
            by_cases h3 : x.args.length = 0
            · by_cases h4 : x.f = 0
              · have Hpe2 : Hid (partErr ar x.v x.f x.args.length = 0) := by
                  show _ = _
                  rw [partErr, if_pos h1, if_neg (by omega), if_neg (by simp [h3, h4])]
                have hgo := hide (Hst.out.1 Hpe2.out)
                have h4' : (x.f != 0) = false := by simpa using h4
                have h3' : ¬ 0 < x.args.length := by omega
                clear h1 h2 h3 h4 Hst
                go_wp2_with fail
                refine (between_yes _ 1 1000 _ H2.out.1 H2.out.2).mono ?_
                rintro e w' ⟨rfl, rfl⟩
                go_wp2_with fail
                go_roundw
                case rel => exact ⟨k + 1, by omega, by go_num, hgo, hra _⟩
                case measure => simp [intOf]; omega
              · have Hpe2 : Hid (partErr ar x.v x.f x.args.length = 1) := by
                  show _ = _
                  rw [partErr, if_pos h1, if_neg (by omega), if_pos (Or.inr h4)]
                have hgo := hide (Hst.out.2 (by rw [Hpe2.out]; decide))
                have h4' : (x.f != 0) = true := by simpa using h4
                have h3' : ¬ 0 < x.args.length := by omega
                clear h1 h2 h3 h4 Hst
                go_wp2_with fail
                refine (between_yes _ 1 1000 _ H2.out.1 H2.out.2).mono ?_
                rintro e w' ⟨rfl, rfl⟩
                go_wp2_with fail
                go_ret
                exact ⟨ret_int (by rw [Hfin.out, hgo.out, Hpe2.out]), hfa _⟩
            · have Hpe2 : Hid (partErr ar x.v x.f x.args.length = 1) := by
                show _ = _
                rw [partErr, if_pos h1, if_neg (by omega), if_pos (Or.inl h3)]
              have hgo := hide (Hst.out.2 (by rw [Hpe2.out]; decide))
              have h3' : 0 < x.args.length := by omega
              clear h1 h2 h3 Hst
              go_wp2_with fail
              refine (between_yes _ 1 1000 _ H2.out.1 H2.out.2).mono ?_
              rintro e w' ⟨rfl, rfl⟩
              go_wp2_with fail
              go_ret
              exact ⟨ret_int (by rw [Hfin.out, hgo.out, Hpe2.out]), hfa _⟩
          · have Hpe2 : Hid (partErr ar x.v x.f x.args.length = 3) := by
              show _ = _
              rw [partErr, if_pos h1, if_pos (by omega)]
            have hgo := hide (Hst.out.2 (by rw [Hpe2.out]; decide))
            have H2 := hide h2
            clear h1 h2 Hst
            go_wp2_with fail
            refine (between_no _ 1 1000 _ H2.out).mono ?_
            rintro e w' ⟨rfl, rfl⟩
            go_wp2_with fail
            go_ret
            exact ⟨ret_int (by rw [Hfin.out, hgo.out, Hpe2.out]), hfa _⟩
      · go_wp2_with fail
        go_ret
        have hk2 : k = t.sz := by omega
        have h5 := HL.out
        rw [hk2, ← Hplen.out, List.take_length] at h5
        exact ⟨ret_int (by rw [Hfin.out, h5]), hfb⟩

end Go.Proofs.Ytppeedpmofimhaa
