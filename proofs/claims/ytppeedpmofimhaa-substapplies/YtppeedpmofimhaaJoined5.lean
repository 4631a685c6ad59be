/- The order of terms: nothing is greater than itself; what is greater than a greater one is; a term is greater than what stands in it; of two without variables one is. No word of the program's memory here. Putting in, as plain data: what stays right, how big it becomes, and that the order stays. No word of the program's memory here. The document's own checks, as the statements have them: numbers, signatures, sizes. All parts of a term, in a list of the call's own. The document's own check of terms: the same errors, in the same order. -/
import Derived.Deep.DeepCutAuto
import Derived.Deep.DrawnRows
import Derived.Deep.RegionHeld3
import Derived.Test.YtppeedpmofimhaaJoined4
namespace Go.Proofs.Ytppeedpmofimhaa

theorem sameL_eq_aux : ∀ (n : Nat), (∀ t u : T, t.sz ≤ n → sameT t u = true → t = u) ∧ (∀ ts us : List T, T.sz.szL ts ≤ n → sameT.sameL ts us = true → ts = us) := by
  intro n
  induction n with
  | zero =>
    refine ⟨fun t u h => by have := t.sz_pos; omega, fun ts us h hs => ?_⟩
    cases ts with
    | nil =>
      cases us with
      | nil => rfl
      | cons u us => rw [sameL_length (by simp)] at hs; cases hs
    | cons t ts => have := t.sz_pos; rw [T.szL_cons] at h; omega
  | succ n ih =>
    have h1 : ∀ t u : T, t.sz ≤ n + 1 → sameT t u = true → t = u := fun t u h hs => by
      have hte := T.sz_eq t
      rw [sameT_eq] at hs
      simp only [Bool.and_eq_true, beq_iff_eq] at hs
      have := ih.2 t.args u.args (by omega) hs.2
      cases t; cases u
      simp_all
    refine ⟨h1, fun ts => ?_⟩
    induction ts with
    | nil =>
      intro us _ hs
      cases us with
      | nil => rfl
      | cons u us => rw [sameL_length (by simp)] at hs; cases hs
    | cons t ts iht =>
      intro us h hs
      rw [T.szL_cons] at h
      cases us with
      | nil => rw [sameL_length (by simp)] at hs; cases hs
      | cons u us =>
        rw [sameL_cons, Bool.and_eq_true] at hs
        rw [h1 t u (by omega) hs.1, iht us (by omega) hs.2]
theorem sameT_iff {t u : T} : sameT t u = true ↔ t = u := ⟨(sameL_eq_aux t.sz).1 t u (Nat.le_refl _), fun h => by rw [h]; exact sameT_refl u⟩
theorem sameT_ne {t u : T} : sameT t u = false ↔ t ≠ u := by
  constructor
  · intro h e; rw [sameT_iff.2 e] at h; cases h
  · intro h
    rcases Bool.eq_false_or_eq_true (sameT t u) with h1 | h1
    · exact absurd (sameT_iff.1 h1) h
    · exact h1

theorem gt_iff {ar : List Int} {s t : T} (hs : okP ar s) (ht : okP ar t) : gt s t = true ↔
    (s.v = 0 ∧ ∃ a, a ∈ s.args ∧ (gt a t = true ∨ a = t)) ∨ (s.v = 0 ∧ t.v = 0 ∧ t.f ≤ s.f ∧ (∀ c, c ∈ t.args → gt s c = true) ∧ (t.f < s.f ∨ (s.f = t.f ∧ firstN gt s.args t.args = true))) := by
  rw [gt_ref hs ht, refBody]
  simp only [Bool.or_eq_true, Bool.and_eq_true, decide_eq_true_eq, List.any_eq_true, List.all_eq_true, sameT_iff]
  constructor
  · rintro (h | ⟨⟨⟨⟨h1, h2⟩, h3⟩, h4⟩, h5⟩)
    · exact Or.inl h
    · exact Or.inr ⟨h1, h2, h3, h4, h5⟩
  · rintro (h | ⟨h1, h2, h3, h4, h5⟩)
    · exact Or.inl h
    · exact Or.inr ⟨⟨⟨⟨h1, h2⟩, h3⟩, h4⟩, h5⟩

/-- Where of two lists the first ones that are not the same part. -/
theorem firstN_iff {g : T → T → Bool} : ∀ {xs ys : List T}, firstN g xs ys = true ↔ ∃ (k : Nat) (a b : T), xs[k]? = some a ∧ ys[k]? = some b ∧ a ≠ b ∧ g a b = true ∧ (∀ i, i < k → xs[i]? = ys[i]?) := by
  intro xs
  induction xs with
  | nil =>
    intro ys
    constructor
    · intro h; simp [firstN] at h
    · rintro ⟨k, a, b, h, _⟩; simp at h
  | cons x xs ih =>
    intro ys
    cases ys with
    | nil =>
      constructor
      · intro h; simp [firstN] at h
      · rintro ⟨k, a, b, _, h, _⟩; simp at h
    | cons y ys =>
      rw [firstN]
      by_cases h : sameT x y = true
      · rw [if_pos h, ih]
        have e := sameT_iff.1 h
        subst e
        constructor
        · rintro ⟨k, a, b, h1, h2, h3, h4, h5⟩
          refine ⟨k + 1, a, b, by simpa using h1, by simpa using h2, h3, h4, fun i hi => ?_⟩
          cases i with
          | zero => rfl
          | succ i => simpa using h5 i (by omega)
        · rintro ⟨k, a, b, h1, h2, h3, h4, h5⟩
          cases k with
          | zero =>
            simp at h1 h2
            exact absurd (h1.symm.trans h2) h3
          | succ k =>
            refine ⟨k, a, b, by simpa using h1, by simpa using h2, h3, h4, fun i hi => ?_⟩
            have := h5 (i + 1) (by omega)
            simpa using this
      · rw [if_neg h]
        have hne : x ≠ y := fun e => h (sameT_iff.2 e)
        constructor
        · intro hg
          exact ⟨0, x, y, rfl, rfl, hne, hg, fun i hi => by omega⟩
        · rintro ⟨k, a, b, h1, h2, h3, h4, h5⟩
          cases k with
          | zero =>
            simp at h1 h2
            subst h1; subst h2; exact h4
          | succ k =>
            have := h5 0 (by omega)
            simp at this
            exact absurd this hne

theorem okArg {ar : List Int} {s a : T} (hs : okP ar s) (ha : a ∈ s.args) : okP ar a := okL_mem.1 (okP_iff.1 hs).2 a ha
theorem v_of_arg {ar : List Int} {s a : T} (hs : okP ar s) (ha : a ∈ s.args) : s.v = 0 := by
  by_cases h : s.v = 0
  · exact h
  · rw [(ok_var hs h).2] at ha; cases ha

/-- A term is greater than what stands in it. -/
theorem gt_arg {ar : List Int} {s a : T} (hs : okP ar s) (ha : a ∈ s.args) : gt s a = true :=
  (gt_iff hs (okArg hs ha)).2 (Or.inl ⟨v_of_arg hs ha, a, ha, Or.inr rfl⟩)

/-- What is greater than a greater one is. -/
theorem gt_trans_aux {ar : List Int} : ∀ (n : Nat) (s t u : T), s.sz + t.sz + u.sz ≤ n → okP ar s → okP ar t → okP ar u → gt s t = true → gt t u = true → gt s u = true := by
  intro n
  induction n with
  | zero => intro s t u h; have := s.sz_pos; omega
  | succ n ih =>
    intro s t u hn hs ht hu h1 h2
    rcases (gt_iff hs ht).1 h1 with ⟨hv, a, ha, h3⟩ | ⟨hv, htv, hf, hall, hlast⟩
    · have hasz := arg_sz ha
      refine (gt_iff hs hu).2 (Or.inl ⟨hv, a, ha, ?_⟩)
      rcases h3 with h3 | rfl
      · exact Or.inl (ih a t u (by omega) (okArg hs ha) ht hu h3 h2)
      · exact Or.inl h2
    · rcases (gt_iff ht hu).1 h2 with ⟨_, b, hb, h4⟩ | ⟨_, huv, hf2, hall2, hlast2⟩
      · have hbsz := arg_sz hb
        rcases h4 with h4 | rfl
        · exact ih s b u (by omega) hs (okArg ht hb) hu (hall b hb) h4
        · exact hall _ hb
      · have hall3 : ∀ c, c ∈ u.args → gt s c = true := fun c hc => by
          have hcsz := arg_sz hc
          exact ih s t c (by omega) hs ht (okArg hu hc) h1 (hall2 c hc)
        refine (gt_iff hs hu).2 (Or.inr ⟨hv, huv, by omega, hall3, ?_⟩)
        rcases hlast with hl | ⟨hl, hx⟩
        · exact Or.inl (by omega)
        · rcases hlast2 with hl2 | ⟨hl2, hx2⟩
          · exact Or.inl (by omega)
          · refine Or.inr ⟨by omega, ?_⟩
            obtain ⟨k, a, b, q1, q2, q3, q4, q5⟩ := firstN_iff.1 hx
            obtain ⟨k2, b2, c, r1, r2, r3, r4, r5⟩ := firstN_iff.1 hx2
            have ma := List.mem_of_getElem? q1
            have mb := List.mem_of_getElem? q2
            have mb2 := List.mem_of_getElem? r1
            have mc := List.mem_of_getElem? r2
            have za := arg_sz ma
            have zb := arg_sz mb
            have zb2 := arg_sz mb2
            have zc := arg_sz mc
            refine firstN_iff.2 ?_
            rcases Nat.lt_trichotomy k k2 with hk | hk | hk
            · have e := r5 k hk
              refine ⟨k, a, b, q1, e.symm.trans q2, q3, q4, fun i hi => (q5 i hi).trans (r5 i (by omega))⟩
            · subst hk
              rw [q2] at r1
              simp only [Option.some.injEq] at r1
              subst r1
              have hac := ih a b c (by omega) (okArg hs ma) (okArg ht mb) (okArg hu mc) q4 r4
              refine ⟨k, a, c, q1, r2, ?_, hac, fun i hi => (q5 i hi).trans (r5 i hi)⟩
              intro e
              subst e
              -- a > b > a, so the lesser of both is greater than itself: by what is shown of lesser ones this cannot be
              have irr : ∀ (m : Nat) (x : T), x.sz ≤ m → 3 * x.sz ≤ n + 2 → okP ar x → gt x x = true → False := by
                intro m
                induction m with
                | zero => intro x h; have := x.sz_pos; omega
                | succ m ihm =>
                  intro x hxm hxa hox hxx
                  rcases (gt_iff hox hox).1 hxx with ⟨hxv, d, hd, h9⟩ | ⟨_, _, _, _, h9⟩
                  · have hdsz := arg_sz hd
                    rcases h9 with h9 | h9
                    · exact ihm d (by omega) (by omega) (okArg hox hd) (ih d x d (by omega) (okArg hox hd) hox (okArg hox hd) h9 (gt_arg hox hd))
                    · rw [h9] at hdsz; omega
                  · rcases h9 with h9 | ⟨_, h9⟩
                    · omega
                    · obtain ⟨_, d, e, w1, w2, w3, _⟩ := firstN_iff.1 h9
                      rw [w1] at w2
                      exact w3 (by simpa using w2)
              rcases Nat.le_total a.sz b.sz with hab | hab
              · exact irr a.sz a (Nat.le_refl _) (by omega) (okArg hs ma) hac
              · exact irr b.sz b (Nat.le_refl _) (by omega) (okArg ht mb) (ih b a b (by omega) (okArg ht mb) (okArg hs ma) (okArg ht mb) r4 q4)
            · have e := q5 k2 hk
              exact ⟨k2, b2, c, e.trans r1, r2, r3, r4, fun i hi => (q5 i (by omega)).trans (r5 i hi)⟩
theorem gt_trans {ar : List Int} {s t u : T} (hs : okP ar s) (ht : okP ar t) (hu : okP ar u) (h1 : gt s t = true) (h2 : gt t u = true) : gt s u = true := gt_trans_aux _ s t u (Nat.le_refl _) hs ht hu h1 h2

/-- Nothing is greater than itself. -/
theorem gt_irr_aux {ar : List Int} : ∀ (m : Nat) (x : T), x.sz ≤ m → okP ar x → gt x x = true → False := by
  intro m
  induction m with
  | zero => intro x h; have := x.sz_pos; omega
  | succ m ihm =>
    intro x hxm hox hxx
    rcases (gt_iff hox hox).1 hxx with ⟨hxv, d, hd, h9⟩ | ⟨_, _, _, _, h9⟩
    · have hdsz := arg_sz hd
      rcases h9 with h9 | h9
      · exact ihm d (by omega) (okArg hox hd) (gt_trans (okArg hox hd) hox (okArg hox hd) h9 (gt_arg hox hd))
      · rw [h9] at hdsz; omega
    · rcases h9 with h9 | ⟨_, h9⟩
      · omega
      · obtain ⟨_, d, e, w1, w2, w3, _⟩ := firstN_iff.1 h9
        rw [w1] at w2
        exact w3 (by simpa using w2)
theorem gt_irr {ar : List Int} {s : T} (hs : okP ar s) : gt s s = false := by
  rcases Bool.eq_false_or_eq_true (gt s s) with h | h
  · exact (gt_irr_aux _ s (Nat.le_refl _) hs h).elim
  · exact h
theorem gt_asym {ar : List Int} {s t : T} (hs : okP ar s) (ht : okP ar t) (h : gt s t = true) : gt t s = false := by
  rcases Bool.eq_false_or_eq_true (gt t s) with h1 | h1
  · have := gt_trans hs ht hs h h1
    rw [gt_irr hs] at this; cases this
  · exact h1

/-- No variables stand in a term. -/
def ground : T → Bool
  | ⟨v, _, args⟩ => v == 0 && groundL args
  where
  groundL : List T → Bool
    | [] => true
    | t :: ts => ground t && groundL ts
theorem ground_eq (t : T) : ground t = (t.v == 0 && ground.groundL t.args) := by cases t; rfl
theorem groundL_mem {ts : List T} : ground.groundL ts = true ↔ ∀ t, t ∈ ts → ground t = true := by
  induction ts with
  | nil => simp [ground.groundL]
  | cons t ts ih => rw [ground.groundL, Bool.and_eq_true, ih]; simp
theorem ground_arg {s a : T} (h : ground s = true) (ha : a ∈ s.args) : ground a = true := by
  rw [ground_eq, Bool.and_eq_true] at h
  exact groundL_mem.1 h.2 a ha
theorem ground_v {s : T} (h : ground s = true) : s.v = 0 := by
  rw [ground_eq, Bool.and_eq_true] at h
  simpa using h.1
/-- The first place at which two lists of one length part; else they are the same. -/
theorem parts_or_same : ∀ (xs ys : List T), xs.length = ys.length → xs = ys ∨ ∃ (k : Nat) (a b : T), xs[k]? = some a ∧ ys[k]? = some b ∧ a ≠ b ∧ ∀ i, i < k → xs[i]? = ys[i]? := by
  intro xs
  induction xs with
  | nil => intro ys h; left; exact (List.length_eq_zero_iff.1 h.symm).symm
  | cons x xs ih =>
    intro ys h
    cases ys with
    | nil => simp at h
    | cons y ys =>
      by_cases e : x = y
      · subst e
        rcases ih ys (by simpa using h) with rfl | ⟨k, a, b, h1, h2, h3, h4⟩
        · exact Or.inl rfl
        · refine Or.inr ⟨k + 1, a, b, by simpa using h1, by simpa using h2, h3, fun i hi => ?_⟩
          cases i with
          | zero => rfl
          | succ i => simpa using h4 i (by omega)
      · exact Or.inr ⟨0, x, y, rfl, rfl, e, fun i hi => by omega⟩
theorem gt_total_aux {ar : List Int} : ∀ (n : Nat) (s t : T), s.sz + t.sz ≤ n → okP ar s → okP ar t → ground s = true → ground t = true → s = t ∨ gt s t = true ∨ gt t s = true := by
  intro n
  induction n with
  | zero => intro s t h; have := s.sz_pos; omega
  | succ n ih =>
    intro s t hn hs ht gs gt'
    by_cases h1 : ∃ a, a ∈ s.args ∧ (gt a t = true ∨ a = t)
    · exact Or.inr (Or.inl ((gt_iff hs ht).2 (Or.inl ⟨ground_v gs, h1⟩)))
    · by_cases h2 : ∃ b, b ∈ t.args ∧ (gt b s = true ∨ b = s)
      · exact Or.inr (Or.inr ((gt_iff ht hs).2 (Or.inl ⟨ground_v gt', h2⟩)))
      · have ha : ∀ a, a ∈ s.args → gt t a = true := fun a ha => by
          have := arg_sz ha
          rcases ih a t (by omega) (okArg hs ha) ht (ground_arg gs ha) gt' with h | h | h
          · exact absurd ⟨a, ha, Or.inr h⟩ h1
          · exact absurd ⟨a, ha, Or.inl h⟩ h1
          · exact h
        have hb : ∀ b, b ∈ t.args → gt s b = true := fun b hb => by
          have := arg_sz hb
          rcases ih b s (by omega) (okArg ht hb) hs (ground_arg gt' hb) gs with h | h | h
          · exact absurd ⟨b, hb, Or.inr h⟩ h2
          · exact absurd ⟨b, hb, Or.inl h⟩ h2
          · exact h
        rcases Int.lt_trichotomy s.f t.f with hf | hf | hf
        · exact Or.inr (Or.inr ((gt_iff ht hs).2 (Or.inr ⟨ground_v gt', ground_v gs, by omega, ha, Or.inl hf⟩)))
        · rcases parts_or_same s.args t.args (same_arity hs ht (ground_v gs) (ground_v gt') hf) with e | ⟨k, a, b, q1, q2, q3, q4⟩
          · left
            have e1 := ground_v gs
            have e2 := ground_v gt'
            cases s; cases t; simp_all
          · have ma := List.mem_of_getElem? q1
            have mb := List.mem_of_getElem? q2
            have za := arg_sz ma
            have zb := arg_sz mb
            rcases ih a b (by omega) (okArg hs ma) (okArg ht mb) (ground_arg gs ma) (ground_arg gt' mb) with h | h | h
            · exact absurd h q3
            · exact Or.inr (Or.inl ((gt_iff hs ht).2 (Or.inr ⟨ground_v gs, ground_v gt', by omega, hb, Or.inr ⟨hf, firstN_iff.2 ⟨k, a, b, q1, q2, q3, h, q4⟩⟩⟩)))
            · exact Or.inr (Or.inr ((gt_iff ht hs).2 (Or.inr ⟨ground_v gt', ground_v gs, by omega, ha, Or.inr ⟨hf.symm, firstN_iff.2 ⟨k, b, a, q2, q1, q3.symm, h, fun i hi => (q4 i hi).symm⟩⟩⟩)))
        · exact Or.inr (Or.inl ((gt_iff hs ht).2 (Or.inr ⟨ground_v gs, ground_v gt', by omega, hb, Or.inl hf⟩)))
/-- Of two without variables one is greater, or they are the same. -/
theorem gt_total {ar : List Int} {s t : T} (hs : okP ar s) (ht : okP ar t) (gs : ground s = true) (gt' : ground t = true) : s = t ∨ gt s t = true ∨ gt t s = true := gt_total_aux _ s t (Nat.le_refl _) hs ht gs gt'

end Go.Proofs.Ytppeedpmofimhaa

namespace Go.Proofs.Ytppeedpmofimhaa

/-- What a variable is bound to. -/
def lookB : List (Int × T) → Int → Option T
  | [], _ => none
  | (w, u) :: bs, v => if w = v then some u else lookB bs v
/-- What is put in for a term alone, if it is a variable that is bound. -/
def putIn (bs : List (Int × T)) (v : Int) : Option T := if 0 < v then lookB bs v else none
def applyT (bs : List (Int × T)) : T → T
  | ⟨v, f, args⟩ => match putIn bs v with
    | some u => u
    | none => ⟨v, f, applyL args⟩
  where
  applyL : List T → List T
    | [] => []
    | t :: ts => applyT bs t :: applyL ts
theorem applyT_eq (bs : List (Int × T)) (t : T) : applyT bs t = match putIn bs t.v with
    | some u => u
    | none => ⟨t.v, t.f, applyT.applyL bs t.args⟩ := by cases t; rfl
theorem applyL_map (bs : List (Int × T)) (ts : List T) : applyT.applyL bs ts = ts.map (applyT bs) := by
  induction ts with
  | nil => rfl
  | cons t ts ih => rw [applyT.applyL, ih]; rfl
theorem applyT_some {bs : List (Int × T)} {t u : T} (h : putIn bs t.v = some u) : applyT bs t = u := by rw [applyT_eq, h]
theorem applyT_none {bs : List (Int × T)} {t : T} (h : putIn bs t.v = none) : applyT bs t = ⟨t.v, t.f, t.args.map (applyT bs)⟩ := by rw [applyT_eq, h, applyL_map]
theorem putIn_fn {bs : List (Int × T)} {v : Int} (h : v = 0) : putIn bs v = none := by rw [putIn, if_neg (by omega)]
theorem applyT_fn {bs : List (Int × T)} {t : T} (h : t.v = 0) : applyT bs t = ⟨0, t.f, t.args.map (applyT bs)⟩ := by rw [applyT_none (putIn_fn h), h]
theorem lookB_mem {bs : List (Int × T)} {v : Int} {u : T} (h : lookB bs v = some u) : (v, u) ∈ bs := by
  induction bs with
  | nil => cases h
  | cons b bs ih =>
    obtain ⟨w, x⟩ := b
    rw [lookB] at h
    by_cases e : w = v
    · rw [if_pos e] at h
      simp only [Option.some.injEq] at h
      rw [e, h]; exact List.mem_cons_self
    · rw [if_neg e] at h
      exact List.mem_cons_of_mem _ (ih h)
theorem putIn_mem {bs : List (Int × T)} {v : Int} {u : T} (h : putIn bs v = some u) : (v, u) ∈ bs ∧ 0 < v := by
  rw [putIn] at h
  by_cases h0 : 0 < v
  · rw [if_pos h0] at h; exact ⟨lookB_mem h, h0⟩
  · rw [if_neg h0] at h; cases h

/-- Right terms put into a right term make a right one. -/
theorem okP_apply_aux {ar : List Int} {bs : List (Int × T)} (hb : ∀ v u, (v, u) ∈ bs → okP ar u) : ∀ (n : Nat) (t : T), t.sz ≤ n → okP ar t → okP ar (applyT bs t) := by
  intro n
  induction n with
  | zero => intro t h; have := t.sz_pos; omega
  | succ n ih =>
    intro t hn ht
    cases h : putIn bs t.v with
    | some u => rw [applyT_some h]; exact hb _ _ (putIn_mem h).1
    | none =>
      rw [applyT_none h]
      refine okP_iff.2 ⟨?_, okL_mem.2 fun a ha => ?_⟩
      · have := (okP_iff.1 ht).1
        simpa using this
      · obtain ⟨c, hc, rfl⟩ := List.mem_map.1 ha
        have := arg_sz hc
        exact ih c (by omega) (okArg ht hc)
theorem okP_apply {ar : List Int} {bs : List (Int × T)} (hb : ∀ v u, (v, u) ∈ bs → okP ar u) {t : T} (ht : okP ar t) : okP ar (applyT bs t) := okP_apply_aux hb _ t (Nat.le_refl _) ht

/-- The order stays, whatever is put in. -/
theorem gt_stable_aux {ar : List Int} {bs : List (Int × T)} (hb : ∀ v u, (v, u) ∈ bs → okP ar u) : ∀ (n : Nat) (s t : T), s.sz + t.sz ≤ n → okP ar s → okP ar t → gt s t = true → gt (applyT bs s) (applyT bs t) = true := by
  intro n
  induction n with
  | zero => intro s t h; have := s.sz_pos; omega
  | succ n ih =>
    intro s t hn hs ht h
    have os := okP_apply hb hs
    have ot := okP_apply hb ht
    rcases (gt_iff hs ht).1 h with ⟨hv, a, ha, h3⟩ | ⟨hv, htv, hf, hall, hlast⟩
    · have hasz := arg_sz ha
      have hm : applyT bs a ∈ (applyT bs s).args := by rw [applyT_fn hv]; exact List.mem_map_of_mem ha
      refine (gt_iff os ot).2 (Or.inl ⟨by rw [applyT_fn hv], applyT bs a, hm, ?_⟩)
      rcases h3 with h3 | rfl
      · exact Or.inl (ih a t (by omega) (okArg hs ha) ht h3)
      · exact Or.inr rfl
    · have hall2 : ∀ c, c ∈ (applyT bs t).args → gt (applyT bs s) c = true := fun c hc => by
        rw [applyT_fn htv] at hc
        obtain ⟨d, hd, rfl⟩ := List.mem_map.1 hc
        have := arg_sz hd
        exact ih s d (by omega) hs (okArg ht hd) (hall d hd)
      refine (gt_iff os ot).2 (Or.inr ⟨by rw [applyT_fn hv], by rw [applyT_fn htv], by rw [applyT_fn hv, applyT_fn htv]; exact hf, hall2, ?_⟩)
      rw [applyT_fn hv, applyT_fn htv]
      rcases hlast with hl | ⟨hl, hx⟩
      · exact Or.inl hl
      · refine Or.inr ⟨hl, ?_⟩
        obtain ⟨k, a, b, q1, q2, q3, q4, q5⟩ := firstN_iff.1 hx
        have ma := List.mem_of_getElem? q1
        have mb := List.mem_of_getElem? q2
        have za := arg_sz ma
        have zb := arg_sz mb
        have hg := ih a b (by omega) (okArg hs ma) (okArg ht mb) q4
        refine firstN_iff.2 ⟨k, applyT bs a, applyT bs b, by simp [q1], by simp [q2], fun e => ?_, hg, fun i hi => by simp [q5 i hi]⟩
        rw [e, gt_irr (okP_apply hb (okArg ht mb))] at hg
        cases hg
theorem gt_stable {ar : List Int} {bs : List (Int × T)} (hb : ∀ v u, (v, u) ∈ bs → okP ar u) {s t : T} (hs : okP ar s) (ht : okP ar t) (h : gt s t = true) : gt (applyT bs s) (applyT bs t) = true := gt_stable_aux hb _ s t (Nat.le_refl _) hs ht h

end Go.Proofs.Ytppeedpmofimhaa

namespace Go.Proofs.Ytppeedpmofimhaa
open Go.RowKit

set_option maxRecDepth 100000 in
set_option maxHeartbeats 400000 in
theorem between_any (n lo hi : Int) (w : World) : Calls Try.prog 63 #[.int .i64 n, .int .i64 lo, .int .i64 hi] w fun e w' => e = .returned (.bool (decide (lo ≤ n ∧ n ≤ hi))) ∧ w' = w := by
  by_cases h1 : lo ≤ n
  · by_cases h2 : n ≤ hi
    · have hfin : decide (lo ≤ n ∧ n ≤ hi) = true := by simp [h1, h2]
      rw [hfin]; clear hfin
      go_enter Try.func63, Try.ntmps63
      go_wp2_with fail
      go_ret
      exact ⟨rfl, rfl⟩
    · have hfin : decide (lo ≤ n ∧ n ≤ hi) = false := by simp; omega
      rw [hfin]; clear hfin
      go_enter Try.func63, Try.ntmps63
      go_wp2_with fail
      go_ret
      exact ⟨rfl, rfl⟩
  · have hfin : decide (lo ≤ n ∧ n ≤ hi) = false := by simp; omega
    rw [hfin]; clear hfin
    go_enter Try.func63, Try.ntmps63
    go_wp2_with fail
    go_ret
    exact ⟨rfl, rfl⟩

theorem between_yes (n lo hi : Int) (w : World) (h1 : lo ≤ n) (h2 : n ≤ hi) : Calls Try.prog 63 #[.int .i64 n, .int .i64 lo, .int .i64 hi] w fun e w' => e = .returned (.bool true) ∧ w' = w := by
  have h := between_any n lo hi w
  rwa [show decide (lo ≤ n ∧ n ≤ hi) = true from by simp [h1, h2]] at h
theorem between_no (n lo hi : Int) (w : World) (h : ¬ (lo ≤ n ∧ n ≤ hi)) : Calls Try.prog 63 #[.int .i64 n, .int .i64 lo, .int .i64 hi] w fun e w' => e = .returned (.bool false) ∧ w' = w := by
  have h' := between_any n lo hi w
  rwa [show decide (lo ≤ n ∧ n ≤ hi) = false from by simpa using h] at h'

set_option maxRecDepth 100000 in
set_option maxHeartbeats 400000 in
theorem checkSignature_any (ar : List Int) (ga : Option Addr) (gcap : Nat) (w : World) (hg : Ints w ar ga) :
    Calls Try.prog 20 #[.agg #[.slice ga ar.length gcap]] w fun e w' => e = .returned (.int .i64 (sigErr ar)) ∧ Below w.heap.size w w' := by
  by_cases hlen : 12 < ar.length
  · have hfin : sigErr ar = 2 := by simp [sigErr, hlen]
    rw [hfin]
    clear hfin
    go_enter Try.func20, Try.ntmps20
    go_wp2_with fail
    go_ret
    exact ⟨rfl, below1 _ _⟩
  · have hlen' : ar.length ≤ 12 := by omega
    go_enter Try.func20, Try.ntmps20
    go_wp2_with fail
    go_loop [3] (fun i => ∃ k : Nat, k ≤ ar.length ∧ i = .int .i64 k ∧ Hid ((ar.take k).all (fun n => decide (0 ≤ n ∧ n ≤ 3)) = true)) (fun i => ar.length - (intOf i).toNat)
    case atStart => exact ⟨0, Nat.zero_le _, rfl, rfl⟩
    case round =>
      obtain ⟨k, hk, rfl, hall⟩ := hrel
      by_cases hlt : k < ar.length
      · obtain ⟨b, off, rfl, hc⟩ := Ints_some hg (by omega)
        have hck : w.cell? ⟨b, off + k, none⟩ = some (.int .i64 (ar.getD k 0)) := hc k hlt
        have hbk := lt_of_cell hck
        have hs := all_take_succ (p := fun n => decide (0 ≤ n ∧ n ≤ 3)) hlt
        have hf := all_of_take (p := fun n => decide (0 ≤ n ∧ n ≤ 3)) hlt
        have Hs := hide hs
        have Hf := hide hf
        clear hs hf hc
        generalize ar.getD k 0 = n at *
        by_cases h0 : 0 ≤ n ∧ n ≤ 3
        · have H0 := hide h0
          clear h0
          go_wp2_with fail
          refine (between_yes n 0 3 _ H0.out.1 H0.out.2).mono ?_
          rintro e w' ⟨rfl, rfl⟩
          go_wp2_with fail
          go_round
          case rel => exact ⟨k + 1, by omega, by go_num, by have h1 := Hs.out; have h2 := H0.out; rw [hall.out] at h1; simpa [Hid, h2.1, h2.2] using h1⟩
          case measure => simp [intOf]; omega
        · have H0 := hide h0
          clear h0
          go_wp2_with fail
          refine (between_no n 0 3 _ H0.out).mono ?_
          rintro e w' ⟨rfl, rfl⟩
          go_wp2_with fail
          go_ret
          exact ⟨ret_int (by rw [sigErr, if_neg hlen, Hf.out (by have := H0.out; simpa using this)]; rfl), below1 _ _⟩
      · go_wp2_with fail
        go_ret
        have hk2 : k = ar.length := by omega
        subst hk2
        rw [List.take_length] at hall
        exact ⟨ret_int (by simp only [sigErr, if_neg hlen]; rw [hall.out]; rfl), below1 _ _⟩

set_option maxRecDepth 100000 in
set_option maxHeartbeats 400000 in
theorem sizeOf_any (N : Nat) : ∀ (t : T) (enough : Int) (a : Option Addr) (cap : Nat) (w : World), t.sz < N → 0 ≤ enough → enough ≤ 1000 → InL w t.args a →
    Calls Try.prog 15 #[.agg #[.int .i64 t.v, .int .i64 t.f, .slice a t.args.length cap], .int .i64 enough] w fun e w' => e = .returned (.int .i64 (min (t.sz : Int) (enough + 1))) ∧ Below w.heap.size w w' := by
  induction N with
  | zero => intro t enough a cap w hN; omega
  | succ N ih =>
    intro t enough a cap w hN he0 he1 IH
    have Hih := hide ih
    have htsz := T.sz_eq t
    clear ih
    go_enter Try.func15, Try.ntmps15
    go_wp2_with fail
    go_loopw [5, 6] (fun n i wr => ∃ k : Nat, k ≤ t.args.length ∧ i = .int .i64 k ∧ n = .int .i64 (min (1 + (T.sz.szL (t.args.take k) : Int)) (enough + 1)) ∧ k ≤ 1001 ∧
        Three wr w.heap.size (.int .i64 t.v) (.int .i64 t.f) (.slice a t.args.length cap) ∧ Below w.heap.size w wr) (fun _ i _ => t.args.length - (intOf i).toNat)
    case atStart => exact ⟨0, Nat.zero_le _, rfl, by simp [T.szL_nil]; omega, by omega, Three.new _ rfl, below1 _ _⟩
    case round =>
      obtain ⟨k, hk, rfl, rfl, hk1, h3, hb⟩ := hrel
      have H3 := hide h3
      obtain ⟨c0, c1, c2, _, _, _⟩ := h3
      have hzr := hb.size
      by_cases hlt : k < t.args.length
      · by_cases hgo : 1 + (T.sz.szL (t.args.take k) : Int) ≤ enough
        · obtain ⟨b, off, rfl⟩ := InP_some IH (by omega)
          obtain ⟨x, hx⟩ : ∃ x, t.args[k]? = some x := ⟨t.args[k], List.getElem?_eq_getElem hlt⟩
          obtain ⟨a1, cap1, _, k0, k1, k2, hin1⟩ := InP_at (InP_below hb IH) hx
          obtain ⟨hs1, hs2⟩ := szL_take hx
          have hxe := T.sz_eq x
          have Hs1 := hide hs1
          have hk3 : k ≤ 1000 := by have := T.length_le (t.args.take k); rw [List.length_take_of_le (by omega)] at this; omega
          have hm : min (1 + (T.sz.szL (t.args.take k) : Int)) (enough + 1) = 1 + T.sz.szL (t.args.take k) := by omega
          rw [hm]
          clear hs1 hx hm
          go_wp2_with fail
          refine (Hih.out x _ a1 cap1 _ (by omega) (by omega) (by omega) hin1).mono ?_
          rintro e w2 ⟨rfl, hb2⟩
          have hm2 : min (x.sz : Int) (enough - (1 + (T.sz.szL (t.args.take k) : Int)) + 1) ≤ enough := by omega
          have hm3 : 0 ≤ min (x.sz : Int) (enough - (1 + (T.sz.szL (t.args.take k) : Int)) + 1) := by omega
          have Hm4 : Hid (1 + (T.sz.szL (t.args.take k) : Int) + min (x.sz : Int) (enough - (1 + (T.sz.szL (t.args.take k) : Int)) + 1) = min (1 + (T.sz.szL (t.args.take (k + 1)) : Int)) (enough + 1)) := by
            show _ = _
            rw [Hs1.out]; omega
          generalize min (x.sz : Int) (enough - (1 + (T.sz.szL (t.args.take k) : Int)) + 1) = m at *
          go_wp2_with fail
          go_roundw
          case rel => exact ⟨k + 1, by omega, by go_num, by rw [← Hm4.out], by omega, H3.out.below hb2, hb.trans (hb2.mono hzr)⟩
          case measure => simp [intOf]; omega
        · have hm : min (1 + (T.sz.szL (t.args.take k) : Int)) (enough + 1) = enough + 1 := by omega
          have hle : T.sz.szL (t.args.take k) ≤ T.sz.szL t.args := by
            have e2 : T.sz.szL t.args = T.sz.szL (t.args.take k) + T.sz.szL (t.args.drop k) := by rw [← T.szL_append, List.take_append_drop]
            omega
          rw [hm]
          clear hm
          go_wp2_with fail
          go_ret
          exact ⟨ret_int (by omega), hb⟩
      · go_wp2_with fail
        go_ret
        have hk2 : k = t.args.length := by omega
        subst hk2
        rw [List.take_length]
        exact ⟨ret_int (by omega), hb⟩

end Go.Proofs.Ytppeedpmofimhaa

namespace Go.Proofs.Ytppeedpmofimhaa
open Go.RowKit

/-- All parts of a term, each behind those that stand in it. -/
def parts : T → List T
  | ⟨v, f, args⟩ => partsL args ++ [⟨v, f, args⟩]
  where
  partsL : List T → List T
    | [] => []
    | t :: ts => parts t ++ partsL ts
theorem parts_eq (t : T) : parts t = parts.partsL t.args ++ [t] := by cases t; rfl
theorem partsL_cons (t : T) (ts : List T) : parts.partsL (t :: ts) = parts t ++ parts.partsL ts := rfl
theorem partsL_append (a b : List T) : parts.partsL (a ++ b) = parts.partsL a ++ parts.partsL b := by
  induction a with
  | nil => rfl
  | cons t ts ih => rw [List.cons_append, partsL_cons, partsL_cons, ih, List.append_assoc]
theorem partsL_step {ts : List T} {k : Nat} {t : T} (h : ts[k]? = some t) : parts.partsL (ts.take (k + 1)) = parts.partsL (ts.take k) ++ parts t := by
  rw [List.take_add_one, h, partsL_append]
  show _ ++ (parts t ++ parts.partsL []) = _
  simp [parts.partsL]

/-- Three cells a term. -/
def Cells3 : List T → List Value → Prop
  | [], cs => cs = []
  | t :: ts, cs => ∃ a cap rest, cs = .int .i64 t.v :: .int .i64 t.f :: .slice a t.args.length cap :: rest ∧ Cells3 ts rest
theorem Cells3_append {ts us : List T} : ∀ {cs ds : List Value}, Cells3 ts cs → Cells3 us ds → Cells3 (ts ++ us) (cs ++ ds) := by
  induction ts with
  | nil => intro cs ds h1 h2; rw [show cs = [] from h1]; exact h2
  | cons t ts ih =>
    intro cs ds h1 h2
    obtain ⟨a, cap, rest, rfl, h⟩ := h1
    exact ⟨a, cap, rest ++ ds, rfl, ih h h2⟩
theorem Cells3_length {ts : List T} : ∀ {cs : List Value}, Cells3 ts cs → cs.length = ts.length * 3 := by
  induction ts with
  | nil => intro cs h; rw [show cs = [] from h]; rfl
  | cons t ts ih =>
    intro cs h
    obtain ⟨a, cap, rest, rfl, h⟩ := h
    have := ih h
    simp; omega
theorem Cells3_at {ts : List T} : ∀ {cs : List Value} {k : Nat} {t : T}, Cells3 ts cs → ts[k]? = some t → ∃ a cap, cs[k * 3]? = some (.int .i64 t.v) ∧ cs[k * 3 + 1]? = some (.int .i64 t.f) ∧ cs[k * 3 + 2]? = some (.slice a t.args.length cap) := by
  induction ts with
  | nil => intro cs k t _ h; simp at h
  | cons u ts ih =>
    intro cs k t h hk
    obtain ⟨a, cap, rest, rfl, h⟩ := h
    cases k with
    | zero => simp at hk; subst hk; exact ⟨a, cap, rfl, rfl, rfl⟩
    | succ k =>
      simp at hk
      obtain ⟨a', cap', g0, g1, g2⟩ := ih h hk
      refine ⟨a', cap', ?_, ?_, ?_⟩
      · rw [show (k + 1) * 3 = k * 3 + 1 + 1 + 1 from by omega]; simpa using g0
      · rw [show (k + 1) * 3 + 1 = k * 3 + 1 + 1 + 1 + 1 from by omega]; simpa using g1
      · rw [show (k + 1) * 3 + 2 = k * 3 + 2 + 1 + 1 + 1 from by omega]; simpa using g2

/-- The world has grown by new blocks, and in the row r alone; the row is now r'. -/
structure Grw (w w' : World) (r r' : Option Nat) : Prop where
  gr : w.grownBy w' r
  row : r' = r ∨ ∃ g, r' = some g ∧ w.heap.size ≤ g

theorem Grw.refl (w : World) (r : Option Nat) : Grw w w r r := ⟨⟨rfl, rfl, rfl, Nat.le_refl _, fun _ _ _ => rfl⟩, Or.inl rfl⟩
theorem Grw.trans {a b c : World} {r r' r'' : Option Nat} (h : Grw a b r r') (k : Grw b c r' r'') : Grw a c r r'' := by
  have hs := h.gr.size
  refine ⟨⟨k.gr.os.trans h.gr.os, k.gr.tape.trans h.gr.tape, k.gr.output.trans h.gr.output, Nat.le_trans hs k.gr.size, fun i hi hne => ?_⟩, ?_⟩
  · rw [k.gr.block i (by omega) (fun e => ?_), h.gr.block i hi hne]
    rcases h.row with h1 | ⟨g, h1, h2⟩
    · exact hne (e.trans h1)
    · rw [h1] at e; simp at e; omega
  · rcases k.row with k1 | ⟨g, k1, k2⟩
    · rw [k1]; exact h.row
    · exact Or.inr ⟨g, k1, by omega⟩
theorem Grw.of_below {w w' : World} (r : Option Nat) (h : Below w.heap.size w w') : Grw w w' r r := ⟨⟨h.os, h.tape, h.output, h.size, fun k hk _ => h.block k hk⟩, Or.inl rfl⟩
theorem Grw.below {B : Nat} {w w' : World} {r r' : Option Nat} (h : Grw w w' r r') (hB : B ≤ w.heap.size) (hr : ∀ g, r = some g → B ≤ g) : Below B w w' :=
  ⟨h.gr.os, h.gr.tape, h.gr.output, h.gr.size, fun k hk => h.gr.block k (by omega) (fun e => by have := hr k e.symm; omega)⟩

theorem three_new {w : World} {t : T} {a : Option Addr} {cap : Nat} {e : TypeId} {n : Nat} (hn : n = w.heap.size) : ∀ (j : Nat) (u : Value), [Value.int .i64 t.v, .int .i64 t.f, .slice a t.args.length cap][j]? = some u →
    (w.alloc (.cells #[.int .i64 t.v, .int .i64 t.f, .slice a t.args.length cap] e)).cell? ((⟨n, 0, none⟩ : Addr).add j) = some u := by
  intro j u h
  have e1 : (⟨n, 0, none⟩ : Addr).add j = ⟨n, j, none⟩ := by simp [Addr.add]; omega
  rw [e1, cell_new j hn]
  simpa using h

set_option maxRecDepth 100000 in
set_option maxHeartbeats 1000000 in
theorem partsOf_any (N : Nat) : ∀ (t : T) (a : Option Addr) (cap : Nat) (v : Value) (n : Nat) (xs : List Value) (w : World) (base : Nat), t.sz < N → n + t.sz ≤ 1000 → base ≤ w.heap.size → InP (fun k => k < base) w t.args a → w.ownsRow base 27 3 v n xs →
    Calls Try.prog 58 #[v, .agg #[.int .i64 t.v, .int .i64 t.f, .slice a t.args.length cap]] w fun e w' =>
      ∃ v' ds, e = .returned v' ∧ w'.ownsRow base 27 3 v' (n + t.sz) (xs ++ ds) ∧ Cells3 (parts t) ds ∧ Grw w w' v.ownBlock v'.ownBlock := by
  induction N with
  | zero => intro t a cap v n xs w base hN; omega
  | succ N ih =>
    intro t a cap v n xs w base hN hn hbase hin hown
    have Hih := hide ih
    have htsz := T.sz_eq t
    have Hown := hide hown
    obtain ⟨i, hi, hzz⟩ := Option.map_eq_some_iff.1 Try.info27
    simp only [Prod.mk.injEq] at hzz
    obtain ⟨hz0, hz1, hz2⟩ := hzz
    clear ih hown
    go_enter Try.func58, Try.ntmps58
    go_wp2_with fail
    go_loopw [0, 5] (fun l j wr => ∃ (k : Nat) (ds : List Value), k ≤ t.args.length ∧ j = .int .i64 k ∧ wr.ownsRow base 27 3 l (n + T.sz.szL (t.args.take k)) (xs ++ ds) ∧ Cells3 (parts.partsL (t.args.take k)) ds ∧
        Grw (w.alloc (.cells #[.int .i64 t.v, .int .i64 t.f, .slice a t.args.length cap] 27)) wr v.ownBlock l.ownBlock) (fun _ j _ => t.args.length - (intOf j).toNat)
    case atStart =>
      refine ⟨0, [], Nat.zero_le _, rfl, ?_, rfl, Grw.refl _ _⟩
      rw [List.append_nil]
      exact own_same Hown.out (fun g hg => Below.heap_alloc _ _ _ (own_lt Hown.out g hg).2)
    case round =>
      obtain ⟨k, ds, hk, rfl, hownk, hc3, hgrw⟩ := hrel
      have hzr := hgrw.gr.size
      simp at hzr
      have hvx : v.ownBlock ≠ some w.heap.size := fun e => by have := (own_lt Hown.out _ e).2; omega
      have h3 : Three wr w.heap.size (.int .i64 t.v) (.int .i64 t.f) (.slice a t.args.length cap) := (Three.new 27 rfl).same (hgrw.gr.block _ (by simp) (fun e => hvx e.symm))
      have H3 := hide h3
      have Hownk := hide hownk
      have Hc3 := hide hc3
      have Hgrw := hide hgrw
      obtain ⟨c0, c1, c2, _, _, _⟩ := h3
      have hin' : InP (fun k => k < base) wr t.args a := InP_same (fun k' hp _ => by
        rw [hgrw.gr.block k' (by simp; omega) (fun e => by have := (own_lt Hown.out _ e.symm).1; omega), Below.heap_alloc _ _ _ (by omega)]) hin
      clear hownk hc3 hgrw
      by_cases hlt : k < t.args.length
      · obtain ⟨b, off, rfl⟩ := InP_some hin (by omega)
        obtain ⟨x, hx⟩ : ∃ x, t.args[k]? = some x := ⟨t.args[k], List.getElem?_eq_getElem hlt⟩
        obtain ⟨a1, cap1, _, k0, k1, k2, hin1⟩ := InP_at hin' hx
        obtain ⟨hs1, hs2⟩ := szL_take hx
        have hxe := T.sz_eq x
        have Hs1 := hide hs1
        have hk3 : k ≤ 1000 := by have := T.length_le t.args; omega
        have Hst := hide (partsL_step hx)
        clear hs1 hx
        go_wp2_with fail
        refine (Hih.out x a1 cap1 _ _ _ _ base (by omega) (by omega) (by omega) hin1 Hownk.out).mono ?_
        rintro e w2 ⟨v2, ds2, rfl, hown2, hc2, hgrw2⟩
        have Hfin := hide (And.intro hown2 (And.intro hc2 hgrw2))
        clear hown2 hc2 hgrw2
        go_wp2_with fail
        go_roundw
        case rel =>
          obtain ⟨hown2, hc2, hgrw2⟩ := Hfin.out
          refine ⟨k + 1, ds ++ ds2, by omega, by go_num, ?_, by rw [Hst.out]; exact Cells3_append Hc3.out hc2, Hgrw.out.trans hgrw2⟩
          rw [← List.append_assoc]
          have e : n + T.sz.szL (t.args.take (k + 1)) = n + T.sz.szL (t.args.take k) + x.sz := by rw [Hs1.out]; omega
          rw [e]; exact hown2
        case measure => simp [intOf]; omega
      · have hk2 : k = t.args.length := by omega
        subst hk2
        rw [List.take_length] at Hownk Hc3
        obtain ⟨la, lc, rfl⟩ := own_shape Hownk.out
        have HO := hide (fun o1 => own_same Hownk.out (w' := wr.alloc o1) (fun g hg => (below1 wr o1).block g (own_lt Hownk.out g hg).2))
        go_wp2_with (at_builtin; go_must (refine wpList_append_lies _ rfl (.tmp 20) (.tmp 22) 25 rfl base 27 i (.agg #[.int .i64 0, .int .i64 0, .slice none 0 0]) 3 40 Try.underlying25 hi hz0 hz1 hz2 rfl (by decide) _ (n + T.sz.szL t.args) (xs ++ ds) rfl (HO.out _) ⟨wr.heap.size, 0, none⟩ 1 1 [.int .i64 t.v, .int .i64 t.f, .slice a t.args.length cap] rfl rfl (three_new rfl) (by simp [Value.oneCell']) (by decide) (by unfold maxLen; omega) (by omega) (by simp; omega) _ rfl ?_))
        intro g cap2 w2 hown2 hgr hat hlt2
        go_wp2_with fail
        go_ret
        refine ⟨_, ds ++ [.int .i64 t.v, .int .i64 t.f, .slice a t.args.length cap], rfl, ?_, ?_, ?_⟩
        · have e : n + t.sz = n + T.sz.szL t.args + 1 := by omega
          rw [e]; first | exact hown2 | (rw [← List.append_assoc]; exact hown2)
        · rw [parts_eq]
          exact Cells3_append Hc3.out ⟨a, cap, [], rfl, rfl⟩
        · refine (Grw.of_below _ (below1 _ _)).trans (Hgrw.out.trans ((Grw.of_below _ (below1 _ _)).trans ⟨hgr, ?_⟩))
          rcases hat with hat | hat
          · exact Or.inl hat.symm
          · exact Or.inr ⟨g, rfl, by rw [hat]; simp⟩

/-- What a list of terms of the call's own holds, cell by cell. -/
theorem own_cells {w : World} {base n : Nat} {v : Value} {xs : List Value} (h : w.ownsRow base 27 3 v n xs) (hn : 0 < n) : ∃ g cap, v = .slice (some ⟨g, 0, none⟩) n cap ∧ base ≤ g ∧ g < w.heap.size ∧ ∀ j u, xs[j]? = some u → w.cell? ⟨g, j, none⟩ = some u := by
  rcases h.2 with ⟨_, h0⟩ | ⟨g, cap, cur, rfl, hb, hg, hc, hm, hs, ht⟩
  · omega
  refine ⟨g, cap, rfl, hb, ?_, fun j u hu => ?_⟩
  · rcases Nat.lt_or_ge g w.heap.size with h | h
    · exact h
    · rw [Array.getElem?_eq_none h] at hg; cases hg
  · have hj : j < xs.length := by
      rcases Nat.lt_or_ge j xs.length with h | h
      · exact h
      · rw [List.getElem?_eq_none h] at hu; cases hu
    have e1 : cur[j]? = some u := by
      have h2 : (cur.toList.take (n * 3))[j]? = some u := by rw [ht]; exact hu
      rw [List.getElem?_take_of_lt (by have := h.1; omega)] at h2
      simpa using h2
    simp [World.cell?, hg, e1]

theorem parts_length : ∀ (n : Nat), (∀ t : T, t.sz ≤ n → (parts t).length = t.sz) ∧ (∀ ts : List T, T.sz.szL ts ≤ n → (parts.partsL ts).length = T.sz.szL ts) := by
  intro n
  induction n with
  | zero =>
    refine ⟨fun t h => by have := t.sz_pos; omega, fun ts h => ?_⟩
    cases ts with
    | nil => rfl
    | cons t ts => have := t.sz_pos; rw [T.szL_cons] at h; omega
  | succ n ih =>
    have h1 : ∀ t : T, t.sz ≤ n + 1 → (parts t).length = t.sz := fun t h => by
      rw [T.sz_eq] at h ⊢
      rw [parts_eq, List.length_append, ih.2 _ (by omega)]; simp; omega
    refine ⟨h1, fun ts => ?_⟩
    induction ts with
    | nil => intro _; rfl
    | cons t ts iht =>
      intro h
      rw [T.szL_cons] at h ⊢
      rw [partsL_cons, List.length_append, h1 t (by omega), iht (by omega)]

/-- The parts of one term, out of nothing. -/
theorem parts_one (t : T) (a : Option Addr) (cap : Nat) (w : World) (ht : t.sz ≤ 1000) (hin : InL w t.args a) :
    Calls Try.prog 58 #[.slice none 0 0, .agg #[.int .i64 t.v, .int .i64 t.f, .slice a t.args.length cap]] w fun e w' =>
      ∃ g cap1, e = .returned (.slice (some ⟨g, 0, none⟩) t.sz cap1) ∧ w.heap.size ≤ g ∧ g < w'.heap.size ∧
        (∀ k x, (parts t)[k]? = some x → ∃ a1 cap2, w'.cell? ⟨g, k * 3, none⟩ = some (.int .i64 x.v) ∧ w'.cell? ⟨g, k * 3 + 1, none⟩ = some (.int .i64 x.f) ∧ w'.cell? ⟨g, k * 3 + 2, none⟩ = some (.slice a1 x.args.length cap2)) ∧ Below w.heap.size w w' := by
  refine (partsOf_any (t.sz + 1) t a cap (.slice none 0 0) 0 [] w w.heap.size (by omega) (by omega) (Nat.le_refl _) (InP_imp (fun k h => h.2) (InP_lt hin)) ⟨rfl, Or.inl ⟨rfl, rfl⟩⟩).mono ?_
  rintro e w' ⟨v', ds, rfl, hown, hc3, hgrw⟩
  rw [Nat.zero_add, List.nil_append] at hown
  obtain ⟨g, cap1, rfl, hb, hlt, hcell⟩ := own_cells hown t.sz_pos
  refine ⟨g, cap1, rfl, hb, hlt, fun k x hk => ?_, hgrw.below (Nat.le_refl _) (fun g h => by cases h)⟩
  obtain ⟨a1, cap2, h0, h1, h2⟩ := Cells3_at hc3 hk
  exact ⟨a1, cap2, hcell _ _ h0, hcell _ _ h1, hcell _ _ h2⟩

end Go.Proofs.Ytppeedpmofimhaa

namespace Go.Proofs.Ytppeedpmofimhaa
open Go.RowKit

/-- The first error of a list of parts. -/
def firstErr (ar : List Int) : List T → Int
  | [] => 0
  | t :: ts => if partErr ar t.v t.f t.args.length = 0 then firstErr ar ts else partErr ar t.v t.f t.args.length
theorem firstErr_append (ar : List Int) (a b : List T) : firstErr ar (a ++ b) = if firstErr ar a = 0 then firstErr ar b else firstErr ar a := by
  induction a with
  | nil => simp [firstErr]
  | cons t ts ih =>
    rw [List.cons_append, firstErr, firstErr]
    by_cases h : partErr ar t.v t.f t.args.length = 0
    · rw [if_pos h, if_pos h, ih]
    · rw [if_neg h, if_neg h, if_neg h]
theorem firstErr_step {ar : List Int} {ts : List T} {k : Nat} {t : T} (ht : ts[k]? = some t) (h : firstErr ar (ts.take k) = 0) :
    (partErr ar t.v t.f t.args.length = 0 → firstErr ar (ts.take (k + 1)) = 0) ∧ (partErr ar t.v t.f t.args.length ≠ 0 → firstErr ar ts = partErr ar t.v t.f t.args.length) := by
  have hlt : k < ts.length := by
    rcases Nat.lt_or_ge k ts.length with h | h
    · exact h
    · rw [List.getElem?_eq_none h] at ht; cases ht
  constructor
  · intro h2
    rw [List.take_add_one, ht, firstErr_append, if_pos h]
    simp [firstErr, h2]
  · intro h2
    have e : ts = ts.take k ++ t :: ts.drop (k + 1) := by
      rw [List.getElem?_eq_getElem hlt] at ht
      simp at ht
      rw [← ht, List.getElem_cons_drop, List.take_append_drop]
    rw [e, firstErr_append, if_pos h, firstErr, if_neg h2]

/-- The look through the parts tells the first error. -/
theorem look_first {ar : List Int} : ∀ (n : Nat), (∀ (t : T) (s : Int), t.sz ≤ n → (lookT (partStep ar) s t).1 = firstErr ar (parts t) ∧ ((lookT (partStep ar) s t).2 = true ↔ firstErr ar (parts t) = 0)) ∧
    (∀ (ts : List T) (s : Int), T.sz.szL ts ≤ n → (ts ≠ [] → (lookT.lookL (partStep ar) s ts).1 = firstErr ar (parts.partsL ts)) ∧ ((lookT.lookL (partStep ar) s ts).2 = true ↔ firstErr ar (parts.partsL ts) = 0)) := by
  intro n
  induction n with
  | zero =>
    refine ⟨fun t s hn => by have := t.sz_pos; omega, fun ts s hn => ?_⟩
    cases ts with
    | nil => exact ⟨fun h => absurd rfl h, by simp [lookL_nil, parts.partsL, firstErr]⟩
    | cons t ts => have := t.sz_pos; rw [T.szL_cons] at hn; omega
  | succ n ih =>
    have h1 : ∀ (t : T) (s : Int), t.sz ≤ n + 1 → (lookT (partStep ar) s t).1 = firstErr ar (parts t) ∧ ((lookT (partStep ar) s t).2 = true ↔ firstErr ar (parts t) = 0) := fun t s hn => by
      rw [T.sz_eq] at hn
      obtain ⟨h2, h3⟩ := ih.2 t.args s (by omega)
      rw [lookT_eq, parts_eq, firstErr_append]
      by_cases h : (lookT.lookL (partStep ar) s t.args).2 = false
      · have h4 : ¬ firstErr ar (parts.partsL t.args) = 0 := fun h5 => by rw [h3.2 h5] at h; cases h
        have hne : t.args ≠ [] := fun h5 => by rw [h5, lookL_nil] at h; cases h
        rw [if_pos h, if_neg h4]
        exact ⟨h2 hne, by simp [h4]⟩
      · have h4 : firstErr ar (parts.partsL t.args) = 0 := h3.1 (by simpa using h)
        rw [if_neg h, if_pos h4]
        by_cases h5 : partErr ar t.v t.f t.args.length = 0
        · simp [partStep, firstErr, h5]
        · simp [partStep, firstErr, h5]
    refine ⟨h1, fun ts => ?_⟩
    induction ts with
    | nil => intro s _; exact ⟨fun h => absurd rfl h, by simp [lookL_nil, parts.partsL, firstErr]⟩
    | cons t ts iht =>
      intro s hn
      rw [T.szL_cons] at hn
      obtain ⟨h2, h3⟩ := h1 t s (by omega)
      obtain ⟨h4, h5⟩ := iht (lookT (partStep ar) s t).1 (by omega)
      rw [lookL_cons, partsL_cons, firstErr_append]
      by_cases h : (lookT (partStep ar) s t).2 = false
      · have h6 : ¬ firstErr ar (parts t) = 0 := fun h7 => by rw [h3.2 h7] at h; cases h
        rw [if_pos h, if_neg h6]
        exact ⟨fun _ => h2, by simp [h6]⟩
      · have h6 : firstErr ar (parts t) = 0 := h3.1 (by simpa using h)
        rw [if_neg h, if_pos h6]
        refine ⟨fun _ => ?_, h5⟩
        by_cases h7 : ts = []
        · subst h7
          rw [lookL_nil]
          show (lookT (partStep ar) s t).1 = 0
          rw [h2, h6]
        · exact h4 h7

theorem termErr_first {ar : List Int} {t : T} : termErr ar t = if 120 < t.sz then 2 else firstErr ar (parts t) := by
  rw [termErr]
  by_cases h : 120 < t.sz
  · rw [if_pos h, if_pos h]
  · rw [if_neg h, if_neg h]
    have := ((look_first (ar := ar) _).2 [t] 0 (Nat.le_refl _)).1 (by simp)
    rw [this]
    show firstErr ar (parts t ++ []) = _
    rw [List.append_nil]

set_option maxRecDepth 100000 in
set_option maxHeartbeats 1000000 in
theorem refCheckTerm_any (ar : List Int) (ga : Option Addr) (gcap : Nat) (t : T) (a : Option Addr) (cap : Nat) (w : World) (hg : Ints w ar ga) (hgl : ar.length ≤ 12) (hin : InL w t.args a) :
    Calls Try.prog 31 #[.agg #[.slice ga ar.length gcap], .agg #[.int .i64 t.v, .int .i64 t.f, .slice a t.args.length cap]] w fun e w' => e = .returned (.int .i64 (termErr ar t)) ∧ Below w.heap.size w w' := by
  have Hin2 := hide (fun o1 o2 => InP_alloc o2 (InP_alloc o1 hin))
  go_enter Try.func31, Try.ntmps31
  go_wp2_with fail
  refine (sizeOf_any (t.sz + 1) t 120 a cap _ (by omega) (by omega) (by omega) (Hin2.out _ _)).mono ?_
  rintro e w1 ⟨rfl, hb1⟩
  have hz1 : w.heap.size + 2 ≤ w1.heap.size := by have := hb1.size; simp at this; omega
  have hbw : Below w.heap.size w w1 := (below2 _ _ _).trans (hb1.mono (by simp; omega))
  by_cases hbig : 120 < t.sz
  · have hm : min (t.sz : Int) (120 + 1) = 121 := by omega
    rw [hm]
    clear hm
    go_wp2_with fail
    go_ret
    exact ⟨ret_int (by rw [termErr_first, if_pos hbig]), hbw⟩
  · have hm : min (t.sz : Int) (120 + 1) = t.sz := by omega
    rw [hm]
    have Hfin : Hid (termErr ar t = firstErr ar (parts t)) := by
      show _ = _
      rw [termErr_first, if_neg hbig]
    have cg : w1.cell? ⟨w.heap.size, 0, none⟩ = some (.slice ga ar.length gcap) := by
      rw [hb1.cell (p := ⟨w.heap.size, 0, none⟩) (by simp; omega), cell_alloc_lt (by simp), cell_new _ rfl]; rfl
    have h3t : Three w1 (w.heap.size + 1) (.int .i64 t.v) (.int .i64 t.f) (.slice a t.args.length cap) := (Three.new _ (by simp)).below hb1
    obtain ⟨c0, c1, c2, _, _, _⟩ := h3t
    clear hm hb1 Hin2
    go_wp2_with fail
    refine (parts_one t a cap _ (by omega) (InP_below hbw hin)).mono ?_
    rintro e w2 ⟨g, cap1, rfl, hg1, hg2, hcells, hb2⟩
    have hz2 := hb2.size
    have hbw2 : Below w.heap.size w w2 := hbw.trans (hb2.mono (by omega))
    have cg2 : w2.cell? ⟨w.heap.size, 0, none⟩ = some (.slice ga ar.length gcap) := by rw [hb2.cell (p := ⟨w.heap.size, 0, none⟩) (show w.heap.size < w1.heap.size by omega)]; exact cg
    have Hcells := hide hcells
    have hplen := ((parts_length _).1 t (Nat.le_refl _))
    have Hplen := hide hplen
    have hg3 := Ints_below hbw2 hg
    clear hcells cg c0 c1 c2 hb2 hplen
    go_wp2_with fail
    go_loopw [6] (fun i wr => ∃ k : Nat, k ≤ t.sz ∧ i = .int .i64 k ∧ Hid (firstErr ar ((parts t).take k) = 0) ∧ Below w2.heap.size w2 wr) (fun i _ => t.sz - (intOf i).toNat)
    case atStart => exact ⟨0, Nat.zero_le _, rfl, rfl, Below.refl _ _⟩
    case round =>
      obtain ⟨k, hk, rfl, HL, hb⟩ := hrel
      have hzr := hb.size
      have hfb : Below w.heap.size w wr := hbw2.trans (hb.mono (by omega))
      by_cases hlt : k < t.sz
      · have hlt2 : k < (parts t).length := by rw [Hplen.out]; exact hlt
        obtain ⟨x, hx⟩ : ∃ x, (parts t)[k]? = some x := ⟨(parts t)[k], List.getElem?_eq_getElem hlt2⟩
        obtain ⟨a1, cap2, k0, k1, k2⟩ := Hcells.out k x hx
        rw [← hb.cell (p := ⟨g, k * 3, none⟩) hg2] at k0
        rw [← hb.cell (p := ⟨g, k * 3 + 1, none⟩) hg2] at k1
        rw [← hb.cell (p := ⟨g, k * 3 + 2, none⟩) hg2] at k2
        have cgr : wr.cell? ⟨w.heap.size, 0, none⟩ = some (.slice ga ar.length gcap) := by rw [hb.cell (p := ⟨w.heap.size, 0, none⟩) (show w.heap.size < w2.heap.size by omega)]; exact cg2
        have hq : w.heap.size < wr.heap.size := by omega
        have Hst := hide (firstErr_step hx HL.out)
        have hgr := Ints_below hb hg3
        have hfa : ∀ o, Below w.heap.size w (wr.alloc o) := fun o => hfb.alloc (by omega) o
        have hra : ∀ o, Below w2.heap.size w2 (wr.alloc o) := fun o => hb.alloc hzr o
        clear hx cg2
        by_cases h1 : x.v = 0
        · by_cases h2 : 0 ≤ x.f ∧ x.f ≤ (ar.length : Int) - 1
          · obtain ⟨m, hm⟩ := Int.eq_ofNat_of_zero_le h2.1
            have hm2 : m < ar.length := by omega
            obtain ⟨b, off, rfl, hc⟩ := Ints_some hgr (by omega)
            have hck : wr.cell? ⟨b, off + m, none⟩ = some (.int .i64 (ar.getD m 0)) := hc m hm2
            have hbk := lt_of_cell hck
            have hpe : partErr ar x.v x.f x.args.length = if (x.args.length : Int) ≠ ar.getD m 0 then 1 else 0 := by
              rw [partErr, if_neg (by simpa using h1), if_neg (by omega), hm, Int.toNat_natCast]
            have h1' : (x.v != 0) = false := by simpa using h1
            have H2 := hide h2
            have Hpe := hide hpe
            rw [hm] at k1
            rw [hm] at H2
            clear hc hpe h2 h1 hgr
            generalize ar.getD m 0 = y at *
            by_cases h4 : (x.args.length : Int) = y
            · have hgo := hide (Hst.out.1 (by rw [Hpe.out, if_neg (by simpa using h4)]))
              have h4' : ((x.args.length : Int) != y) = false := by simpa using h4
              clear h4 Hst Hpe
              go_wp2_with fail
              refine (between_yes _ 0 _ _ H2.out.1 H2.out.2).mono ?_
              rintro e w' ⟨rfl, rfl⟩
              go_wp2_with fail
              go_quiet (fail)
              go_wp2_with fail
              go_roundw
              case rel => exact ⟨k + 1, by omega, by go_num, hgo, (hra _).trans ⟨rfl, rfl, rfl, Nat.le_refl _, fun _ _ => rfl⟩⟩
              case measure => simp [intOf]; omega
            · have hgo := hide (Hst.out.2 (by rw [Hpe.out, if_pos h4]; decide))
              have h4' : ((x.args.length : Int) != y) = true := by simpa using h4
              have Hpe2 : Hid (partErr ar x.v x.f x.args.length = 1) := by rw [Hpe.out, if_pos h4]; rfl
              clear h4 Hst Hpe
              go_wp2_with fail
              refine (between_yes _ 0 _ _ H2.out.1 H2.out.2).mono ?_
              rintro e w' ⟨rfl, rfl⟩
              go_wp2_with fail
              go_quiet (fail)
              go_wp2_with fail
              go_ret
              exact ⟨ret_int (by rw [Hfin.out, hgo.out, Hpe2.out]), (hfa _).trans ⟨rfl, rfl, rfl, Nat.le_refl _, fun _ _ => rfl⟩⟩
          · have Hpe2 : Hid (partErr ar x.v x.f x.args.length = 5) := by
              show _ = _
              rw [partErr, if_neg (by simpa using h1), if_pos (by omega)]
            have hgo := hide (Hst.out.2 (by rw [Hpe2.out]; decide))
            have h1' : (x.v != 0) = false := by simpa using h1
            have H2 := hide h2
            clear h2 h1 Hst
            go_wp2_with fail
            refine (between_no _ 0 _ _ H2.out).mono ?_
            rintro e w' ⟨rfl, rfl⟩
            go_wp2_with fail
            go_ret
            exact ⟨ret_int (by rw [Hfin.out, hgo.out, Hpe2.out]), hfa _⟩
        · have h1' : (x.v != 0) = true := by simpa using h1
          by_cases h2 : 1 ≤ x.v ∧ x.v ≤ 1000
          · have H2 := hide h2
            by_cases h3 : x.args.length = 0
            · by_cases h4 : x.f = 0
              · have Hpe2 : Hid (partErr ar x.v x.f x.args.length = 0) := by
                  show _ = _
                  rw [partErr, if_pos h1, if_neg (by omega), if_neg (by simp [h3, h4])]
                have hgo := hide (Hst.out.1 Hpe2.out)
                have h4' : (x.f != 0) = false := by simpa using h4
                have h3' : ¬ 0 < x.args.length := by omega
                clear h1 h2 h3 h4 Hst
                go_wp2_with fail
                refine (between_yes _ 1 1000 _ H2.out.1 H2.out.2).mono ?_
                rintro e w' ⟨rfl, rfl⟩
                go_wp2_with fail
                go_roundw
                case rel => exact ⟨k + 1, by omega, by go_num, hgo, hra _⟩
                case measure => simp [intOf]; omega
              · have Hpe2 : Hid (partErr ar x.v x.f x.args.length = 1) := by
                  show _ = _
                  rw [partErr, if_pos h1, if_neg (by omega), if_pos (Or.inr h4)]
                have hgo := hide (Hst.out.2 (by rw [Hpe2.out]; decide))
                have h4' : (x.f != 0) = true := by simpa using h4
                have h3' : ¬ 0 < x.args.length := by omega
                clear h1 h2 h3 h4 Hst
                go_wp2_with fail
                refine (between_yes _ 1 1000 _ H2.out.1 H2.out.2).mono ?_
                rintro e w' ⟨rfl, rfl⟩
                go_wp2_with fail
                go_ret
                exact ⟨ret_int (by rw [Hfin.out, hgo.out, Hpe2.out]), hfa _⟩
            · have Hpe2 : Hid (partErr ar x.v x.f x.args.length = 1) := by
                show _ = _
                rw [partErr, if_pos h1, if_neg (by omega), if_pos (Or.inl h3)]
              have hgo := hide (Hst.out.2 (by rw [Hpe2.out]; decide))
              have h3' : 0 < x.args.length := by omega
              clear h1 h2 h3 Hst
              go_wp2_with fail
              refine (between_yes _ 1 1000 _ H2.out.1 H2.out.2).mono ?_
              rintro e w' ⟨rfl, rfl⟩
              go_wp2_with fail
              go_ret
              exact ⟨ret_int (by rw [Hfin.out, hgo.out, Hpe2.out]), hfa _⟩
          · have Hpe2 : Hid (partErr ar x.v x.f x.args.length = 3) := by
              show _ = _
              rw [partErr, if_pos h1, if_pos (by omega)]
            have hgo := hide (Hst.out.2 (by rw [Hpe2.out]; decide))
            have H2 := hide h2
            clear h1 h2 Hst
            go_wp2_with fail
            refine (between_no _ 1 1000 _ H2.out).mono ?_
            rintro e w' ⟨rfl, rfl⟩
            go_wp2_with fail
            go_ret
            exact ⟨ret_int (by rw [Hfin.out, hgo.out, Hpe2.out]), hfa _⟩
      · go_wp2_with fail
        go_ret
        have hk2 : k = t.sz := by omega
        have h5 := HL.out
        rw [hk2, ← Hplen.out, List.take_length] at h5
        exact ⟨ret_int (by rw [Hfin.out, h5]), hfb⟩

end Go.Proofs.Ytppeedpmofimhaa
