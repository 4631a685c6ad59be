/- The order of terms, by the document's table: the same. No word of the program's memory here. The order of terms: nothing is greater than itself; what is greater than a greater one is; a term is greater than what stands in it; of two without variables one is. No word of the program's memory here. What a part is to another one: greater, the same, or neither; and what need not be asked. No word of the program's memory here. Terms with their parts numbered, as the program's order makes them. The table that the program's order keeps: what it holds is right, as far as it is asked. -/
import Derived.Test.YtbkedppkdhfpoabGreatJoined3
namespace Go.Proofs.YtbkedppkdhfpoabGreat

/-- A variable that is right has no arguments and no function. -/
theorem ok_var {ar : List Int} {t : T} (h : okP ar t) (hv : t.v ≠ 0) : t.f = 0 ∧ t.args = [] := by
  have h1 := (okP_iff.1 h).1
  rw [partErr_var hv, varErr] at h1
  split at h1
  · cases h1
  · split at h1
    · cases h1
    · rename_i h2
      constructor
      · omega
      · exact List.length_eq_zero_iff.1 (by omega)
theorem gt_var {s t : T} (hs : s.v = 0) (ht : t.v ≠ 0) : gt s t = standsT t.v s := by
  rw [gt_eq, if_neg (by simp [hs]), if_pos ht]
theorem gt_ofvar {s t : T} (hs : s.v ≠ 0) : gt s t = false := by rw [gt_eq, if_pos hs]

/-- Greater than a variable, or that variable: it stands there. -/
theorem gt_stands {ar : List Int} {a t : T} (ha : okP ar a) (ht : okP ar t) (hv : t.v ≠ 0) : (gt a t || sameT a t) = standsT t.v a := by
  obtain ⟨f1, f2⟩ := ok_var ht hv
  by_cases h : a.v = 0
  · have h1 : sameT a t = false := by
      rw [sameT_eq]
      have : ¬ a.v = t.v := by omega
      simp [this]
    rw [gt_var h hv, h1, Bool.or_false]
  · obtain ⟨g1, g2⟩ := ok_var ha h
    rw [gt_ofvar h, Bool.false_or, sameT_eq, standsT_eq, f1, f2, g1, g2]
    have h1 : sameT.sameL [] [] = true := rfl
    have h2 : standsT.standsL t.v [] = false := rfl
    rw [h1, h2, Bool.or_false]
    by_cases h3 : a.v = t.v <;> simp [h3]
theorem standsL_any (v : Int) (ts : List T) : standsT.standsL v ts = ts.any (standsT v) := by
  induction ts with
  | nil => rfl
  | cons t ts ih => rw [standsL_cons, List.any_cons, ih]

/-- What the document's table says of two parts, by what it says of lesser ones. -/
def refBody (s t : T) : Bool :=
  (decide (s.v = 0) && s.args.any (fun a => gt a t || sameT a t)) ||
    ((decide (s.v = 0) && decide (t.v = 0) && decide (t.f ≤ s.f) && t.args.all (fun c => gt s c)) && (decide (t.f < s.f) || (decide (s.f = t.f) && firstN gt s.args t.args)))

theorem gt_ref {ar : List Int} {s t : T} (hs : okP ar s) (ht : okP ar t) : gt s t = refBody s t := by
  rw [refBody]
  by_cases h1 : s.v = 0
  · by_cases h2 : t.v = 0
    · rw [gt_eq, if_neg (by simp [h1]), if_neg (by simp [h2]), decide_eq_true h1, decide_eq_true h2, Bool.true_and, Bool.true_and, Bool.true_and]
      have e1 : s.args.any (fun a => sameT a t || gt a t) = s.args.any (fun a => gt a t || sameT a t) := any_congr' (fun a _ => Bool.or_comm _ _)
      have e2 : t.args.any (fun c => !gt s c) = !t.args.all (fun c => gt s c) := by
        rw [List.all_eq_not_any_not, Bool.not_not]
      rw [e1, e2]
      cases s.args.any (fun a => gt a t || sameT a t) with
      | true => simp
      | false =>
        by_cases h3 : s.f < t.f
        · have h4 : ¬ t.f ≤ s.f := by omega
          simp [h3, h4]
        · have h4 : t.f ≤ s.f := by omega
          cases t.args.all (fun c => gt s c) with
          | false => simp [h3]
          | true =>
            by_cases h5 : t.f < s.f
            · simp [h3, h4, h5]
            · have h6 : s.f = t.f := by omega
              simp [h6]
    · rw [gt_var h1 h2, decide_eq_true h1, decide_eq_false h2, Bool.true_and, Bool.true_and, Bool.false_and, Bool.false_and, Bool.false_and, Bool.or_false, standsT_eq, standsL_any]
      have h3 : (s.v == t.v) = false := by
        rw [h1]; simp; omega
      rw [h3, Bool.false_or]
      exact any_congr' (fun a ha => (gt_stands (okL_mem.1 (okP_iff.1 hs).2 a ha) ht h2).symm)
  · rw [gt_ofvar h1, decide_eq_false h1]; simp

end Go.Proofs.YtbkedppkdhfpoabGreat

namespace Go.Proofs.YtbkedppkdhfpoabGreat

theorem sameL_eq_aux : ∀ (n : Nat), (∀ t u : T, t.sz ≤ n → sameT t u = true → t = u) ∧ (∀ ts us : List T, T.sz.szL ts ≤ n → sameT.sameL ts us = true → ts = us) := by
  intro n
  induction n with
  | zero =>
    refine ⟨fun t u h => by have := t.sz_pos; omega, fun ts us h hs => ?_⟩
    cases ts with
    | nil =>
      cases us with
      | nil => rfl
      | cons u us => rw [sameL_length (by simp)] at hs; cases hs
    | cons t ts => have := t.sz_pos; rw [T.szL_cons] at h; omega
  | succ n ih =>
    have h1 : ∀ t u : T, t.sz ≤ n + 1 → sameT t u = true → t = u := fun t u h hs => by
      have hte := T.sz_eq t
      rw [sameT_eq] at hs
      simp only [Bool.and_eq_true, beq_iff_eq] at hs
      have := ih.2 t.args u.args (by omega) hs.2
      cases t; cases u
      simp_all
    refine ⟨h1, fun ts => ?_⟩
    induction ts with
    | nil =>
      intro us _ hs
      cases us with
      | nil => rfl
      | cons u us => rw [sameL_length (by simp)] at hs; cases hs
    | cons t ts iht =>
      intro us h hs
      rw [T.szL_cons] at h
      cases us with
      | nil => rw [sameL_length (by simp)] at hs; cases hs
      | cons u us =>
        rw [sameL_cons, Bool.and_eq_true] at hs
        rw [h1 t u (by omega) hs.1, iht us (by omega) hs.2]
theorem sameT_iff {t u : T} : sameT t u = true ↔ t = u := ⟨(sameL_eq_aux t.sz).1 t u (Nat.le_refl _), fun h => by rw [h]; exact sameT_refl u⟩
theorem sameT_ne {t u : T} : sameT t u = false ↔ t ≠ u := by
  constructor
  · intro h e; rw [sameT_iff.2 e] at h; cases h
  · intro h
    rcases Bool.eq_false_or_eq_true (sameT t u) with h1 | h1
    · exact absurd (sameT_iff.1 h1) h
    · exact h1

theorem gt_iff {ar : List Int} {s t : T} (hs : okP ar s) (ht : okP ar t) : gt s t = true ↔
    (s.v = 0 ∧ ∃ a, a ∈ s.args ∧ (gt a t = true ∨ a = t)) ∨ (s.v = 0 ∧ t.v = 0 ∧ t.f ≤ s.f ∧ (∀ c, c ∈ t.args → gt s c = true) ∧ (t.f < s.f ∨ (s.f = t.f ∧ firstN gt s.args t.args = true))) := by
  rw [gt_ref hs ht, refBody]
  simp only [Bool.or_eq_true, Bool.and_eq_true, decide_eq_true_eq, List.any_eq_true, List.all_eq_true, sameT_iff]
  constructor
  · rintro (h | ⟨⟨⟨⟨h1, h2⟩, h3⟩, h4⟩, h5⟩)
    · exact Or.inl h
    · exact Or.inr ⟨h1, h2, h3, h4, h5⟩
  · rintro (h | ⟨h1, h2, h3, h4, h5⟩)
    · exact Or.inl h
    · exact Or.inr ⟨⟨⟨⟨h1, h2⟩, h3⟩, h4⟩, h5⟩

/-- Where of two lists the first ones that are not the same part. -/
theorem firstN_iff {g : T → T → Bool} : ∀ {xs ys : List T}, firstN g xs ys = true ↔ ∃ (k : Nat) (a b : T), xs[k]? = some a ∧ ys[k]? = some b ∧ a ≠ b ∧ g a b = true ∧ (∀ i, i < k → xs[i]? = ys[i]?) := by
  intro xs
  induction xs with
  | nil =>
    intro ys
    constructor
    · intro h; simp [firstN] at h
    · rintro ⟨k, a, b, h, _⟩; simp at h
  | cons x xs ih =>
    intro ys
    cases ys with
    | nil =>
      constructor
      · intro h; simp [firstN] at h
      · rintro ⟨k, a, b, _, h, _⟩; simp at h
    | cons y ys =>
      rw [firstN]
      by_cases h : sameT x y = true
      · rw [if_pos h, ih]
        have e := sameT_iff.1 h
        subst e
        constructor
        · rintro ⟨k, a, b, h1, h2, h3, h4, h5⟩
          refine ⟨k + 1, a, b, by simpa using h1, by simpa using h2, h3, h4, fun i hi => ?_⟩
          cases i with
          | zero => rfl
          | succ i => simpa using h5 i (by omega)
        · rintro ⟨k, a, b, h1, h2, h3, h4, h5⟩
          cases k with
          | zero =>
            simp at h1 h2
            exact absurd (h1.symm.trans h2) h3
          | succ k =>
            refine ⟨k, a, b, by simpa using h1, by simpa using h2, h3, h4, fun i hi => ?_⟩
            have := h5 (i + 1) (by omega)
            simpa using this
      · rw [if_neg h]
        have hne : x ≠ y := fun e => h (sameT_iff.2 e)
        constructor
        · intro hg
          exact ⟨0, x, y, rfl, rfl, hne, hg, fun i hi => by omega⟩
        · rintro ⟨k, a, b, h1, h2, h3, h4, h5⟩
          cases k with
          | zero =>
            simp at h1 h2
            subst h1; subst h2; exact h4
          | succ k =>
            have := h5 0 (by omega)
            simp at this
            exact absurd this hne

theorem okArg {ar : List Int} {s a : T} (hs : okP ar s) (ha : a ∈ s.args) : okP ar a := okL_mem.1 (okP_iff.1 hs).2 a ha
theorem v_of_arg {ar : List Int} {s a : T} (hs : okP ar s) (ha : a ∈ s.args) : s.v = 0 := by
  by_cases h : s.v = 0
  · exact h
  · rw [(ok_var hs h).2] at ha; cases ha

/-- A term is greater than what stands in it. -/
theorem gt_arg {ar : List Int} {s a : T} (hs : okP ar s) (ha : a ∈ s.args) : gt s a = true :=
  (gt_iff hs (okArg hs ha)).2 (Or.inl ⟨v_of_arg hs ha, a, ha, Or.inr rfl⟩)

/-- What is greater than a greater one is. -/
theorem gt_trans_aux {ar : List Int} : ∀ (n : Nat) (s t u : T), s.sz + t.sz + u.sz ≤ n → okP ar s → okP ar t → okP ar u → gt s t = true → gt t u = true → gt s u = true := by
  intro n
  induction n with
  | zero => intro s t u h; have := s.sz_pos; omega
  | succ n ih =>
    intro s t u hn hs ht hu h1 h2
    rcases (gt_iff hs ht).1 h1 with ⟨hv, a, ha, h3⟩ | ⟨hv, htv, hf, hall, hlast⟩
    · have hasz := arg_sz ha
      refine (gt_iff hs hu).2 (Or.inl ⟨hv, a, ha, ?_⟩)
      rcases h3 with h3 | rfl
      · exact Or.inl (ih a t u (by omega) (okArg hs ha) ht hu h3 h2)
      · exact Or.inl h2
    · rcases (gt_iff ht hu).1 h2 with ⟨_, b, hb, h4⟩ | ⟨_, huv, hf2, hall2, hlast2⟩
      · have hbsz := arg_sz hb
        rcases h4 with h4 | rfl
        · exact ih s b u (by omega) hs (okArg ht hb) hu (hall b hb) h4
        · exact hall _ hb
      · have hall3 : ∀ c, c ∈ u.args → gt s c = true := fun c hc => by
          have hcsz := arg_sz hc
          exact ih s t c (by omega) hs ht (okArg hu hc) h1 (hall2 c hc)
        refine (gt_iff hs hu).2 (Or.inr ⟨hv, huv, by omega, hall3, ?_⟩)
        rcases hlast with hl | ⟨hl, hx⟩
        · exact Or.inl (by omega)
        · rcases hlast2 with hl2 | ⟨hl2, hx2⟩
          · exact Or.inl (by omega)
          · refine Or.inr ⟨by omega, ?_⟩
            obtain ⟨k, a, b, q1, q2, q3, q4, q5⟩ := firstN_iff.1 hx
            obtain ⟨k2, b2, c, r1, r2, r3, r4, r5⟩ := firstN_iff.1 hx2
            have ma := List.mem_of_getElem? q1
            have mb := List.mem_of_getElem? q2
            have mb2 := List.mem_of_getElem? r1
            have mc := List.mem_of_getElem? r2
            have za := arg_sz ma
            have zb := arg_sz mb
            have zb2 := arg_sz mb2
            have zc := arg_sz mc
            refine firstN_iff.2 ?_
            rcases Nat.lt_trichotomy k k2 with hk | hk | hk
            · have e := r5 k hk
              refine ⟨k, a, b, q1, e.symm.trans q2, q3, q4, fun i hi => (q5 i hi).trans (r5 i (by omega))⟩
            · subst hk
              rw [q2] at r1
              simp only [Option.some.injEq] at r1
              subst r1
              have hac := ih a b c (by omega) (okArg hs ma) (okArg ht mb) (okArg hu mc) q4 r4
              refine ⟨k, a, c, q1, r2, ?_, hac, fun i hi => (q5 i hi).trans (r5 i hi)⟩
              intro e
              subst e
              -- a > b > a, so the lesser of both is greater than itself: by what is shown of lesser ones this cannot be
              have irr : ∀ (m : Nat) (x : T), x.sz ≤ m → 3 * x.sz ≤ n + 2 → okP ar x → gt x x = true → False := by
                intro m
                induction m with
                | zero => intro x h; have := x.sz_pos; omega
                | succ m ihm =>
                  intro x hxm hxa hox hxx
                  rcases (gt_iff hox hox).1 hxx with ⟨hxv, d, hd, h9⟩ | ⟨_, _, _, _, h9⟩
                  · have hdsz := arg_sz hd
                    rcases h9 with h9 | h9
                    · exact ihm d (by omega) (by omega) (okArg hox hd) (ih d x d (by omega) (okArg hox hd) hox (okArg hox hd) h9 (gt_arg hox hd))
                    · rw [h9] at hdsz; omega
                  · rcases h9 with h9 | ⟨_, h9⟩
                    · omega
                    · obtain ⟨_, d, e, w1, w2, w3, _⟩ := firstN_iff.1 h9
                      rw [w1] at w2
                      exact w3 (by simpa using w2)
              rcases Nat.le_total a.sz b.sz with hab | hab
              · exact irr a.sz a (Nat.le_refl _) (by omega) (okArg hs ma) hac
              · exact irr b.sz b (Nat.le_refl _) (by omega) (okArg ht mb) (ih b a b (by omega) (okArg ht mb) (okArg hs ma) (okArg ht mb) r4 q4)
            · have e := q5 k2 hk
              exact ⟨k2, b2, c, e.trans r1, r2, r3, r4, fun i hi => (q5 i (by omega)).trans (r5 i hi)⟩
theorem gt_trans {ar : List Int} {s t u : T} (hs : okP ar s) (ht : okP ar t) (hu : okP ar u) (h1 : gt s t = true) (h2 : gt t u = true) : gt s u = true := gt_trans_aux _ s t u (Nat.le_refl _) hs ht hu h1 h2

/-- Nothing is greater than itself. -/
theorem gt_irr_aux {ar : List Int} : ∀ (m : Nat) (x : T), x.sz ≤ m → okP ar x → gt x x = true → False := by
  intro m
  induction m with
  | zero => intro x h; have := x.sz_pos; omega
  | succ m ihm =>
    intro x hxm hox hxx
    rcases (gt_iff hox hox).1 hxx with ⟨hxv, d, hd, h9⟩ | ⟨_, _, _, _, h9⟩
    · have hdsz := arg_sz hd
      rcases h9 with h9 | h9
      · exact ihm d (by omega) (okArg hox hd) (gt_trans (okArg hox hd) hox (okArg hox hd) h9 (gt_arg hox hd))
      · rw [h9] at hdsz; omega
    · rcases h9 with h9 | ⟨_, h9⟩
      · omega
      · obtain ⟨_, d, e, w1, w2, w3, _⟩ := firstN_iff.1 h9
        rw [w1] at w2
        exact w3 (by simpa using w2)
theorem gt_irr {ar : List Int} {s : T} (hs : okP ar s) : gt s s = false := by
  rcases Bool.eq_false_or_eq_true (gt s s) with h | h
  · exact (gt_irr_aux _ s (Nat.le_refl _) hs h).elim
  · exact h
theorem gt_asym {ar : List Int} {s t : T} (hs : okP ar s) (ht : okP ar t) (h : gt s t = true) : gt t s = false := by
  rcases Bool.eq_false_or_eq_true (gt t s) with h1 | h1
  · have := gt_trans hs ht hs h h1
    rw [gt_irr hs] at this; cases this
  · exact h1

end Go.Proofs.YtbkedppkdhfpoabGreat

namespace Go.Proofs.YtbkedppkdhfpoabGreat

/-- 1: greater; 2: the same; 3: neither. -/
def cmpS (s t : T) : Int := if gt s t then 1 else if sameT s t then 2 else 3
theorem cmpS_range (s t : T) : cmpS s t = 1 ∨ cmpS s t = 2 ∨ cmpS s t = 3 := by
  rw [cmpS]; split
  · exact Or.inl rfl
  · split
    · exact Or.inr (Or.inl rfl)
    · exact Or.inr (Or.inr rfl)
theorem cmpS_one {s t : T} : cmpS s t = 1 ↔ gt s t = true := by
  rw [cmpS]
  by_cases h : gt s t = true
  · rw [if_pos h]; simp [h]
  · rw [if_neg h]
    constructor
    · intro h'; split at h' <;> cases h'
    · intro h'; exact absurd h' h
theorem cmpS_three {s t : T} : cmpS s t ≠ 3 ↔ gt s t = true ∨ s = t := by
  rw [cmpS]
  by_cases h : gt s t = true
  · rw [if_pos h]; simp [h]
  · rw [if_neg h]
    by_cases h2 : sameT s t = true
    · rw [if_pos h2]; simp [sameT_iff.1 h2]
    · rw [if_neg h2]
      constructor
      · intro h'; exact absurd rfl h'
      · rintro (h' | h')
        · exact absurd h' h
        · exact absurd (sameT_iff.2 h') h2
theorem cmpS_two {ar : List Int} {s t : T} (hs : okP ar s) : cmpS s t = 2 ↔ s = t := by
  constructor
  · intro h
    rw [cmpS] at h
    split at h
    · cases h
    · split at h
      · rename_i h2; exact sameT_iff.1 h2
      · cases h
  · rintro rfl
    rw [cmpS, gt_irr hs, sameT_refl]; rfl
theorem cmpS_is3 {ar : List Int} {s t : T} (hs : okP ar s) (h : cmpS s t = 3) : s ≠ t ∧ gt s t = false := by
  refine ⟨fun e => ?_, ?_⟩
  · rw [(cmpS_two hs).2 e] at h; cases h
  · cases hgt : gt s t with
    | false => rfl
    | true => rw [cmpS_one.2 hgt] at h; cases h
theorem cmpS_no {s t : T} (h : s ≠ t) : cmpS s t = if gt s t then 1 else 3 := by
  rw [cmpS, if_neg (fun h' => h (sameT_iff.1 h'))]

theorem cmp_var {ar : List Int} {s t : T} (hs : okP ar s) (ht : okP ar t) (h0 : s.v ≠ 0) : cmpS s t = if s.v = t.v then 2 else 3 := by
  rw [cmpS, gt_ofvar h0]
  obtain ⟨f1, a1⟩ := ok_var hs h0
  by_cases h : s.v = t.v
  · obtain ⟨f2, a2⟩ := ok_var ht (by rw [← h]; exact h0)
    have e : s = t := by
      obtain ⟨v, f, a⟩ := s
      obtain ⟨v', f', a'⟩ := t
      simp only at f1 a1 f2 a2 h
      rw [f1, a1, f2, a2, h]
    rw [if_pos h, e, sameT_refl]; rfl
  · rw [if_neg h]
    have : sameT s t = false := sameT_ne.2 (fun e => h (by rw [e]))
    rw [this]; rfl
/-- Where only an argument can be it. -/
theorem cmp_byArg {ar : List Int} {s t : T} (hs : okP ar s) (ht : okP ar t) (h0 : s.v = 0) (h : t.v ≠ 0 ∨ s.f < t.f) : cmpS s t = if s.args.any (fun a => cmpS a t != 3) then 1 else 3 := by
  have hne : s ≠ t := fun e => by
    rcases h with h | h
    · rw [← e] at h; exact h h0
    · rw [e] at h; exact Int.lt_irrefl _ h
  have hiff : gt s t = s.args.any (fun a => cmpS a t != 3) := by
    rw [Bool.eq_iff_iff, gt_iff hs ht, List.any_eq_true]
    constructor
    · rintro (⟨_, a, ha, h1⟩ | ⟨_, h1, h2, _⟩)
      · exact ⟨a, ha, by simpa using cmpS_three.2 h1⟩
      · rcases h with h | h
        · exact absurd h1 h
        · omega
    · rintro ⟨a, ha, h1⟩
      exact Or.inl ⟨h0, a, ha, cmpS_three.1 (by simpa using h1)⟩
  rw [cmpS_no hne, hiff]
/-- Where it is enough that it is greater than each argument. -/
theorem cmp_above {ar : List Int} {s t : T} (hs : okP ar s) (ht : okP ar t) (h0 : s.v = 0) (h1 : t.v = 0) (h : t.f < s.f) : cmpS s t = if t.args.any (fun c => cmpS s c != 1) then 3 else 1 := by
  have hne : s ≠ t := fun e => by rw [e] at h; exact Int.lt_irrefl _ h
  have hiff : gt s t = !t.args.any (fun c => cmpS s c != 1) := by
    rw [Bool.eq_iff_iff, Bool.not_eq_true', List.any_eq_false]
    constructor
    · intro hg c hc
      have h2 := gt_trans hs ht (okArg ht hc) hg (gt_arg ht hc)
      simp [cmpS_one.2 h2]
    · intro hall
      refine (gt_iff hs ht).2 (Or.inr ⟨h0, h1, by omega, fun c hc => ?_, Or.inl h⟩)
      have := hall c hc
      exact cmpS_one.1 (by simpa using this)
  rw [cmpS_no hne, hiff]
  cases t.args.any (fun c => cmpS s c != 1) <;> rfl

theorem mem_drop {xs : List T} {k i : Nat} {a : T} (h : xs[i]? = some a) (hk : k ≤ i) : a ∈ xs.drop k := by
  refine List.mem_of_getElem? (i := i - k) ?_
  rw [List.getElem?_drop, show k + (i - k) = i by omega]; exact h
/-- Of one function: the first arguments that are not the same, and that of s is greater. -/
theorem cmp_more {ar : List Int} {s t a c : T} {k : Nat} (hs : okP ar s) (ht : okP ar t) (h0 : s.v = 0) (h1 : t.v = 0) (hf : s.f = t.f) (ha : s.args[k]? = some a) (hc : t.args[k]? = some c) (hpre : ∀ i, i < k → s.args[i]? = t.args[i]?) (hg : gt a c = true) :
    cmpS s t = if (t.args.drop (k + 1)).any (fun c => cmpS s c != 1) then 3 else 1 := by
  have hma := List.mem_of_getElem? ha
  have hmc := List.mem_of_getElem? hc
  have hac : a ≠ c := fun e => by rw [e, gt_irr (okArg ht hmc)] at hg; cases hg
  have hne : s ≠ t := fun e => by subst e; rw [ha] at hc; exact hac (Option.some.inj hc)
  have hiff : gt s t = !(t.args.drop (k + 1)).any (fun c => cmpS s c != 1) := by
    rw [Bool.eq_iff_iff, Bool.not_eq_true', List.any_eq_false]
    constructor
    · intro hg' x hx
      have hx' := List.mem_of_mem_drop hx
      have h2 := gt_trans hs ht (okArg ht hx') hg' (gt_arg ht hx')
      simp [cmpS_one.2 h2]
    · intro hall
      refine (gt_iff hs ht).2 (Or.inr ⟨h0, h1, by omega, fun x hx => ?_, Or.inr ⟨hf, firstN_iff.2 ⟨k, a, c, ha, hc, hac, hg, hpre⟩⟩⟩)
      obtain ⟨i, hi, e⟩ := List.getElem_of_mem hx
      have hxi : t.args[i]? = some x := by rw [List.getElem?_eq_getElem hi, e]
      rcases Nat.lt_or_ge i k with h | h
      · have h2 : s.args[i]? = some x := (hpre i h).trans hxi
        exact gt_arg hs (List.mem_of_getElem? h2)
      · rcases Nat.eq_or_lt_of_le h with h | h
        · subst h
          obtain rfl : c = x := by rw [hc] at hxi; exact Option.some.inj hxi
          exact gt_trans hs (okArg hs hma) (okArg ht hmc) (gt_arg hs hma) hg
        · have := hall x (mem_drop hxi h)
          exact cmpS_one.1 (by simpa using this)
  rw [cmpS_no hne, hiff]
  cases (t.args.drop (k + 1)).any (fun c => cmpS s c != 1) <;> rfl
/-- Of one function: the first arguments that are not the same, and that of s is not greater. -/
theorem cmp_less {ar : List Int} {s t a c : T} {k : Nat} (hs : okP ar s) (ht : okP ar t) (h0 : s.v = 0) (hf : s.f = t.f) (ha : s.args[k]? = some a) (hc : t.args[k]? = some c) (hpre : ∀ i, i < k → s.args[i]? = t.args[i]?) (hac : a ≠ c) (hg : gt a c = false) :
    cmpS s t = if (s.args.drop (k + 1)).any (fun a => cmpS a t != 3) then 1 else 3 := by
  have hma := List.mem_of_getElem? ha
  have hmc := List.mem_of_getElem? hc
  have hne : s ≠ t := fun e => by subst e; rw [ha] at hc; exact hac (Option.some.inj hc)
  have hiff : gt s t = (s.args.drop (k + 1)).any (fun a => cmpS a t != 3) := by
    rw [Bool.eq_iff_iff, List.any_eq_true]
    constructor
    · intro hg'
      rcases (gt_iff hs ht).1 hg' with ⟨_, x, hx, h1⟩ | ⟨_, _, _, _, h1⟩
      · obtain ⟨i, hi, e⟩ := List.getElem_of_mem hx
        have hxi : s.args[i]? = some x := by rw [List.getElem?_eq_getElem hi, e]
        rcases Nat.lt_or_ge i k with h | h
        · have h2 : x ∈ t.args := List.mem_of_getElem? ((hpre i h).symm.trans hxi)
          have h3 := gt_arg ht h2
          rcases h1 with h1 | h1
          · rw [gt_asym ht (okArg ht h2) h3] at h1; cases h1
          · rw [h1, gt_irr ht] at h3; cases h3
        · rcases Nat.eq_or_lt_of_le h with h | h
          · subst h
            obtain rfl : a = x := by rw [ha] at hxi; exact Option.some.inj hxi
            have h3 : gt a c = true := by
              rcases h1 with h1 | h1
              · exact gt_trans (okArg hs hma) ht (okArg ht hmc) h1 (gt_arg ht hmc)
              · rw [h1]; exact gt_arg ht hmc
            rw [hg] at h3; cases h3
          · exact ⟨x, mem_drop hxi h, by simpa using cmpS_three.2 h1⟩
      · rcases h1 with h1 | ⟨_, h1⟩
        · omega
        · obtain ⟨j, x, y, hx, hy, hxy, hgxy, hall⟩ := firstN_iff.1 h1
          rcases Nat.lt_trichotomy j k with h | h | h
          · have := (hpre j h).symm.trans hx
            rw [hy] at this
            exact absurd (Option.some.inj this).symm hxy
          · subst h
            rw [ha] at hx; rw [hc] at hy
            obtain rfl := Option.some.inj hx
            obtain rfl := Option.some.inj hy
            rw [hg] at hgxy; cases hgxy
          · have := hall k h
            rw [ha, hc] at this
            exact absurd (Option.some.inj this) hac
    · rintro ⟨x, hx, h1⟩
      exact (gt_iff hs ht).2 (Or.inl ⟨h0, x, List.mem_of_mem_drop hx, cmpS_three.1 (by simpa using h1)⟩)
  rw [cmpS_no hne, hiff]
/-- Of one function, and all arguments the same. -/
theorem cmp_same {ar : List Int} {s t : T} (hs : okP ar s) (h0 : s.v = 0) (h1 : t.v = 0) (hf : s.f = t.f) (hall : s.args = t.args) : cmpS s t = 2 := by
  rw [cmpS_two hs]
  obtain ⟨v, f, a⟩ := s
  obtain ⟨v', f', a'⟩ := t
  simp only at h0 h1 hf hall
  rw [h0, h1, hf, hall]

end Go.Proofs.YtbkedppkdhfpoabGreat

namespace Go.Proofs.YtbkedppkdhfpoabGreat
open Go.RowKit

/-- The parts of a term's arguments lie behind the slice 's', numbered from n on, in blocks of which p holds; the terms themselves in blocks of which r holds. -/
def T.PIn (p r : Nat → Prop) (w : World) : T → Nat → Value → Prop
  | ⟨_, _, args⟩, n, s => ∃ a cap, s = .slice a args.length cap ∧ args.length ≤ cap ∧ PL args n a
  where
  PL : List T → Nat → Option Addr → Prop
    | [], _, _ => True
    | t :: ts, n, a => ∃ b off ta tc s, a = some ⟨b, off, none⟩ ∧ p b ∧ w.cell? ⟨b, off, none⟩ = some (.int .i64 t.v) ∧ w.cell? ⟨b, off + 1, none⟩ = some (.int .i64 t.f) ∧ w.cell? ⟨b, off + 2, none⟩ = some (.slice ta t.args.length tc) ∧
        w.cell? ⟨b, off + 3, none⟩ = some (.int .i64 (n : Int)) ∧ w.cell? ⟨b, off + 4, none⟩ = some s ∧ InP r w t.args ta ∧ t.PIn p r w (n + 1) s ∧ PL ts (n + t.sz) (some ⟨b, off + 5, none⟩)
abbrev PL (p r : Nat → Prop) (w : World) (ts : List T) (n : Nat) (a : Option Addr) : Prop := T.PIn.PL p r w ts n a

theorem PL_nil {p r : Nat → Prop} {w : World} {n : Nat} {a : Option Addr} : PL p r w [] n a := trivial
theorem PL_cons {p r : Nat → Prop} {w : World} {t : T} {ts : List T} {n : Nat} {a : Option Addr} : PL p r w (t :: ts) n a ↔ ∃ b off ta tc s, a = some ⟨b, off, none⟩ ∧ p b ∧ w.cell? ⟨b, off, none⟩ = some (.int .i64 t.v) ∧ w.cell? ⟨b, off + 1, none⟩ = some (.int .i64 t.f) ∧ w.cell? ⟨b, off + 2, none⟩ = some (.slice ta t.args.length tc) ∧
        w.cell? ⟨b, off + 3, none⟩ = some (.int .i64 (n : Int)) ∧ w.cell? ⟨b, off + 4, none⟩ = some s ∧ InP r w t.args ta ∧ t.PIn p r w (n + 1) s ∧ PL p r w ts (n + t.sz) (some ⟨b, off + 5, none⟩) := Iff.rfl
theorem PIn_iff {p r : Nat → Prop} {w : World} {t : T} {n : Nat} {s : Value} : t.PIn p r w n s ↔ ∃ a cap, s = .slice a t.args.length cap ∧ t.args.length ≤ cap ∧ PL p r w t.args n a := by
  cases t; exact Iff.rfl
theorem PL_some {p r : Nat → Prop} {w : World} {ts : List T} {n : Nat} {a : Option Addr} (h : PL p r w ts n a) (hp : 0 < ts.length) : ∃ b off, a = some ⟨b, off, none⟩ := by
  cases ts with
  | nil => simp at hp
  | cons t us =>
    obtain ⟨b, off, _, _, _, rfl, _⟩ := PL_cons.1 h
    exact ⟨b, off, rfl⟩
theorem szL_zero (t : T) (ts : List T) : T.sz.szL ((t :: ts).take 0) = 0 := rfl

/-- The part at index k: its five cells. -/
theorem PL_at {p r : Nat → Prop} {w : World} {ts : List T} : ∀ {b off n k : Nat} {t : T}, PL p r w ts n (some ⟨b, off, none⟩) → ts[k]? = some t →
    ∃ ta tc pa pc, p b ∧ w.cell? ⟨b, off + k * 5, none⟩ = some (.int .i64 t.v) ∧ w.cell? ⟨b, off + k * 5 + 1, none⟩ = some (.int .i64 t.f) ∧ w.cell? ⟨b, off + k * 5 + 2, none⟩ = some (.slice ta t.args.length tc) ∧
      w.cell? ⟨b, off + k * 5 + 3, none⟩ = some (.int .i64 ((n + T.sz.szL (ts.take k) : Nat) : Int)) ∧ w.cell? ⟨b, off + k * 5 + 4, none⟩ = some (.slice pa t.args.length pc) ∧ t.args.length ≤ pc ∧ InP r w t.args ta ∧ PL p r w t.args (n + T.sz.szL (ts.take k) + 1) pa := by
  induction ts with
  | nil => intro b off n k t _ h; simp at h
  | cons u us ih =>
    intro b off n k t h hk
    obtain ⟨b', off', ta, tc, s, hb, hp, h0, h1, h2, h3, h4, hin, hpin, hr⟩ := PL_cons.1 h
    simp only [Option.some.injEq, Addr.mk.injEq] at hb
    obtain ⟨rfl, rfl, _⟩ := hb
    cases k with
    | zero =>
      simp at hk; subst hk
      obtain ⟨pa, pc, rfl, hpc, hl⟩ := PIn_iff.1 hpin
      exact ⟨ta, tc, pa, pc, hp, by simpa using h0, by simpa using h1, by simpa using h2, by simpa [szL_zero, T.szL_nil] using h3, by simpa using h4, hpc, hin, by simpa [T.szL_nil] using hl⟩
    | succ k =>
      simp at hk
      obtain ⟨ta, tc, pa, pc, _, g0, g1, g2, g3, g4, gc, gi, gl⟩ := ih hr hk
      have e : off + (k + 1) * 5 = off + 5 + k * 5 := by omega
      have e2 : n + T.sz.szL ((u :: us).take (k + 1)) = n + u.sz + T.sz.szL (us.take k) := by rw [List.take_succ_cons, T.szL_cons]; omega
      rw [e, e2]
      exact ⟨ta, tc, pa, pc, hp, g0, g1, g2, g3, g4, gc, gi, gl⟩

/-- What lies in w lies in every world that holds the same cells there. -/
theorem PL_mono {p q r r' : Nat → Prop} {w w' : World} (hs : ∀ b o v, p b → w.cell? ⟨b, o, none⟩ = some v → q b ∧ w'.cell? ⟨b, o, none⟩ = some v) (hr : ∀ b o v, r b → w.cell? ⟨b, o, none⟩ = some v → r' b ∧ w'.cell? ⟨b, o, none⟩ = some v) :
    ∀ (m : Nat) (ts : List T) (n : Nat) (a : Option Addr), T.sz.szL ts ≤ m → PL p r w ts n a → PL q r' w' ts n a := by
  intro m
  induction m with
  | zero =>
    intro ts n a hn h
    cases ts with
    | nil => exact PL_nil
    | cons t ts => have := t.sz_pos; rw [T.szL_cons] at hn; omega
  | succ m ih =>
    intro ts
    induction ts with
    | nil => intro n a _ _; exact PL_nil
    | cons t ts iht =>
      intro n a hn h
      rw [T.szL_cons, T.sz_eq] at hn
      obtain ⟨b, off, ta, tc, s, rfl, hp, h0, h1, h2, h3, h4, hin, hpin, hl⟩ := PL_cons.1 h
      obtain ⟨pa, pc, rfl, hpc, hpl⟩ := PIn_iff.1 hpin
      exact PL_cons.2 ⟨b, off, ta, tc, _, rfl, (hs _ _ _ hp h0).1, (hs _ _ _ hp h0).2, (hs _ _ _ hp h1).2, (hs _ _ _ hp h2).2, (hs _ _ _ hp h3).2, (hs _ _ _ hp h4).2, InP_mono hr _ _ _ (Nat.le_refl _) hin,
        PIn_iff.2 ⟨pa, pc, rfl, hpc, ih _ _ _ (by omega) hpl⟩, iht _ _ (by omega) hl⟩
theorem PL_same {p r : Nat → Prop} {w w' : World} {ts : List T} {n : Nat} {a : Option Addr} (hs : ∀ k, p k ∨ r k → k < w.heap.size → w'.heap[k]? = w.heap[k]?) (h : PL p r w ts n a) : PL p r w' ts n a :=
  PL_mono (fun b o v hp hv => ⟨hp, by rw [World.cell?_of_block (w := w) (a := ⟨b, o, none⟩) (hs b (Or.inl hp) (lt_of_cell hv))]; exact hv⟩) (fun b o v hp hv => ⟨hp, by rw [World.cell?_of_block (w := w) (a := ⟨b, o, none⟩) (hs b (Or.inr hp) (lt_of_cell hv))]; exact hv⟩) _ _ _ _ (Nat.le_refl _) h
theorem PL_below {p r : Nat → Prop} {w w' : World} {ts : List T} {n : Nat} {a : Option Addr} (hb : Below w.heap.size w w') (h : PL p r w ts n a) : PL p r w' ts n a := PL_same (fun k _ hk => hb.block k hk) h
theorem PL_imp {p q r r' : Nat → Prop} {w : World} {ts : List T} {n : Nat} {a : Option Addr} (hpq : ∀ k, p k → q k) (hrr : ∀ k, r k → r' k) (h : PL p r w ts n a) : PL q r' w ts n a :=
  PL_mono (fun _ _ _ hp hv => ⟨hpq _ hp, hv⟩) (fun _ _ _ hp hv => ⟨hrr _ hp, hv⟩) _ _ _ _ (Nat.le_refl _) h

/-- A row of parts, told part by part. -/
theorem PL_of_row {p r : Nat → Prop} {w : World} {b : Nat} (hp : p b) {ts : List T} : ∀ {off n : Nat}, (∀ k t, ts[k]? = some t → ∃ ta tc pa pc, w.cell? ⟨b, off + k * 5, none⟩ = some (.int .i64 t.v) ∧ w.cell? ⟨b, off + k * 5 + 1, none⟩ = some (.int .i64 t.f) ∧ w.cell? ⟨b, off + k * 5 + 2, none⟩ = some (.slice ta t.args.length tc) ∧
      w.cell? ⟨b, off + k * 5 + 3, none⟩ = some (.int .i64 ((n + T.sz.szL (ts.take k) : Nat) : Int)) ∧ w.cell? ⟨b, off + k * 5 + 4, none⟩ = some (.slice pa t.args.length pc) ∧ t.args.length ≤ pc ∧ InP r w t.args ta ∧ PL p r w t.args (n + T.sz.szL (ts.take k) + 1) pa) → PL p r w ts n (some ⟨b, off, none⟩) := by
  induction ts with
  | nil => intro off n _; exact PL_nil
  | cons u us ih =>
    intro off n h
    obtain ⟨ta, tc, pa, pc, h0, h1, h2, h3, h4, hc, hi, hl⟩ := h 0 u rfl
    refine PL_cons.2 ⟨b, off, ta, tc, _, rfl, hp, by simpa using h0, by simpa using h1, by simpa using h2, by simpa [T.szL_nil] using h3, by simpa using h4, hi, PIn_iff.2 ⟨pa, pc, rfl, hc, by simpa [T.szL_nil] using hl⟩, ih (fun k t hk => ?_)⟩
    obtain ⟨ta, tc, pa, pc, g0, g1, g2, g3, g4, gc, gi, gl⟩ := h (k + 1) t (by simpa using hk)
    have e : off + (k + 1) * 5 = off + 5 + k * 5 := by omega
    have e2 : n + T.sz.szL ((u :: us).take (k + 1)) = n + u.sz + T.sz.szL (us.take k) := by rw [List.take_succ_cons, T.szL_cons]; omega
    rw [e] at g0 g1 g2 g3 g4
    rw [e2] at g3 gl
    exact ⟨ta, tc, pa, pc, g0, g1, g2, g3, g4, gc, gi, gl⟩

/-- The parts behind the first k of them. -/
theorem PL_drop {p r : Nat → Prop} {w : World} : ∀ {ts : List T} {n k b off : Nat}, PL p r w ts n (some ⟨b, off, none⟩) → PL p r w (ts.drop k) (n + T.sz.szL (ts.take k)) (some ⟨b, off + k * 5, none⟩) := by
  intro ts
  induction ts with
  | nil => intro n k b off _; rw [List.drop_nil]; exact PL_nil
  | cons t ts ih =>
    intro n k b off h
    cases k with
    | zero => simpa [T.szL_nil] using h
    | succ k =>
      obtain ⟨b', off', ta, tc, s, hb, hp, h0, h1, h2, h3, h4, hin, hpin, hl⟩ := PL_cons.1 h
      simp only [Option.some.injEq, Addr.mk.injEq] at hb
      obtain ⟨rfl, rfl, _⟩ := hb
      have h9 := ih (k := k) hl
      rw [List.drop_succ_cons, List.take_succ_cons, T.szL_cons, show off + (k + 1) * 5 = off + 5 + k * 5 by omega, show n + (t.sz + T.sz.szL (ts.take k)) = n + t.sz + T.sz.szL (ts.take k) by omega]
      exact h9

end Go.Proofs.YtbkedppkdhfpoabGreat

namespace Go.Proofs.YtbkedppkdhfpoabGreat
open Go.RowKit

/-- A table: its block, how many rows, how long; the parts that its numbers mean; the signature. -/
structure TB where
  K : Nat
  R : Nat
  C : Nat
  PS : List T
  PT : List T
  ar : List Int
structure TB.Ok (b : TB) : Prop where
  hR : b.R = b.PS.length
  hC : b.C = b.PT.length
  r1 : b.R ≤ 1000
  c1 : b.C ≤ 1000
def TB.q (b : TB) : Nat → Prop := fun k => k ≠ b.K
structure Tab (b : TB) (w : World) (M : Nat → Nat → Int) : Prop where
  ent : ∀ i j, i < b.R → j < b.C → w.cell? ⟨b.K, i * b.C + j, none⟩ = some (.int .i8 (M i j))
  fr : ∀ k, w.frozen? ⟨b.K, k, none⟩ = false
  lt : b.K < w.heap.size

theorem idx_inj {C i j i' j' : Nat} (hj : j < C) (hj' : j' < C) (h : i * C + j = i' * C + j') : i = i' ∧ j = j' := by
  have hC : 0 < C := by omega
  have e1 : (i * C + j) / C = i := by rw [Nat.mul_comm, Nat.mul_add_div hC, Nat.div_eq_of_lt hj]; omega
  have e2 : (i' * C + j') / C = i' := by rw [Nat.mul_comm, Nat.mul_add_div hC, Nat.div_eq_of_lt hj']; omega
  have e3 : i = i' := by rw [← e1, h, e2]
  subst e3
  exact ⟨rfl, by omega⟩
theorem idx_lt {R C i j : Nat} (hi : i < R) (hj : j < C) : i * C + j < R * C := by
  have h : (i + 1) * C ≤ R * C := Nat.mul_le_mul_right C hi
  rw [Nat.add_mul] at h
  omega

theorem Tab.same {b : TB} {w w' : World} {M : Nat → Nat → Int} (h : Tab b w M) (hz : w.heap.size ≤ w'.heap.size) (hK : w'.heap[b.K]? = w.heap[b.K]?) : Tab b w' M :=
  ⟨fun i j hi hj => by rw [World.cell?_of_block (w := w) (a := ⟨b.K, i * b.C + j, none⟩) hK]; exact h.ent i j hi hj,
   fun k => by rw [World.frozen?_of_block (w := w) (a := ⟨b.K, k, none⟩) hK]; exact h.fr k, Nat.lt_of_lt_of_le h.lt hz⟩
theorem Tab.below {b : TB} {w w' : World} {M : Nat → Nat → Int} (h : Tab b w M) (hb : Below w.heap.size w w') : Tab b w' M := h.same hb.size (hb.block _ h.lt)
/-- An entry written. -/
theorem Tab.set {b : TB} {w : World} {M : Nat → Nat → Int} (h : Tab b w M) {i j : Nat} (hi : i < b.R) (hj : j < b.C) (x : Int) : Tab b (w.setCell ⟨b.K, i * b.C + j, none⟩ (.int .i8 x)) (fun i' j' => if i' = i ∧ j' = j then x else M i' j') := by
  have hs : (w.setCell ⟨b.K, i * b.C + j, none⟩ (.int .i8 x)).heap.size = w.heap.size := by simp [World.setCell]
  refine ⟨fun i' j' hi' hj' => ?_, fun k => ?_, by rw [hs]; exact h.lt⟩
  · by_cases e : i' = i ∧ j' = j
    · obtain ⟨rfl, rfl⟩ := e
      rw [World.cell?_setCell_same _ _ _ (h.ent i' j' hi hj), if_pos ⟨rfl, rfl⟩]
    · rw [World.cell?_setCell_other _ _ _ _ (fun e3 => e (by
        have h4 : i * b.C + j = i' * b.C + j' := by injection e3
        have := idx_inj hj hj' h4
        exact ⟨this.1.symm, this.2.symm⟩)), if_neg e]
      exact h.ent _ _ hi' hj'
  · rw [World.frozen?_setCell]; exact h.fr k

/-- Nothing but the table has changed, and what is new. -/
structure KT (b : TB) (w w' : World) : Prop where
  os : w'.os = w.os
  tape : w'.tape = w.tape
  output : w'.output = w.output
  size : w.heap.size ≤ w'.heap.size
  block : ∀ k, k < w.heap.size → k ≠ b.K → w'.heap[k]? = w.heap[k]?
theorem KT.refl (b : TB) (w : World) : KT b w w := ⟨rfl, rfl, rfl, Nat.le_refl _, fun _ _ _ => rfl⟩
theorem KT.trans {b : TB} {w w' w'' : World} (h : KT b w w') (k : KT b w' w'') : KT b w w'' :=
  ⟨k.os.trans h.os, k.tape.trans h.tape, k.output.trans h.output, Nat.le_trans h.size k.size, fun x hx hr => by rw [k.block x (Nat.lt_of_lt_of_le hx h.size) hr, h.block x hx hr]⟩
theorem KT.of_below {b : TB} {w w' : World} (h : Below w.heap.size w w') : KT b w w' := ⟨h.os, h.tape, h.output, h.size, fun k hk _ => h.block k hk⟩
theorem KT.set {b : TB} {w w' : World} (h : KT b w w') (j : Nat) (v : Value) : KT b w (w'.setCell ⟨b.K, j, none⟩ v) :=
  h.trans ⟨rfl, rfl, rfl, by simp [World.setCell], fun k _ hk => Below.heap_setCell _ _ _ _ hk⟩
theorem InP_kt {b : TB} {w w' : World} {ts : List T} {a : Option Addr} (h : KT b w w') (hi : InP b.q w ts a) : InP b.q w' ts a := InP_same (fun k hk hlt => h.block k hlt hk) hi
theorem PL_kt {b : TB} {w w' : World} {ts : List T} {n : Nat} {a : Option Addr} (h : KT b w w') (hi : PL b.q b.q w ts n a) : PL b.q b.q w' ts n a := PL_same (fun k hk hlt => h.block k hlt (hk.elim id id)) hi

/-- As far as size n, each entry is unasked or right. -/
def Corr (b : TB) (M : Nat → Nat → Int) (n : Nat) : Prop := ∀ i j s t, b.PS[i]? = some s → b.PT[j]? = some t → s.sz + t.sz ≤ n → M i j = 0 ∨ M i j = cmpS s t
/-- What is right as far as n stays so, and beyond it nothing changes. -/
def Step (b : TB) (n : Nat) (w w' : World) : Prop := ∀ M, Tab b w M → Corr b M n → ∃ M', Tab b w' M' ∧ Corr b M' n ∧ ∀ i j s t, b.PS[i]? = some s → b.PT[j]? = some t → n < s.sz + t.sz → M' i j = M i j
theorem Corr.mono {b : TB} {M : Nat → Nat → Int} {m n : Nat} (h : Corr b M n) (hm : m ≤ n) : Corr b M m := fun i j s t hi hj hs => h i j s t hi hj (Nat.le_trans hs hm)
theorem Step.refl (b : TB) (n : Nat) (w : World) : Step b n w w := fun M h1 h2 => ⟨M, h1, h2, fun _ _ _ _ _ _ _ => rfl⟩
theorem Step.trans {b : TB} {n : Nat} {w w' w'' : World} (h : Step b n w w') (k : Step b n w' w'') : Step b n w w'' := fun M h1 h2 => by
  obtain ⟨M', g1, g2, g3⟩ := h M h1 h2
  obtain ⟨M'', k1, k2, k3⟩ := k M' g1 g2
  exact ⟨M'', k1, k2, fun i j s t hi hj hs => (k3 i j s t hi hj hs).trans (g3 i j s t hi hj hs)⟩
theorem Step.mono {b : TB} {m n : Nat} {w w' : World} (h : Step b m w w') (hm : m ≤ n) : Step b n w w' := fun M h1 h2 => by
  obtain ⟨M', g1, g2, g3⟩ := h M h1 (h2.mono hm)
  refine ⟨M', g1, fun i j s t hi hj hs => ?_, fun i j s t hi hj hs => g3 i j s t hi hj (by omega)⟩
  rcases Nat.lt_or_ge m (s.sz + t.sz) with h3 | h3
  · rw [g3 i j s t hi hj h3]; exact h2 i j s t hi hj hs
  · exact g2 i j s t hi hj h3
theorem Step.of_below {b : TB} {n : Nat} {w w' : World} (h : Below w.heap.size w w') : Step b n w w' := fun M h1 h2 => ⟨M, h1.below h, h2, fun _ _ _ _ _ _ _ => rfl⟩

/-- The table is there, and right as far as n. -/
def TabOK (b : TB) (n : Nat) (w : World) : Prop := ∃ M, Tab b w M ∧ Corr b M n
/-- Both: what has changed, and that the table is right. -/
structure GS (b : TB) (n : Nat) (w w' : World) : Prop where
  kt : KT b w w'
  st : Step b n w w'
theorem GS.refl (b : TB) (n : Nat) (w : World) : GS b n w w := ⟨KT.refl _ _, Step.refl _ _ _⟩
theorem GS.trans {b : TB} {n : Nat} {w w' w'' : World} (h : GS b n w w') (k : GS b n w' w'') : GS b n w w'' := ⟨h.kt.trans k.kt, h.st.trans k.st⟩
theorem GS.of_below {b : TB} {n : Nat} {w w' : World} (h : Below w.heap.size w w') : GS b n w w' := ⟨KT.of_below h, Step.of_below h⟩
theorem GS.mono {b : TB} {m n : Nat} {w w' : World} (h : GS b m w w') (hm : m ≤ n) : GS b n w w' := ⟨h.kt, h.st.mono hm⟩
theorem TabOK.gs {b : TB} {n : Nat} {w w' : World} (h : TabOK b n w) (hg : GS b n w w') : TabOK b n w' := by
  obtain ⟨M, h1, h2⟩ := h
  obtain ⟨M', g1, g2, _⟩ := hg.st M h1 h2
  exact ⟨M', g1, g2⟩
theorem TabOK.mono {b : TB} {m n : Nat} {w : World} (h : TabOK b n w) (hm : m ≤ n) : TabOK b m w := by
  obtain ⟨M, h1, h2⟩ := h
  exact ⟨M, h1, h2.mono hm⟩

theorem any_step {f : T → Bool} {ts : List T} {k : Nat} {t : T} (ht : ts[k]? = some t) (h : (ts.take k).any f = false) : (f t = false → (ts.take (k + 1)).any f = false) ∧ (f t = true → ts.any f = true) := by
  constructor
  · intro h2
    rw [List.take_add_one, ht, List.any_append, h]
    simp [h2]
  · intro h2
    exact List.any_eq_true.2 ⟨t, List.mem_of_getElem? ht, h2⟩

set_option maxRecDepth 100000 in
set_option maxHeartbeats 400000 in
theorem partIdx_any (b : TB) (n : Nat) (L : List T) (Kf : Nat) (caps : Array Value) (f : T → Bool) (Inv : World → Prop) (eg : ∀ args w, (callFunc Kf args).run Tryz.prog w = .ok (.enter Kf args) w) (hinv : ∀ w w', GS b n w w' → Inv w → Inv w') (ts : List T)
    (hc : ∀ w x m ta tc pa pc, Inv w → x ∈ ts → x.args.length ≤ pc → L[m]? = some x → Subs L (m + 1) x.args → InP b.q w x.args ta → PL b.q b.q w x.args (m + 1) pa →
      Calls Tryz.prog Kf (#[.agg #[.int .i64 x.v, .int .i64 x.f, .slice ta x.args.length tc, .int .i64 (m : Int), .slice pa x.args.length pc]] ++ caps) w fun e w' => e = .returned (.bool (f x)) ∧ GS b n w w')
    (m0 : Nat) (a : Option Addr) (cap : Nat) (w : World) (h1000 : ts.length ≤ 1000) (hin : PL b.q b.q w ts m0 a) (hsub : Subs L m0 ts) (hi : Inv w) :
    Calls Tryz.prog 319 #[.slice a ts.length cap, .func (.func Kf) #[] caps] w fun e w' => ∃ r : Int, e = .returned (.int .i64 r) ∧ decide (0 ≤ r) = ts.any f ∧ GS b n w w' := by
  have Hc := hide hc
  have Hinv := hide hinv
  clear hc hinv
  go_enter Tryz.func319, Tryz.ntmps319
  go_wp2_with fail
  go_loopw [8] (fun i wr => ∃ k : Nat, k ≤ ts.length ∧ i = .int .i64 k ∧ Hid ((ts.take k).any f = false) ∧ GS b n w wr) (fun i _ => ts.length - (intOf i).toNat)
  case atStart => exact ⟨0, Nat.zero_le _, rfl, rfl, GS.refl _ _ _⟩
  case round =>
    obtain ⟨k, hk, rfl, HL, hg⟩ := hrel
    by_cases hlt : k < ts.length
    · obtain ⟨b1, off, rfl⟩ := PL_some hin (by omega)
      obtain ⟨y, hy⟩ : ∃ y, ts[k]? = some y := ⟨ts[k], List.getElem?_eq_getElem hlt⟩
      obtain ⟨ta, tc, pa, pc, _, k0, k1, k2, k3, k4, hpcy, hiny, hply⟩ := PL_at (PL_kt hg.kt hin) hy
      obtain ⟨s1, s2, _⟩ := hsub.at hy
      obtain ⟨m, hm⟩ : ∃ m, m = m0 + T.sz.szL (ts.take k) := ⟨_, rfl⟩
      rw [← hm] at k3 hply s1 s2
      have Hst := hide (any_step hy HL.out)
      have hk3 : k ≤ 1000 := by omega
      have hkI : (k : Int) < ts.length := by omega
      have hk0 : (0 : Int) ≤ k := by omega
      have HC := hide (Hc.out wr y m ta tc pa pc (Hinv.out _ _ hg hi) (List.mem_of_getElem? hy) hpcy s1 s2 hiny hply)
      have Hg := hide hg
      clear hy hiny hply hg s1 s2 hm hpcy
      go_wp2_with fail
      refine HC.out.mono ?_
      rintro e w3 ⟨rfl, hg3⟩
      have Hg3 := hide (Hg.out.trans hg3)
      clear hg3
      rcases Bool.eq_false_or_eq_true (f y) with hxy | hxy
      · have Hfin2 := hide (Hst.out.2 hxy)
        rw [hxy]
        clear Hst hxy
        go_wp2_with fail
        go_ret
        exact ⟨k, rfl, by rw [Hfin2.out]; exact decide_eq_true (by omega), Hg3.out⟩
      · have Hgo := hide (Hst.out.1 hxy)
        rw [hxy]
        clear Hst hxy
        go_wp2_with fail
        go_roundw
        case rel => exact ⟨k + 1, by omega, by go_num, Hgo.out, Hg3.out⟩
        case measure => simp [intOf]; omega
    · have hk2 : k = ts.length := by omega
      subst hk2
      have Hfin2 : Hid (ts.any f = false) := by
        have h5 := HL.out
        rw [List.take_length] at h5
        exact h5
      go_wp2_with fail
      go_ret
      exact ⟨-1, rfl, by rw [Hfin2.out]; rfl, hg⟩

set_option maxRecDepth 100000 in
set_option maxHeartbeats 400000 in
theorem partHas_any (b : TB) (n : Nat) (L : List T) (Kf : Nat) (caps : Array Value) (f : T → Bool) (Inv : World → Prop) (eg : ∀ args w, (callFunc Kf args).run Tryz.prog w = .ok (.enter Kf args) w) (hinv : ∀ w w', GS b n w w' → Inv w → Inv w') (ts : List T)
    (hc : ∀ w x m ta tc pa pc, Inv w → x ∈ ts → x.args.length ≤ pc → L[m]? = some x → Subs L (m + 1) x.args → InP b.q w x.args ta → PL b.q b.q w x.args (m + 1) pa →
      Calls Tryz.prog Kf (#[.agg #[.int .i64 x.v, .int .i64 x.f, .slice ta x.args.length tc, .int .i64 (m : Int), .slice pa x.args.length pc]] ++ caps) w fun e w' => e = .returned (.bool (f x)) ∧ GS b n w w')
    (m0 : Nat) (a : Option Addr) (cap : Nat) (w : World) (h1000 : ts.length ≤ 1000) (hin : PL b.q b.q w ts m0 a) (hsub : Subs L m0 ts) (hi : Inv w) :
    Calls Tryz.prog 316 #[.slice a ts.length cap, .func (.func Kf) #[] caps] w fun e w' => e = .returned (.bool (ts.any f)) ∧ GS b n w w' := by
  have H := hide (partIdx_any b n L Kf caps f Inv eg hinv ts hc m0 a cap w h1000 hin hsub hi)
  clear hc hinv
  go_enter Tryz.func316, Tryz.ntmps316
  go_wp2_with fail
  refine H.out.mono ?_
  rintro e w1 ⟨r, rfl, hr, hb1⟩
  have Hr := hide hr
  have Hb := hide hb1
  clear hr hb1
  go_wp2_with fail
  go_ret
  exact ⟨ret_bool Hr.out, Hb.out⟩

end Go.Proofs.YtbkedppkdhfpoabGreat
