/- Steps and what no rule matches any more, as plain data: the first place by the program is the first of all places by the document; what comes is right. No word of the program's memory here. Each step makes a lesser term, and what is normal stays as it is: as plain data. No word of the program's memory here. The statement's own look at a term and an error; what At and Put answer, case by case. The walk of the statement on Apply, over what must be in any case. -/
import Derived.Test.YtbkedppkdhfpoaaJoined19
namespace Go.Proofs.Ytbkedppkdhfpoaa

/-- What is bound by matching is a part of the term, or was bound ahead. -/
theorem grow_in {P : T → Prop} (hP : ∀ t, P t → ∀ c, c ∈ t.args → P c) : ∀ (n : Nat), (∀ (p t : T) (bs b2 : List (Int × T)), p.sz ≤ n → P t → growT p t bs = some b2 → (∀ x, x ∈ bs → P x.2) → ∀ x, x ∈ b2 → P x.2) ∧
    (∀ (ps ts : List T) (bs b2 : List (Int × T)), T.sz.szL ps ≤ n → (∀ c, c ∈ ts → P c) → growT.growL ps ts bs = some b2 → (∀ x, x ∈ bs → P x.2) → ∀ x, x ∈ b2 → P x.2) := by
  intro n
  induction n with
  | zero =>
    refine ⟨fun p t bs b2 h => by have := p.sz_pos; omega, fun ps ts bs b2 h _ hg hk => ?_⟩
    cases ps with
    | nil =>
      cases ts with
      | nil => simp [growT.growL] at hg; rw [← hg]; exact hk
      | cons t ts => cases hg
    | cons p ps => have := p.sz_pos; rw [T.szL_cons] at h; omega
  | succ n ih =>
    have h1 : ∀ (p t : T) (bs b2 : List (Int × T)), p.sz ≤ n + 1 → P t → growT p t bs = some b2 → (∀ x, x ∈ bs → P x.2) → ∀ x, x ∈ b2 → P x.2 := by
      intro p t bs b2 h ht hg hk
      have hpe := T.sz_eq p
      rw [growT_eq] at hg
      by_cases hv : p.v ≠ 0
      · rw [if_pos hv] at hg
        cases hl : lookB bs p.v with
        | some u =>
          rw [hl] at hg
          by_cases hs : sameT u t = true
          · simp only [hs, if_true, Option.some.injEq] at hg
            rw [← hg]; exact hk
          · simp only [hs] at hg; cases hg
        | none =>
          rw [hl] at hg
          simp only [Option.some.injEq] at hg
          rw [← hg]
          intro x hx
          rcases List.mem_append.1 hx with hx | hx
          · exact hk x hx
          · rw [List.mem_singleton] at hx; rw [hx]; exact ht
      · rw [if_neg hv] at hg
        by_cases h2 : t.v ≠ 0 ∨ p.f ≠ t.f
        · rw [if_pos h2] at hg; cases hg
        · rw [if_neg h2] at hg
          exact ih.2 p.args t.args bs b2 (by omega) (hP t ht) hg hk
    refine ⟨h1, ?_⟩
    intro ps
    induction ps with
    | nil =>
      intro ts bs b2 _ _ hg hk
      cases ts with
      | nil => simp [growT.growL] at hg; rw [← hg]; exact hk
      | cons t ts => cases hg
    | cons p ps ihp =>
      intro ts bs b2 h hts hg hk
      rw [T.szL_cons] at h
      cases ts with
      | nil => cases hg
      | cons t ts =>
        rw [growL_cons] at hg
        cases hb : growT p t bs with
        | none => rw [hb] at hg; cases hg
        | some b1 =>
          rw [hb] at hg
          have hk1 := h1 p t bs b1 (by omega) (hts t (by simp)) hb hk
          exact ihp ts b1 b2 (by omega) (fun c hc => hts c (by simp [hc])) hg hk1

theorem lookB_pairs {f : Int → T} (ks : List Int) (v : Int) : lookB (ks.map (fun k => (k, f k))) v = if v ∈ ks then some (f v) else none := by
  induction ks with
  | nil => simp [lookB]
  | cons k ks ih =>
    rw [List.map_cons, lookB, ih]
    by_cases h : k = v
    · subst h; simp
    · rw [if_neg h]
      have : (v ∈ k :: ks) ↔ v ∈ ks := by
        rw [List.mem_cons]
        exact ⟨fun e => e.resolve_left (fun e => h e.symm), Or.inr⟩
      simp only [this]
theorem lookB_sortB (bs : List (Int × T)) (v : Int) : lookB (sortB bs) v = lookB bs v := by
  rw [sortB, lookB_pairs, keysB]
  simp only [List.mem_mergeSort]
  cases h : lookB bs v with
  | none =>
    rw [if_neg]
    intro e
    rw [lookB_isSome, h] at e
    cases e
  | some u =>
    rw [if_pos (lookB_isSome.2 (by rw [h]; rfl))]; rfl
theorem putIn_sortB (bs : List (Int × T)) (v : Int) : putIn (sortB bs) v = putIn bs v := by rw [putIn, putIn, lookB_sortB]
theorem applyT_sortB_aux (bs : List (Int × T)) : ∀ (n : Nat) (t : T), t.sz ≤ n → applyT (sortB bs) t = applyT bs t := by
  intro n
  induction n with
  | zero => intro t h; have := t.sz_pos; omega
  | succ n ih =>
    intro t h
    have hte := T.sz_eq t
    cases hp : putIn bs t.v with
    | some u => rw [applyT_some hp, applyT_some ((putIn_sortB bs t.v).trans hp)]
    | none =>
      rw [applyT_none hp, applyT_none ((putIn_sortB bs t.v).trans hp)]
      have : t.args.map (applyT (sortB bs)) = t.args.map (applyT bs) := List.map_congr_left (fun c hc => ih c (by have := T.szL_mem hc; omega))
      rw [this]
theorem applyT_sortB (bs : List (Int × T)) (t : T) : applyT (sortB bs) t = applyT bs t := applyT_sortB_aux bs _ t (Nat.le_refl _)

theorem bindErr_of {ar : List Int} : ∀ {bs : List (Int × T)} {last : Int}, bs.Pairwise (fun x y => x.1 < y.1) → (∀ x, x ∈ bs → 1 ≤ x.1 ∧ x.1 ≤ 1000 ∧ last < x.1 ∧ termErr ar x.2 = 0) → bindErr ar last bs = 0 := by
  intro bs
  induction bs with
  | nil => intro last _ _; rfl
  | cons x bs ih =>
    intro last hp h
    have hx := h x (by simp)
    rw [bindErr, if_neg (by omega), if_neg (by omega), if_pos hx.2.2.2]
    rw [List.pairwise_cons] at hp
    refine ih hp.2 (fun y hy => ?_)
    have hy2 := h y (by simp [hy])
    exact ⟨hy2.1, hy2.2.1, hp.1 y hy, hy2.2.2.2⟩
theorem sortB_rise {bs : List (Int × T)} (h : Once bs) : (sortB bs).Pairwise (fun x y => x.1 < y.1) := by
  have h1 : (keysB bs).Pairwise (fun x y => x ≤ y) := by
    have h2 := List.pairwise_mergeSort (le := fun x y : Int => decide (x ≤ y)) (fun a b c h1 h2 => by simp at *; omega) (fun a b => by simp; omega) (bs.map (·.1))
    exact List.Pairwise.imp (fun h => by simpa using h) h2
  have h3 : (keysB bs).Nodup := by rw [keysB]; exact (List.mergeSort_perm _ _).nodup_iff.2 (once_nodup h)
  have h4 : (keysB bs).Pairwise (fun x y => x < y) := (h1.and h3).imp (fun h => by have := h.1; have := h.2; omega)
  rw [sortB, List.pairwise_map]
  exact h4
theorem sortB_mem {bs : List (Int × T)} {x : Int × T} (h : x ∈ sortB bs) : x ∈ bs := by
  rw [sortB, List.mem_map] at h
  obtain ⟨v, hv, rfl⟩ := h
  rw [keysB, List.mem_mergeSort] at hv
  obtain ⟨u, hu⟩ := Option.isSome_iff_exists.1 (lookB_isSome.1 hv)
  rw [hu]
  exact lookB_mem hu
/-- What is bound by matching a term that is right by a pattern that is. -/
theorem grow_binds {ar : List Int} {p t : T} {bs : List (Int × T)} (hp : okP ar p) (ht : t.sz ≤ 120 ∧ okP ar t) (h : growT p t [] = some bs) : (∀ x, x ∈ bs → x.2.sz ≤ 120 ∧ okP ar x.2) ∧ bindErr ar 0 (sortB bs) = 0 := by
  have h1 : ∀ x, x ∈ bs → x.2.sz ≤ 120 ∧ okP ar x.2 := (grow_in (P := fun t => t.sz ≤ 120 ∧ okP ar t) (fun t ht c hc => ⟨by have := T.szL_mem hc; have := T.sz_eq t; omega, okL_mem.1 (okP_iff.1 ht.2).2 c hc⟩) p.sz).1 p t [] bs (Nat.le_refl _) ht h (fun x hx => by cases hx)
  have h2 := (grow_keeps (ar := ar) p.sz).1 p t [] bs (Nat.le_refl _) hp h ⟨fun i j x y hx => by simp at hx, fun x hx => by cases hx⟩
  exact ⟨h1, bindErr_of (sortB_rise h2.1) (fun x hx => by
    have hm := sortB_mem hx
    have h3 := h2.2 x hm
    exact ⟨h3.1, h3.2, by omega, termErr_iff.2 (h1 x hm)⟩)⟩

/-- The places of a term, each behind those that stand in it. -/
def placesT : T → List (List Int)
  | ⟨_, _, args⟩ => placesL args 0 ++ [[]]
  where
  placesL : List T → Nat → List (List Int)
    | [], _ => []
    | a :: l, i => (placesT a).map (fun p => (i : Int) :: p) ++ placesL l (i + 1)
theorem placesT_eq (t : T) : placesT t = placesT.placesL t.args 0 ++ [[]] := by cases t; rw [placesT]
theorem placesL_append (a b : List T) : ∀ i, placesT.placesL (a ++ b) i = placesT.placesL a i ++ placesT.placesL b (i + a.length) := by
  induction a with
  | nil => intro i; simp [placesT.placesL]
  | cons t a ih =>
    intro i
    rw [List.cons_append, placesT.placesL, placesT.placesL, ih, List.append_assoc, List.length_cons, show i + (a.length + 1) = i + 1 + a.length by omega]
theorem placesL_step {ts : List T} {k : Nat} {x : T} (hx : ts[k]? = some x) : placesT.placesL (ts.take (k + 1)) 0 = placesT.placesL (ts.take k) 0 ++ (placesT x).map (fun p => (k : Int) :: p) := by
  have hlt := (List.getElem?_eq_some_iff.1 hx).1
  rw [List.take_add_one, hx, placesL_append, List.length_take, show min k ts.length = k by omega, Nat.zero_add]
  show _ ++ placesT.placesL [x] k = _
  rw [placesT.placesL, placesT.placesL, List.append_nil]
theorem places_sz : ∀ (n : Nat), (∀ t : T, t.sz ≤ n → (placesT t).length = t.sz ∧ ∀ p, p ∈ placesT t → p.length < t.sz) ∧ (∀ (ts : List T) (i : Nat), T.sz.szL ts ≤ n → (placesT.placesL ts i).length = T.sz.szL ts ∧ ∀ p, p ∈ placesT.placesL ts i → p.length ≤ T.sz.szL ts) := by
  intro n
  induction n with
  | zero =>
    refine ⟨fun t h => by have := t.sz_pos; omega, fun ts i h => ?_⟩
    cases ts with
    | nil => exact ⟨rfl, fun p hp => by cases hp⟩
    | cons t ts => have := t.sz_pos; rw [T.szL_cons] at h; omega
  | succ n ih =>
    have h1 : ∀ t : T, t.sz ≤ n + 1 → (placesT t).length = t.sz ∧ ∀ p, p ∈ placesT t → p.length < t.sz := by
      intro t h
      have hte := T.sz_eq t
      have h2 := ih.2 t.args 0 (by omega)
      rw [placesT_eq]
      refine ⟨by rw [List.length_append, h2.1, List.length_singleton]; omega, fun p hp => ?_⟩
      rcases List.mem_append.1 hp with hp | hp
      · have := h2.2 p hp; omega
      · rw [List.mem_singleton] at hp; rw [hp, List.length_nil]; omega
    refine ⟨h1, ?_⟩
    intro ts
    induction ts with
    | nil => intro i _; exact ⟨rfl, fun p hp => by cases hp⟩
    | cons t ts iht =>
      intro i h
      rw [T.szL_cons] at h ⊢
      have h2 := h1 t (by omega)
      have h3 := iht (i + 1) (by omega)
      rw [placesT.placesL]
      refine ⟨by rw [List.length_append, List.length_map, h2.1, h3.1], fun p hp => ?_⟩
      rcases List.mem_append.1 hp with hp | hp
      · obtain ⟨q, hq, rfl⟩ := List.mem_map.1 hp
        have := h2.2 q hq
        rw [List.length_cons]; omega
      · have := h3.2 p hp; omega

/-- The first of some places at which a rule matches. -/
def firstP (rs : List (T × T)) (t : T) : List (List Int) → Option (List Int × T × List (Int × T))
  | [] => none
  | p :: ps => match (atT t p).bind (hitR rs) with
    | some h => some (p, h)
    | none => firstP rs t ps
theorem firstP_append (rs : List (T × T)) (t : T) (a b : List (List Int)) : firstP rs t (a ++ b) = match firstP rs t a with
    | some r => some r
    | none => firstP rs t b := by
  induction a with
  | nil => rfl
  | cons p a ih =>
    rw [List.cons_append, firstP, firstP, ih]
    cases (atT t p).bind (hitR rs) <;> rfl
theorem firstP_down {rs : List (T × T)} {t x : T} {k : Nat} (hx : t.args[k]? = some x) (ps : List (List Int)) : firstP rs t (ps.map (fun p => (k : Int) :: p)) = (firstP rs x ps).map (fun r => ((k : Int) :: r.1, r.2)) := by
  have hlt := (List.getElem?_eq_some_iff.1 hx).1
  induction ps with
  | nil => rfl
  | cons p ps ih =>
    have e : atT t ((k : Int) :: p) = atT x p := by rw [atT, if_pos (by omega), Int.toNat_natCast, hx]; rfl
    rw [List.map_cons, firstP, firstP, e, ih]
    cases (atT x p).bind (hitR rs) <;> rfl
theorem findR_firstP {rs : List (T × T)} : ∀ (n : Nat) (t : T), t.sz ≤ n → findR rs t = firstP rs t (placesT t) := by
  intro n
  induction n with
  | zero => intro t h; have := t.sz_pos; omega
  | succ n ih =>
    intro t hn
    have hte := T.sz_eq t
    have hL : ∀ (d k : Nat), d = t.args.length - k → k ≤ t.args.length → findR.findL rs (t.args.drop k) k = firstP rs t (placesT.placesL (t.args.drop k) k) := by
      intro d
      induction d with
      | zero =>
        intro k hd hk
        have hk2 : k = t.args.length := by omega
        subst hk2
        rw [List.drop_length]; rfl
      | succ d ihd =>
        intro k hd hk
        obtain ⟨x, hx⟩ : ∃ x, t.args[k]? = some x := ⟨t.args[k]'(by omega), List.getElem?_eq_getElem (by omega)⟩
        have hxs := T.szL_mem (List.mem_of_getElem? hx)
        have hlt := (List.getElem?_eq_some_iff.1 hx).1
        have e : t.args.drop k = x :: t.args.drop (k + 1) := by
          rw [List.getElem?_eq_getElem hlt] at hx
          simp at hx
          rw [← hx, List.getElem_cons_drop]
        rw [findL_drop hx, e, placesT.placesL, firstP_append, firstP_down hx, ← ih x (by omega), ihd (k + 1) (by omega) (by omega)]
        cases findR rs x <;> rfl
    have h0 := hL _ 0 rfl (Nat.zero_le _)
    rw [List.drop_zero] at h0
    rw [findR_eq, h0, placesT_eq, firstP_append]
    cases firstP rs t (placesT.placesL t.args 0) with
    | some r => rfl
    | none =>
      show Option.map _ _ = firstP rs t [[]]
      rw [firstP, atT]
      show _ = match hitR rs t with | some h => some ([], h) | none => firstP rs t []
      cases hitR rs t <;> rfl
theorem firstP_drop {rs : List (T × T)} {t : T} {ps : List (List Int)} {i : Nat} {p : List Int} (hp : ps[i]? = some p) : firstP rs t (ps.drop i) = match (atT t p).bind (hitR rs) with
    | some h => some (p, h)
    | none => firstP rs t (ps.drop (i + 1)) := by
  have hlt := (List.getElem?_eq_some_iff.1 hp).1
  have e : ps.drop i = p :: ps.drop (i + 1) := by
    rw [List.getElem?_eq_getElem hlt] at hp
    simp at hp
    rw [← hp, List.getElem_cons_drop]
  rw [e, firstP]
/-- Each of the places is there. -/
theorem places_at : ∀ (n : Nat) (t : T), t.sz ≤ n → ∀ p, p ∈ placesT t → ∃ u, atT t p = some u := by
  intro n
  induction n with
  | zero => intro t h; have := t.sz_pos; omega
  | succ n ih =>
    intro t hn p hp
    have hte := T.sz_eq t
    have hL : ∀ (d k : Nat), d = t.args.length - k → k ≤ t.args.length → p ∈ placesT.placesL (t.args.drop k) k → ∃ u, atT t p = some u := by
      intro d
      induction d with
      | zero =>
        intro k hd hk h
        have hk2 : k = t.args.length := by omega
        subst hk2
        rw [List.drop_length] at h; cases h
      | succ d ihd =>
        intro k hd hk h
        obtain ⟨x, hx⟩ : ∃ x, t.args[k]? = some x := ⟨t.args[k]'(by omega), List.getElem?_eq_getElem (by omega)⟩
        have hxs := T.szL_mem (List.mem_of_getElem? hx)
        have hlt := (List.getElem?_eq_some_iff.1 hx).1
        have e : t.args.drop k = x :: t.args.drop (k + 1) := by
          have hx' := hx
          rw [List.getElem?_eq_getElem hlt] at hx'
          simp at hx'
          rw [← hx', List.getElem_cons_drop]
        rw [e, placesT.placesL] at h
        rcases List.mem_append.1 h with h | h
        · obtain ⟨q, hq, rfl⟩ := List.mem_map.1 h
          obtain ⟨u, hu⟩ := ih x (by omega) q hq
          exact ⟨u, by rw [atT, if_pos (by omega), Int.toNat_natCast, hx]; exact hu⟩
        · exact ihd (k + 1) (by omega) (by omega) h
    rw [placesT_eq] at hp
    rcases List.mem_append.1 hp with hp | hp
    · exact hL _ 0 rfl (Nat.zero_le _) (by rw [List.drop_zero]; exact hp)
    · rw [List.mem_singleton] at hp; rw [hp]; exact ⟨t, by rw [atT]⟩

/-- What a rule makes of a term at a place. -/
def madeR (t : T) (p : List Int) (y : T) (bs : List (Int × T)) : T × Bool × Int :=
  if 120 < (applyT bs y).sz then (zeroT, false, 2) else if 120 < (putT (applyT bs y) t p).sz then (zeroT, false, 2) else (putT (applyT bs y) t p, true, 0)
/-- A step: what comes, whether a rule matched, and what is wrong. -/
def stepSpec (rs : List (T × T)) (t : T) : T × Bool × Int := match findR rs t with
  | some r => madeR t r.1 r.2.1 r.2.2
  | none => (t, false, 0)
theorem madeR_sort (t : T) (p : List Int) (y : T) (bs : List (Int × T)) : madeR t p y (sortB bs) = madeR t p y bs := by rw [madeR, madeR, applyT_sortB]
/-- The first rule that matches is one of them, and its bindings are those of matching. -/
theorem hitR_rule {rs : List (T × T)} {u y : T} {bs : List (Int × T)} (h : hitR rs u = some (y, bs)) : ∃ x b, x ∈ rs ∧ y = x.2 ∧ growT x.1 u [] = some b ∧ bs = sortB b := by
  induction rs with
  | nil => cases h
  | cons x rs ih =>
    rw [hitR] at h
    cases hg : growT x.1 u [] with
    | some b =>
      rw [hg] at h
      simp only [Option.some.injEq, Prod.mk.injEq] at h
      exact ⟨x, b, by simp, h.1.symm, hg, h.2.symm⟩
    | none =>
      rw [hg] at h
      obtain ⟨x', b, h1, h2⟩ := ih h
      exact ⟨x', b, by simp [h1], h2⟩
/-- Rules that are right. -/
def RulesOk (ar : List Int) (rs : List (T × T)) : Prop := ∀ x, x ∈ rs → (x.1.sz ≤ 120 ∧ okP ar x.1) ∧ (x.2.sz ≤ 120 ∧ okP ar x.2) ∧ gt x.1 x.2 = true
/-- What is found is right. -/
theorem find_ok {ar : List Int} {rs : List (T × T)} {t : T} (hr : RulesOk ar rs) (ht : t.sz ≤ 120 ∧ okP ar t) {p : List Int} {y : T} {bs : List (Int × T)} (h : findR rs t = some (p, y, bs)) :
    ∃ u, atT t p = some u ∧ p.length ≤ 120 ∧ (y.sz ≤ 120 ∧ okP ar y) ∧ bindErr ar 0 bs = 0 ∧ (∀ v x, (v, x) ∈ bs → okP ar x) ∧ okP ar (applyT bs y) := by
  obtain ⟨u, h1, h2, h3⟩ := findR_place t.sz t _ (Nat.le_refl _) h
  obtain ⟨x, b, hx, rfl, hg, rfl⟩ := hitR_rule h2
  have hu : u.sz ≤ 120 ∧ okP ar u := ⟨by have := atT_sz h1; omega, okP_at h1 ht.2⟩
  have hb := grow_binds (hr x hx).1.2 hu hg
  have hb2 : ∀ v z, (v, z) ∈ sortB b → okP ar z := fun v z hz => (hb.1 _ (sortB_mem hz)).2
  exact ⟨u, h1, by simp only at h3; omega, (hr x hx).2.1, hb.2, hb2, okP_apply hb2 (hr x hx).2.1.2⟩
theorem step_ok {ar : List Int} {rs : List (T × T)} {t : T} (hr : RulesOk ar rs) (ht : t.sz ≤ 120 ∧ okP ar t) (h : (stepSpec rs t).2.2 = 0) : (stepSpec rs t).1.sz ≤ 120 ∧ okP ar (stepSpec rs t).1 := by
  rw [stepSpec] at h ⊢
  cases hf : findR rs t with
  | none => exact ht
  | some r =>
    obtain ⟨p, y, bs⟩ := r
    rw [hf] at h
    obtain ⟨u, h1, _, _, _, _, h6⟩ := find_ok hr ht hf
    simp only [madeR] at h ⊢
    by_cases h7 : 120 < (applyT bs y).sz
    · rw [if_pos h7] at h; cases h
    · rw [if_neg h7] at h ⊢
      by_cases h8 : 120 < (putT (applyT bs y) t p).sz
      · rw [if_pos h8] at h; cases h
      · rw [if_neg h8]
        exact ⟨by simp only; omega, okP_put h6 h1 ht.2⟩
theorem step_bad {rs : List (T × T)} {t : T} (h : (stepSpec rs t).2.2 ≠ 0) : stepSpec rs t = (zeroT, false, 2) := by
  rw [stepSpec] at h ⊢
  cases hf : findR rs t with
  | none => rw [hf] at h; exact absurd rfl h
  | some r =>
    rw [hf] at h
    simp only [madeR] at h ⊢
    by_cases h7 : 120 < (applyT r.2.2 r.2.1).sz
    · rw [if_pos h7]
    · rw [if_neg h7] at h ⊢
      by_cases h8 : 120 < (putT (applyT r.2.2 r.2.1) t r.1).sz
      · rw [if_pos h8]
      · rw [if_neg h8] at h; exact absurd rfl h
theorem step_none {rs : List (T × T)} {t : T} (h : (stepSpec rs t).2.2 = 0) (h2 : (stepSpec rs t).2.1 = false) : stepSpec rs t = (t, false, 0) := by
  rw [stepSpec] at h h2 ⊢
  cases hf : findR rs t with
  | none => rfl
  | some r =>
    rw [hf] at h h2
    simp only [madeR] at h h2 ⊢
    by_cases h7 : 120 < (applyT r.2.2 r.2.1).sz
    · rw [if_pos h7] at h; cases h
    · rw [if_neg h7] at h h2
      by_cases h8 : 120 < (putT (applyT r.2.2 r.2.1) t r.1).sz
      · rw [if_pos h8] at h; cases h
      · rw [if_neg h8] at h2; cases h2
/-- Steps, k at most, n behind them: what comes, how many there were, and what is wrong. -/
def normF (rs : List (T × T)) : Nat → Nat → T → T × Nat × Int
  | 0, _, _ => (zeroT, 0, 2)
  | k + 1, n, t => if (stepSpec rs t).2.2 = 0 then (if (stepSpec rs t).2.1 = true then normF rs k (n + 1) (stepSpec rs t).1 else (t, n, 0)) else (zeroT, 0, 2)
def normSpec (rs : List (T × T)) (t : T) : T × Nat × Int := normF rs 301 0 t
theorem norm_sz {ar : List Int} {rs : List (T × T)} (hr : RulesOk ar rs) : ∀ (k n : Nat) (t : T), t.sz ≤ 120 ∧ okP ar t → ((normF rs k n t).1.sz ≤ 120) ∧ ((normF rs k n t).2.2 ≠ 0 → normF rs k n t = (zeroT, 0, 2)) ∧ (normF rs k n t).2.1 ≤ n + k := by
  intro k
  induction k with
  | zero => intro n t _; exact ⟨by show zeroT.sz ≤ 120; simp [zeroT, T.sz, T.sz.szL], fun _ => rfl, Nat.zero_le _⟩
  | succ k ih =>
    intro n t ht
    rw [normF]
    by_cases h : (stepSpec rs t).2.2 = 0
    · rw [if_pos h]
      by_cases h2 : (stepSpec rs t).2.1 = true
      · rw [if_pos h2]
        have h3 := ih (n + 1) _ (step_ok hr ht h)
        exact ⟨h3.1, h3.2.1, by omega⟩
      · rw [if_neg h2]; exact ⟨ht.1, fun h => absurd rfl h, by simp only; omega⟩
    · rw [if_neg h]; exact ⟨by show zeroT.sz ≤ 120; simp [zeroT, T.sz, T.sz.szL], fun _ => rfl, Nat.zero_le _⟩

end Go.Proofs.Ytbkedppkdhfpoaa

namespace Go.Proofs.Ytbkedppkdhfpoaa

/-- A lesser argument makes a lesser term. -/
theorem gt_set {ar : List Int} {s a b : T} {i : Nat} (hs : okP ar s) (hs2 : okP ar ⟨s.v, s.f, s.args.set i b⟩) (hi : s.args[i]? = some a) (hb : okP ar b) (h : gt a b = true) : gt s ⟨s.v, s.f, s.args.set i b⟩ = true := by
  have hlt := (List.getElem?_eq_some_iff.1 hi).1
  have ha := List.mem_of_getElem? hi
  have hv := v_of_arg hs ha
  refine (gt_iff hs hs2).2 ?_
  have hne : a ≠ b := fun e => by rw [e, gt_irr hb] at h; cases h
  refine Or.inr ⟨hv, hv, Int.le_refl _, fun c hc => ?_, Or.inr ⟨rfl, firstN_iff.2 ⟨i, a, b, hi, by simp [hlt], hne, h, fun j hj => ?_⟩⟩⟩
  · rcases List.mem_or_eq_of_mem_set hc with hc | hc
    · exact gt_arg hs hc
    · rw [hc]; exact gt_trans hs (okArg hs ha) hb (gt_arg hs ha) h
  · show s.args[j]? = (s.args.set i b)[j]?
    rw [List.getElem?_set_ne (by omega)]
/-- So it is at any place. -/
theorem gt_put {ar : List Int} {z : T} (hz : okP ar z) : ∀ {p : List Int} {t c : T}, okP ar t → atT t p = some c → gt c z = true → gt t (putT z t p) = true := by
  intro p
  induction p with
  | nil =>
    intro t c _ hat h
    rw [atT] at hat
    cases hat
    rw [putT]; exact h
  | cons i p ih =>
    intro t c ht hat h
    have hat0 := hat
    rw [atT] at hat
    by_cases hi : 0 ≤ i ∧ i < t.args.length
    · rw [if_pos hi] at hat
      obtain ⟨d, hd, hc⟩ := Option.bind_eq_some_iff.1 hat
      have hdo := okArg ht (List.mem_of_getElem? hd)
      rw [putT_at hd]
      have h2 := ih hdo hc h
      have h3 := okP_put hz hat0 ht
      rw [putT_at hd] at h3
      exact gt_set ht h3 hd (okP_put hz hc hdo) h2
    · rw [if_neg hi] at hat; cases hat

/-- Bindings that are there stay, while others come. -/
theorem grow_more : ∀ (n : Nat), (∀ (p t : T) (bs b2 : List (Int × T)), p.sz ≤ n → growT p t bs = some b2 → ∃ r, b2 = bs ++ r) ∧
    (∀ (ps ts : List T) (bs b2 : List (Int × T)), T.sz.szL ps ≤ n → growT.growL ps ts bs = some b2 → ∃ r, b2 = bs ++ r) := by
  intro n
  induction n with
  | zero =>
    refine ⟨fun p t bs b2 h => by have := p.sz_pos; omega, fun ps ts bs b2 h hg => ?_⟩
    cases ps with
    | nil =>
      cases ts with
      | nil => simp [growT.growL] at hg; exact ⟨[], by rw [hg, List.append_nil]⟩
      | cons t ts => cases hg
    | cons p ps => have := p.sz_pos; rw [T.szL_cons] at h; omega
  | succ n ih =>
    have h1 : ∀ (p t : T) (bs b2 : List (Int × T)), p.sz ≤ n + 1 → growT p t bs = some b2 → ∃ r, b2 = bs ++ r := by
      intro p t bs b2 h hg
      have hpe := T.sz_eq p
      rw [growT_eq] at hg
      by_cases hv : p.v ≠ 0
      · rw [if_pos hv] at hg
        cases hl : lookB bs p.v with
        | some u =>
          rw [hl] at hg
          by_cases hs : sameT u t = true
          · simp only [hs, if_true, Option.some.injEq] at hg
            exact ⟨[], by rw [hg, List.append_nil]⟩
          · simp only [hs] at hg; cases hg
        | none =>
          rw [hl] at hg
          simp only [Option.some.injEq] at hg
          exact ⟨_, hg.symm⟩
      · rw [if_neg hv] at hg
        by_cases h2 : t.v ≠ 0 ∨ p.f ≠ t.f
        · rw [if_pos h2] at hg; cases hg
        · rw [if_neg h2] at hg
          exact ih.2 p.args t.args bs b2 (by omega) hg
    refine ⟨h1, ?_⟩
    intro ps
    induction ps with
    | nil =>
      intro ts bs b2 _ hg
      cases ts with
      | nil => simp [growT.growL] at hg; exact ⟨[], by rw [hg, List.append_nil]⟩
      | cons t ts => cases hg
    | cons p ps ihp =>
      intro ts bs b2 h hg
      rw [T.szL_cons] at h
      cases ts with
      | nil => cases hg
      | cons t ts =>
        rw [growL_cons] at hg
        cases hb : growT p t bs with
        | none => rw [hb] at hg; cases hg
        | some b1 =>
          rw [hb] at hg
          obtain ⟨r1, rfl⟩ := h1 p t bs b1 (by omega) hb
          obtain ⟨r2, rfl⟩ := ihp ts _ b2 (by omega) hg
          exact ⟨r1 ++ r2, by rw [List.append_assoc]⟩
theorem lookB_append {bs r : List (Int × T)} {v : Int} {u : T} (h : lookB bs v = some u) : lookB (bs ++ r) v = some u := by
  induction bs with
  | nil => cases h
  | cons x bs ih =>
    obtain ⟨k, y⟩ := x
    rw [List.cons_append, lookB]
    rw [lookB] at h
    by_cases hk : k = v
    · rw [if_pos hk] at h ⊢; exact h
    · rw [if_neg hk] at h ⊢; exact ih h
theorem lookB_last {bs : List (Int × T)} {v : Int} {u : T} (h : lookB bs v = none) : lookB (bs ++ [(v, u)]) v = some u := by
  induction bs with
  | nil => simp [lookB]
  | cons x bs ih =>
    obtain ⟨k, y⟩ := x
    rw [List.cons_append, lookB]
    rw [lookB] at h
    by_cases hk : k = v
    · rw [if_pos hk] at h; cases h
    · rw [if_neg hk] at h ⊢; exact ih h
/-- What is matched, applied, is the other one, by whatever more is bound. -/
theorem grow_apply {ar : List Int} : ∀ (n : Nat), (∀ (p t : T) (bs b2 r : List (Int × T)), p.sz ≤ n → okP ar p → okP ar t → growT p t bs = some b2 → applyT (b2 ++ r) p = t) ∧
    (∀ (ps ts : List T) (bs b2 r : List (Int × T)), T.sz.szL ps ≤ n → okP.okL ar ps → okP.okL ar ts → growT.growL ps ts bs = some b2 → ps.map (applyT (b2 ++ r)) = ts) := by
  intro n
  induction n with
  | zero =>
    refine ⟨fun p t bs b2 r h => by have := p.sz_pos; omega, fun ps ts bs b2 r h _ _ hg => ?_⟩
    cases ps with
    | nil =>
      cases ts with
      | nil => rfl
      | cons t ts => cases hg
    | cons p ps => have := p.sz_pos; rw [T.szL_cons] at h; omega
  | succ n ih =>
    have h1 : ∀ (p t : T) (bs b2 r : List (Int × T)), p.sz ≤ n + 1 → okP ar p → okP ar t → growT p t bs = some b2 → applyT (b2 ++ r) p = t := by
      intro p t bs b2 r h hp ht hg
      have hpe := T.sz_eq p
      have hpv := okP_v hp
      rw [growT_eq] at hg
      by_cases hv : p.v ≠ 0
      · rw [if_pos hv] at hg
        have hput : ∀ u, lookB b2 p.v = some u → applyT (b2 ++ r) p = u := fun u hu => applyT_some (by rw [putIn, if_pos (by omega)]; exact lookB_append hu)
        cases hl : lookB bs p.v with
        | some u =>
          rw [hl] at hg
          by_cases hs : sameT u t = true
          · simp only [hs, if_true, Option.some.injEq] at hg
            subst hg
            rw [hput u hl]; exact sameT_iff.1 hs
          · simp only [hs] at hg; cases hg
        | none =>
          rw [hl] at hg
          simp only [Option.some.injEq] at hg
          subst hg
          exact hput t (lookB_last hl)
      · rw [if_neg hv] at hg
        have hv0 : p.v = 0 := by omega
        by_cases h2 : t.v ≠ 0 ∨ p.f ≠ t.f
        · rw [if_pos h2] at hg; cases hg
        · rw [if_neg h2] at hg
          have h3 := ih.2 p.args t.args bs b2 r (by omega) (okP_iff.1 hp).2 (okP_iff.1 ht).2 hg
          rw [applyT_fn hv0, h3]
          have h4 : t.v = 0 := by omega
          have h5 : p.f = t.f := by omega
          cases t
          simp only at h4 h5
          rw [h5, h4]
    refine ⟨h1, ?_⟩
    intro ps
    induction ps with
    | nil =>
      intro ts bs b2 r _ _ _ hg
      cases ts with
      | nil => rfl
      | cons t ts => cases hg
    | cons p ps ihp =>
      intro ts bs b2 r h hp ht hg
      rw [T.szL_cons] at h
      cases ts with
      | nil => cases hg
      | cons t ts =>
        rw [growL_cons] at hg
        cases hb : growT p t bs with
        | none => rw [hb] at hg; cases hg
        | some b1 =>
          rw [hb] at hg
          obtain ⟨r2, hr2⟩ := (grow_more _).2 ps ts b1 b2 (Nat.le_refl _) hg
          have h6 := ihp ts b1 b2 r (by omega) (okL_cons.1 hp).2 (okL_cons.1 ht).2 hg
          rw [List.map_cons, h6]
          rw [hr2, List.append_assoc, h1 p t bs b1 (r2 ++ r) (by omega) (okL_cons.1 hp).1 (okL_cons.1 ht).1 hb]
/-- A step makes a lesser term. -/
theorem step_falls {ar : List Int} {rs : List (T × T)} {t : T} (hr : RulesOk ar rs) (ht : t.sz ≤ 120 ∧ okP ar t) (h : (stepSpec rs t).2.2 = 0) (h2 : (stepSpec rs t).2.1 = true) : gt t (stepSpec rs t).1 = true := by
  rw [stepSpec] at h h2 ⊢
  cases hf : findR rs t with
  | none => rw [hf] at h2; cases h2
  | some r =>
    obtain ⟨p, y, bs⟩ := r
    rw [hf] at h h2
    obtain ⟨u, g1, g2, _⟩ := findR_place t.sz t _ (Nat.le_refl _) hf
    obtain ⟨x, b, hx, rfl, hg, rfl⟩ := hitR_rule g2
    have hu : u.sz ≤ 120 ∧ okP ar u := ⟨by have := atT_sz g1; omega, okP_at g1 ht.2⟩
    have hxo := hr x hx
    have hb := grow_binds hxo.1.2 hu hg
    have hb2 : ∀ v z, (v, z) ∈ sortB b → okP ar z := fun v z hz => (hb.1 _ (sortB_mem hz)).2
    have happ : applyT (sortB b) x.1 = u := by
      have h9 := (grow_apply (ar := ar) x.1.sz).1 x.1 u [] b [] (Nat.le_refl _) hxo.1.2 hu.2 hg
      rw [List.append_nil] at h9
      rw [applyT_sortB]; exact h9
    have hgt := gt_stable hb2 hxo.1.2 hxo.2.1.2 hxo.2.2
    rw [happ] at hgt
    simp only [madeR] at h h2 ⊢
    by_cases h7 : 120 < (applyT (sortB b) x.2).sz
    · rw [if_pos h7] at h; cases h
    · rw [if_neg h7] at h h2 ⊢
      by_cases h8 : 120 < (putT (applyT (sortB b) x.2) t p).sz
      · rw [if_pos h8] at h; cases h
      · rw [if_neg h8]
        exact gt_put (okP_apply hb2 hxo.2.1.2) ht.2 g1 hgt
/-- What is normal stays as it is. -/
theorem norm_stays {rs : List (T × T)} : ∀ (k n : Nat) (t : T), (normF rs k n t).2.2 = 0 → stepSpec rs (normF rs k n t).1 = ((normF rs k n t).1, false, 0) ∧ n ≤ (normF rs k n t).2.1 ∧ (stepSpec rs t).2.2 = 0 ∧ (n < (normF rs k n t).2.1 ↔ (stepSpec rs t).2.1 = true) := by
  intro k
  induction k with
  | zero => intro n t h; cases h
  | succ k ih =>
    intro n t h
    rw [normF] at h ⊢
    by_cases h1 : (stepSpec rs t).2.2 = 0
    · rw [if_pos h1] at h ⊢
      by_cases h2 : (stepSpec rs t).2.1 = true
      · rw [if_pos h2] at h ⊢
        obtain ⟨g1, g2, g3, g4⟩ := ih (n + 1) _ h
        exact ⟨g1, by omega, h1, ⟨fun _ => h2, fun _ => by omega⟩⟩
      · rw [if_neg h2] at h ⊢
        refine ⟨step_none h1 (by simpa using h2), Nat.le_refl _, h1, ⟨fun h => absurd h (Nat.lt_irrefl _), fun h => absurd h h2⟩⟩
    · rw [if_neg h1] at h; cases h

theorem norm_ok {ar : List Int} {rs : List (T × T)} (hr : RulesOk ar rs) : ∀ (k n : Nat) (t : T), t.sz ≤ 120 ∧ okP ar t → (normF rs k n t).2.2 = 0 → (normF rs k n t).1.sz ≤ 120 ∧ okP ar (normF rs k n t).1 := by
  intro k
  induction k with
  | zero => intro n t _ h; cases h
  | succ k ih =>
    intro n t ht h
    rw [normF] at h ⊢
    by_cases h1 : (stepSpec rs t).2.2 = 0
    · rw [if_pos h1] at h ⊢
      by_cases h2 : (stepSpec rs t).2.1 = true
      · rw [if_pos h2] at h ⊢
        exact ih (n + 1) _ (step_ok hr ht h1) h
      · rw [if_neg h2]; exact ht
    · rw [if_neg h1] at h; cases h

end Go.Proofs.Ytbkedppkdhfpoaa

namespace Go.Proofs.Ytbkedppkdhfpoaa
open Go.RowKit

set_option maxRecDepth 100000 in
set_option maxHeartbeats 1000000 in
theorem termIs_any (x want : T) (k : Int) (a : Option Addr) (cap : Nat) (a2 : Option Addr) (cap2 : Nat) (w : World) (hsz : x.sz ≤ 1000) (hin : InL w x.args a) (hin2 : InL w want.args a2) (h0 : k = 0 → sameT x want = true) (h1 : k ≠ 0 → x = zeroT) :
    Calls Try.prog 27 #[.agg #[.int .i64 x.v, .int .i64 x.f, .slice a x.args.length cap], .int .i64 k, .int .i64 k, .agg #[.int .i64 want.v, .int .i64 want.f, .slice a2 want.args.length cap2]] w fun e w' =>
      e = .returned (.bool true) ∧ Below w.heap.size w w' := by
  by_cases hk : k = 0
  · subst hk
    have hs := h0 rfl
    have HS := hide (fun o1 o2 => sameTerm_any (x.sz + 1) x want a cap a2 cap2 ((w.alloc o1).alloc o2) (by omega) hsz (InP_alloc o2 (InP_alloc o1 hin)) (InP_alloc o2 (InP_alloc o1 hin2)))
    rw [hs] at HS
    clear h0 h1 hs
    go_enter Try.func27, Try.ntmps27
    go_wp2_with fail
    refine (HS.out _ _).mono ?_
    rintro e w1 ⟨rfl, hb1⟩
    have Hb := hide ((below2 w _ _).trans (hb1.mono (by simp; omega)))
    clear hb1
    go_wp2_with fail
    go_ret
    exact ⟨rfl, Hb.out⟩
  · have hx := h1 hk
    subst hx
    have hk1 : (k != 0) = true := by simpa using hk
    have hk2 : (k == k) = true := by simp
    have hs : sameT zeroT zeroT = true := sameT_refl _
    have HS := hide (fun o1 o2 => sameTerm_any 2 zeroT zeroT a cap none 0 ((w.alloc o1).alloc o2) (by decide) (by decide) InP_nil InP_nil)
    rw [hs] at HS
    clear h0 h1 hs
    go_enter Try.func27, Try.ntmps27
    go_wp2_with fail
    refine (HS.out _ _).mono ?_
    rintro e w1 ⟨rfl, hb1⟩
    have Hb := hide ((below2 w _ _).trans (hb1.mono (by simp; omega)))
    clear hb1
    go_wp2_with fail
    go_ret
    exact ⟨rfl, Hb.out⟩

/-- What is wrong with the first is wrong with both. -/
theorem allErr_two {ar : List Int} {t u : T} (h : allErr ar [t] ≠ 0) : allErr ar [t, u] ≠ 0 := by
  intro h2
  apply h
  have := allErr_iff.1 h2
  exact allErr_iff.2 ⟨this.1, fun x hx => this.2 x (by simp at hx; simp [hx])⟩
theorem allErr_one {ar : List Int} {t u : T} (h : allErr ar [t, u] = 0) : allErr ar [t] = 0 := by
  rcases Classical.em (allErr ar [t] = 0) with h1 | h1
  · exact h1
  · exact absurd h (allErr_two h1)
theorem at_zero {ar : List Int} {t : T} {place : List Int} (h : (atSpec ar t place).2 ≠ 0) : (atSpec ar t place).1 = zeroT := by
  rw [atSpec] at h ⊢
  split
  · cases hat : atT t place with
    | none => rfl
    | some c => rw [if_pos (by assumption), hat] at h; exact absurd rfl h
  · rfl
theorem put_zero {ar : List Int} {t u : T} {place : List Int} (h : (putSpec ar t place u).2 ≠ 0) : (putSpec ar t place u).1 = zeroT := by
  rw [putSpec] at h ⊢
  by_cases h1 : allErr ar [t, u] = 0
  · rw [if_pos h1] at h ⊢
    cases hat : atT t place with
    | none => rfl
    | some c =>
      rw [hat] at h
      by_cases h2 : 120 < (t.sz : Int) - c.sz + u.sz
      · simp only [if_pos h2]
      · simp only [if_neg h2] at h; exact absurd rfl h
  · rw [if_neg h1]
theorem at_bad {ar : List Int} {t : T} {place : List Int} (h : allErr ar [t] ≠ 0) : (atSpec ar t place).2 = allErr ar [t] := by rw [atSpec, if_neg h]
theorem at_none {ar : List Int} {t : T} {place : List Int} (h : allErr ar [t] = 0) (hn : atT t place = none) : (atSpec ar t place).2 = 5 := by rw [atSpec, if_pos h, hn]
theorem at_some {ar : List Int} {t c : T} {place : List Int} (h : allErr ar [t] = 0) (hn : atT t place = some c) : atSpec ar t place = (c, 0) := by rw [atSpec, if_pos h, hn]
theorem put_bad {ar : List Int} {t u : T} {place : List Int} (h : allErr ar [t, u] ≠ 0) : (putSpec ar t place u).2 = allErr ar [t, u] := by rw [putSpec, if_neg h]
theorem put_none {ar : List Int} {t u : T} {place : List Int} (h : allErr ar [t, u] = 0) (hn : atT t place = none) : (putSpec ar t place u).2 = 5 := by rw [putSpec, if_pos h, hn]
theorem put_some {ar : List Int} {t u c : T} {place : List Int} (h : allErr ar [t, u] = 0) (hn : atT t place = some c) :
    putR u t place = putT u t place ∧ (putR u t place).sz ≤ 240 ∧ (120 < (putR u t place).sz → (putSpec ar t place u).2 = 2) ∧ ((putR u t place).sz ≤ 120 → putSpec ar t place u = (putR u t place, 0)) := by
  have hx := allErr_iff.1 h
  have ht := hx.2 t (by simp)
  have hu := hx.2 u (by simp)
  have e := putR_putT (u := u) hn ht.2
  have hsz := putT_sz (u := u) hn
  have hc := atT_sz hn
  rw [e]
  refine ⟨rfl, by omega, fun h1 => ?_, fun h1 => ?_⟩
  · rw [putSpec, if_pos h, hn]
    simp only [if_pos (show 120 < (t.sz : Int) - c.sz + u.sz by omega)]
  · rw [putSpec, if_pos h, hn]
    simp only [if_neg (show ¬ 120 < (t.sz : Int) - c.sz + u.sz by omega)]
theorem at_sz {ar : List Int} {t : T} {place : List Int} : (atSpec ar t place).1.sz ≤ 120 := by
  rw [atSpec]
  split
  · rename_i h
    cases hat : atT t place with
    | none => exact (by decide : zeroT.sz ≤ 120)
    | some c =>
      have := atT_sz hat
      have := sz_of_ok h (t := t) (by simp)
      show c.sz ≤ 120
      omega
  · exact (by decide : zeroT.sz ≤ 120)
theorem put_sz {ar : List Int} {t u : T} {place : List Int} : (putSpec ar t place u).1.sz ≤ 240 := by
  rcases Classical.em ((putSpec ar t place u).2 = 0) with h | h
  · rcases Classical.em (allErr ar [t, u] = 0) with h1 | h1
    · cases hat : atT t place with
      | none => rw [put_none h1 hat] at h; cases h
      | some c =>
        obtain ⟨e, h2, h3, h4⟩ := put_some h1 hat
        rcases Nat.lt_or_ge 120 (putR u t place).sz with h5 | h5
        · rw [h3 h5] at h; cases h
        · rw [h4 h5]; exact h2
    · rw [put_bad h1] at h; exact absurd h h1
  · rw [put_zero h]; decide

end Go.Proofs.Ytbkedppkdhfpoaa

namespace Go.Proofs.Ytbkedppkdhfpoaa
open Go.RowKit

/-- What must be in any case. -/
def SubBegun : Prop := ∀ (w : World), Calls Try.prog 34 #[] w fun e w' => e = .returned (.bool true) ∧ Below w.heap.size w w'

theorem apply_zero {ar : List Int} {bs : List (Int × T)} {t : T} (h : (applySpec ar bs t).2 ≠ 0) : (applySpec ar bs t).1 = zeroT := by
  by_cases h1 : bindsErr ar bs = 0
  · by_cases h2 : termErr ar t = 0
    · by_cases h3 : 120 < (applyT bs t).sz
      · rw [applySpec, if_pos h1, if_pos h2, if_pos h3]
      · rw [applySpec, if_pos h1, if_pos h2, if_neg h3] at h; exact absurd rfl h
    · rw [applySpec, if_pos h1, if_neg h2]
  · rw [applySpec, if_neg h1]
theorem apply_sz {ar : List Int} {bs : List (Int × T)} {t : T} : (applySpec ar bs t).1.sz ≤ 120 := by
  by_cases h : (applySpec ar bs t).2 = 0
  · by_cases h1 : bindsErr ar bs = 0
    · by_cases h2 : termErr ar t = 0
      · by_cases h3 : 120 < (applyT bs t).sz
        · rw [applySpec, if_pos h1, if_pos h2, if_pos h3]; decide
        · rw [applySpec, if_pos h1, if_pos h2, if_neg h3]; simp; omega
      · rw [applySpec, if_pos h1, if_neg h2] at h; exact absurd h h2
    · rw [applySpec, if_neg h1] at h; exact absurd h h1
  · rw [apply_zero h]; decide

attribute [local go_sem ↓] Go.wp_at_zero Go.wp_at_succ
set_option maxRecDepth 100000 in
set_option maxHeartbeats 2000000 in
theorem SubstApplies_any (hB : SubBegun) (ar : List Int) (ga : Option Addr) (gcap : Nat) (bs : List (Int × T)) (ba : Option Addr) (bc : Nat) (t : T) (a : Option Addr) (cap : Nat) (w : World) (hg : Ints w ar ga) (hl : bs.length ≤ 9223372036854775807) (hbs : Binds (fun _ => True) w bs ba) (hin : InL w t.args a) :
    Calls Try.prog 6 #[.agg #[.slice ga ar.length gcap], .slice ba bs.length bc, .agg #[.int .i64 t.v, .int .i64 t.f, .slice a t.args.length cap]] w fun e w' => e = .returned (.bool true) ∧ Below w.heap.size w w' := by
  obtain ⟨W1, hW1⟩ : ∃ W1, W1 = ((w.alloc (.cells #[.slice ga ar.length gcap] 24)).alloc (.cells #[.int .i64 t.v, .int .i64 t.f, .slice a t.args.length cap] 27)) := ⟨_, rfl⟩
  have hbW : Below w.heap.size w W1 := by rw [hW1]; exact below2 _ _ _
  have hzW : W1.heap.size = w.heap.size + 2 := by rw [hW1]; simp
  have cg : W1.cell? ⟨w.heap.size, 0, none⟩ = some (.slice ga ar.length gcap) := by
    rw [hW1, cell_alloc_lt (by simp), cell_new _ rfl]; rfl
  have h3t : Three W1 (w.heap.size + 1) (.int .i64 t.v) (.int .i64 t.f) (.slice a t.args.length cap) := by rw [hW1]; exact Three.new _ (by simp)
  obtain ⟨z, k, hzk⟩ : ∃ z k, applySpec ar bs t = (z, k) := ⟨_, _, rfl⟩
  have hA1 := Apply_any ar ga gcap bs ba bc t a cap W1 (Ints_below hbW hg) hl (Binds_below hbW hbs) (InP_below hbW hin)
  rw [hzk] at hA1
  have HA1 := hide hA1
  have Hzk := hide hzk
  have HW1 := hide hW1
  have H3t := hide h3t
  have HB := hide hB
  have Hbs := hide hbs
  have Hg := hide hg
  have Hin := hide hin
  obtain ⟨c0, c1, c2, _, _, _⟩ := h3t
  clear hA1 hzk hW1 hB hbs hg hin
  go_enter Try.func6, Try.ntmps6
  go_wp2_with fail
  rw [← HW1.out]
  refine HA1.out.mono ?_
  rintro e w1 ⟨⟨a3, cap3, rfl, hin3⟩, hb1⟩
  have hz1 := hb1.size
  simp only at hin3
  have hbw1 : Below w.heap.size w w1 := hbW.trans (hb1.mono (by omega))
  have cg1 : w1.cell? ⟨w.heap.size, 0, none⟩ = some (.slice ga ar.length gcap) := by rw [hb1.cell (p := ⟨w.heap.size, 0, none⟩) (show w.heap.size < W1.heap.size by omega)]; exact cg
  have H3t1 := hide (H3t.out.below hb1)
  obtain ⟨e0, e1, e2, _, _, _⟩ := H3t1.out
  have hq0 : w.heap.size < w1.heap.size := by omega
  have hq1 : w.heap.size + 1 < w1.heap.size := by omega
  have hbz : ∀ o, Below w.heap.size w (w1.alloc o) := fun o => hbw1.alloc (by omega) o
  have HC := hide (fun o => refCheckBindings_any ar ga gcap bs ba bc (w1.alloc o) _ hl (Ints_below (hbz o) Hg.out) (Binds_below (hbz o) Hbs.out))
  have Hin3 := hide hin3
  have Hbw1 := hide hbw1
  clear HA1 cg c0 c1 c2 hin3 hb1 HW1 H3t hbz hbw1 hbW
  go_wp2_with fail
  refine (HC.out _).mono ?_
  rintro e w2 ⟨rfl, hb2⟩
  have hz2 := hb2.size
  simp at hz2
  have hb12 : Below w1.heap.size w1 w2 := (below1 _ _).trans (hb2.mono (by simp))
  have Hbw2 := hide (Hbw1.out.trans (hb12.mono (by omega)))
  have H3x2 : Hid (Three w2 w1.heap.size (.int .i64 z.v) (.int .i64 z.f) (.slice a3 z.args.length cap3)) := (Three.new 27 rfl).below hb2
  have H3t2 := hide (H3t1.out.below hb12)
  have cg2 : w2.cell? ⟨w.heap.size, 0, none⟩ = some (.slice ga ar.length gcap) := by rw [hb12.cell (p := ⟨w.heap.size, 0, none⟩) hq0]; exact cg1
  have Hin32 := hide (InP_below hb12 Hin3.out)
  have hkz : Hid (k ≠ 0 → z = zeroT) := fun h => by
    have h9 := apply_zero (ar := ar) (bs := bs) (t := t) (by rw [Hzk.out]; exact h)
    rw [Hzk.out] at h9; exact h9
  have hzsz : z.sz ≤ 120 := by
    have h9 := apply_sz (ar := ar) (bs := bs) (t := t)
    rw [Hzk.out] at h9; exact h9
  clear hb2 HC cg1 e0 e1 e2 Hin3 H3t1 hb12 Hbw1
  obtain ⟨E1, hE1⟩ : ∃ E, E = bindsErr ar bs := ⟨_, rfl⟩
  rw [← hE1]
  have HE1 := hide hE1
  clear hE1
  by_cases h1 : E1 = 0
  · subst h1
    obtain ⟨t0, t1, t2, _, _, _⟩ := H3t2.out
    have hsig := (bindsErr_sig HE1.out.symm).1
    have hbe := (bindsErr_sig HE1.out.symm).2
    have HT := hide (refCheckTerm_any ar ga gcap t a cap w2 (Ints_below Hbw2.out Hg.out) (sig_len hsig) (InP_below Hbw2.out Hin.out))
    have hs0 : w.heap.size < w2.heap.size := by omega
    have hs1 : w.heap.size + 1 < w2.heap.size := by omega
    go_wp2_with fail
    refine HT.out.mono ?_
    rintro e w3 ⟨rfl, hb3⟩
    have hz3 := hb3.size
    have Hbw3 := hide (Hbw2.out.trans (hb3.mono (by omega)))
    have H3x3 := hide (H3x2.out.below hb3)
    have H3t3 := hide (H3t2.out.below hb3)
    have Hin33 := hide (InP_below hb3 Hin32.out)
    clear HT t0 t1 t2 hb3 Hbw2 H3x2 H3t2 Hin32 cg2
    obtain ⟨E2, hE2⟩ : ∃ E, E = termErr ar t := ⟨_, rfl⟩
    rw [← hE2]
    have HE2 := hide hE2
    clear hE2
    by_cases h2 : E2 = 0
    · subst h2
      obtain ⟨ht120, hok⟩ := termErr_iff.1 HE2.out.symm
      have hsum : sumS bs (parts t) = (applyT bs t).sz := (sumS_apply (fun v u hvu => (bindErr_ok hbe v u hvu).2.2.1) t.sz).1 t (Nat.le_refl _) hok
      have Hok := hide hok
      have HAS := hide (fun o => appliedSize_any bs ba bc t a cap (w3.alloc o) _ hl (Binds_below (Hbw3.out.alloc (by omega) o) Hbs.out) ht120 (InP_below (Hbw3.out.alloc (by omega) o) Hin.out))
      rw [hsum] at HAS
      obtain ⟨t0, t1, t2, _, _, _⟩ := H3t3.out
      have hs0 : w.heap.size < w3.heap.size := by omega
      have hs1 : w.heap.size + 1 < w3.heap.size := by omega
      clear hsum hok
      go_wp2_with fail
      refine (HAS.out _).mono ?_
      rintro e w4 ⟨rfl, hb4⟩
      have hz4 := hb4.size
      simp at hz4
      have hb34 : Below w3.heap.size w3 w4 := (below1 _ _).trans (hb4.mono (by simp))
      have HV4 : Hid (Three w4 w3.heap.size (.int .i64 0) (.int .i64 0) (.slice none 0 0)) := (Three.new 27 rfl).below hb4
      have H3x4 := hide (H3x3.out.below hb34)
      have H3t4 := hide (H3t3.out.below hb34)
      have Hbw4 := hide (Hbw3.out.trans (hb34.mono (by omega)))
      have Hin34 := hide (InP_below hb34 Hin33.out)
      have HinK := hide (InP_below hb34 (InP_imp (fun k' h => h.2) (InP_lt Hin33.out)))
      clear HAS hb4 hb34 H3x3 H3t3 Hbw3 Hin33 t0 t1 t2
      by_cases h3 : 120 < (applyT bs t).sz
      · have h3b : (120 : Int) < ((applyT bs t).sz : Int) := by omega
        obtain rfl : k = 2 := by
          have h9 : (applySpec ar bs t).2 = 2 := by rw [applySpec, if_pos HE1.out.symm, if_pos HE2.out.symm, if_pos h3]
          rw [Hzk.out] at h9; exact h9
        have F : Hid ((2 : Int) = 0 → sameT z zeroT = true) := fun h => absurd h (by decide)
        clear h3
        go_wp2_with fail
        refine (HB.out _).mono ?_
        rintro e wa ⟨rfl, hba⟩
        obtain ⟨x0, x1, x2, _, _, _⟩ := H3x4.out.below hba
        obtain ⟨p0, p1, p2, _, _, _⟩ := HV4.out.below hba
        have HS := hide (termIs_any z zeroT 2 a3 cap3 none 0 wa (by omega) (InP_below hba Hin34.out) trivial F.out hkz.out)
        have Hbe := hide (Hbw4.out.trans (hba.mono (by omega)))
        clear hba
        go_wp2_with fail
        refine HS.out.mono ?_
        rintro e we ⟨rfl, hbe⟩
        have Hbf := hide (Hbe.out.trans (hbe.mono Hbe.out.size))
        clear hbe Hbe
        go_wp2_with fail
        go_ret
        exact ⟨rfl, Hbf.out⟩
      · have h3b : ¬ (120 : Int) < ((applyT bs t).sz : Int) := by omega
        obtain ⟨rfl, rfl⟩ : z = applyT bs t ∧ k = 0 := by
          have h9 : applySpec ar bs t = (applyT bs t, 0) := by rw [applySpec, if_pos HE1.out.symm, if_pos HE2.out.symm, if_neg h3]
          have h8 : (z, k) = (applyT bs t, 0) := Hzk.out.symm.trans h9
          simpa using h8
        have F : Hid (sameT (applyT bs t) (applyT bs t) = true) := sameT_refl _
        obtain ⟨t0, t1, t2, _, _, _⟩ := H3t4.out
        obtain ⟨i0, i1, i2, _, _, _⟩ := HV4.out
        have hs0 : w.heap.size < w4.heap.size := by omega
        have hs1 : w.heap.size + 1 < w4.heap.size := by omega
        have hs3 : w3.heap.size < w4.heap.size := by omega
        have HAp := hide (applyOf_any ar (fun k' => k' < w.heap.size) bs ba bc hl (t.sz + 1) t a cap w4 (by omega) (fun k' hk' => by have hk' : k' < w.heap.size := hk'; omega) (Binds_below Hbw4.out (Binds_imp (fun k' h => h.2) (Binds_lt Hbs.out))) Hok.out (by omega) (InP_below Hbw4.out (InP_imp (fun k' h => h.2) (InP_lt Hin.out))))
        clear h3
        go_wp2_with fail
        refine HAp.out.mono ?_
        rintro e w5 ⟨a5, cap5, rfl, hin5, hb5⟩
        have hz5 := hb5.size
        have T5 : Hid (Three w5 w3.heap.size (.int .i64 0) (.int .i64 0) (.slice none 0 0)) := HV4.out.below hb5
        have hs5 : w3.heap.size < w5.heap.size := by omega
        obtain ⟨j0, j1, j2, _, _, _⟩ := T5.out
        have Hbw5 := hide (Hbw4.out.trans (hb5.mono (by omega)))
        have H3x5 := hide (H3x4.out.below hb5)
        have HinK5 := hide (InP_below hb5 HinK.out)
        have HI5 := hide hin5
        obtain ⟨WQ, hWQ⟩ : ∃ WQ, WQ = set3 w5 w3.heap.size 0 (.int .i64 (applyT bs t).v) (.int .i64 (applyT bs t).f) (.slice a5 (applyT bs t).args.length cap5) := ⟨_, rfl⟩
        have HbQ : Hid (Below w.heap.size w WQ) := by rw [hWQ]; exact below_set3 (b := w3.heap.size) (off := 0) Hbw5.out (by omega) _ _ _
        have H6 : Hid (Three WQ w3.heap.size (.int .i64 (applyT bs t).v) (.int .i64 (applyT bs t).f) (.slice a5 (applyT bs t).args.length cap5)) := by rw [hWQ]; exact T5.out.set _ _ _
        have H3xQ : Hid (Three WQ w1.heap.size (.int .i64 (applyT bs t).v) (.int .i64 (applyT bs t).f) (.slice a3 (applyT bs t).args.length cap3)) := by rw [hWQ]; exact Three.same H3x5.out (set3_block (by omega))
        have HinQ : Hid (InL WQ (applyT bs t).args a3) := by
          rw [hWQ]; exact InP_imp (fun _ _ => trivial) (InP_same (fun k' hk' _ => set3_block (b := w3.heap.size) (off := 0) (by have hk' : k' < w3.heap.size := hk'; omega)) HinK5.out)
        have HIQ : Hid (InL WQ (applyT bs t).args a5) := by
          rw [hWQ]; exact InP_imp (fun _ _ => trivial) (InP_same (fun k' hk' _ => set3_block (b := w3.heap.size) (off := 0) (by have hk' : k' < w.heap.size ∨ w4.heap.size ≤ k' := hk'; omega)) HI5.out)
        have HWQ := hide hWQ
        clear HAp hb5 hin5 Hbw4 H3x4 Hin34 HV4 H3t4 t0 t1 t2 i0 i1 i2 hWQ HinK HinK5 HI5 H3x5 T5
        go_wp2_with fail
        refine (HB.out _).mono ?_
        rintro e wa ⟨rfl, hba0⟩
        have hba : Below WQ.heap.size WQ wa := by rw [HWQ.out]; exact hba0
        clear hba0
        obtain ⟨x0, x1, x2, _, _, _⟩ := H3xQ.out.below hba
        obtain ⟨p0, p1, p2, _, _, _⟩ := H6.out.below hba
        have HS := hide (termIs_any (applyT bs t) (applyT bs t) 0 a3 cap3 a5 cap5 wa (by omega) (InP_below hba HinQ.out) (InP_below hba HIQ.out) (fun _ => F.out) hkz.out)
        have Hbe := hide (HbQ.out.trans (hba.mono HbQ.out.size))
        clear hba HinQ HIQ HWQ H3xQ H6 j0 j1 j2
        go_wp2_with fail
        refine HS.out.mono ?_
        rintro e we ⟨rfl, hbe⟩
        have Hbf := hide (Hbe.out.trans (hbe.mono Hbe.out.size))
        clear hbe Hbe
        go_wp2_with fail
        go_ret
        exact ⟨rfl, Hbf.out⟩
    · have h2b : (E2 == 0) = false := by simpa using h2
      obtain rfl : k = E2 := by
        have h9 : (applySpec ar bs t).2 = termErr ar t := by rw [applySpec, if_pos HE1.out.symm, if_neg (fun h => h2 (HE2.out.trans h))]
        rw [Hzk.out] at h9
        exact h9.trans HE2.out.symm
      have F : Hid (k = 0 → sameT z zeroT = true) := fun h => absurd h h2
      have HQ := hide (below1 w3 (.cells #[.int .i64 0, .int .i64 0, .slice none 0 0] 27))
      have HV : Hid (Three (w3.alloc (.cells #[.int .i64 0, .int .i64 0, .slice none 0 0] 27)) w3.heap.size (.int .i64 0) (.int .i64 0) (.slice none 0 0)) := Three.new 27 rfl
      clear h2
      go_wp2_with fail
      refine (HB.out _).mono ?_
      rintro e wa ⟨rfl, hba⟩
      have hcq : Below w3.heap.size w3 wa := HQ.out.trans (hba.mono HQ.out.size)
      obtain ⟨x0, x1, x2, _, _, _⟩ := H3x3.out.below hcq
      obtain ⟨p0, p1, p2, _, _, _⟩ := HV.out.below hba
      have HS := hide (termIs_any z zeroT k a3 cap3 none 0 wa (by omega) (InP_below hcq Hin33.out) trivial F.out hkz.out)
      have Hbe := hide (Hbw3.out.trans (hcq.mono (by omega)))
      clear HQ HV hba hcq
      go_wp2_with fail
      refine HS.out.mono ?_
      rintro e we ⟨rfl, hbe⟩
      have Hbf := hide (Hbe.out.trans (hbe.mono Hbe.out.size))
      clear hbe Hbe
      go_wp2_with fail
      go_ret
      exact ⟨rfl, Hbf.out⟩
  · have h1b : (E1 == 0) = false := by simpa using h1
    obtain rfl : k = E1 := by
      have h9 : (applySpec ar bs t).2 = bindsErr ar bs := by rw [applySpec, if_neg (fun h => h1 (HE1.out.trans h))]
      rw [Hzk.out] at h9
      exact h9.trans HE1.out.symm
    have F : Hid (k = 0 → sameT z zeroT = true) := fun h => absurd h h1
    have HQ := hide (below1 w2 (.cells #[.int .i64 0, .int .i64 0, .slice none 0 0] 27))
    have HV : Hid (Three (w2.alloc (.cells #[.int .i64 0, .int .i64 0, .slice none 0 0] 27)) w2.heap.size (.int .i64 0) (.int .i64 0) (.slice none 0 0)) := Three.new 27 rfl
    clear h1
    go_wp2_with fail
    refine (HB.out _).mono ?_
    rintro e wa ⟨rfl, hba⟩
    have hcq : Below w2.heap.size w2 wa := HQ.out.trans (hba.mono HQ.out.size)
    obtain ⟨x0, x1, x2, _, _, _⟩ := H3x2.out.below hcq
    obtain ⟨p0, p1, p2, _, _, _⟩ := HV.out.below hba
    have HS := hide (termIs_any z zeroT k a3 cap3 none 0 wa (by omega) (InP_below hcq Hin32.out) trivial F.out hkz.out)
    have Hbe := hide (Hbw2.out.trans (hcq.mono (by omega)))
    clear HQ HV hba hcq
    go_wp2_with fail
    refine HS.out.mono ?_
    rintro e we ⟨rfl, hbe⟩
    have Hbf := hide (Hbe.out.trans (hbe.mono Hbe.out.size))
    clear hbe Hbe
    go_wp2_with fail
    go_ret
    exact ⟨rfl, Hbf.out⟩

end Go.Proofs.Ytbkedppkdhfpoaa
