/- The terms of the document as plain data, and how big they are: no word of the program here. -/
namespace Go.Proofs.Ytppeedpmofimhaa

/-- A term: its variable's number, its function's number, its arguments. -/
structure T where
  v : Int
  f : Int
  args : List T

/-- How many variables and functions a term has. -/
def T.sz : T → Nat
  | ⟨_, _, args⟩ => 1 + szL args
  where
  szL : List T → Nat
    | [] => 0
    | t :: ts => t.sz + szL ts

theorem T.sz_pos (t : T) : 1 ≤ t.sz := by
  cases t; simp [T.sz]

theorem T.szL_nil : T.sz.szL [] = 0 := rfl
theorem T.szL_cons (t : T) (ts : List T) : T.sz.szL (t :: ts) = t.sz + T.sz.szL ts := rfl
theorem T.sz_eq (t : T) : t.sz = 1 + T.sz.szL t.args := by cases t; rfl
theorem T.szL_append (a b : List T) : T.sz.szL (a ++ b) = T.sz.szL a + T.sz.szL b := by
  induction a with
  | nil => simp [T.szL_nil]
  | cons t ts ih => simp [T.szL_cons, ih, Nat.add_assoc]
theorem T.length_le (l : List T) : l.length ≤ T.sz.szL l := by
  induction l with
  | nil => simp [T.szL_nil]
  | cons a l ih => have := a.sz_pos; simp [T.szL_cons]; omega
theorem T.szL_mem {t : T} {l : List T} (h : t ∈ l) : t.sz ≤ T.sz.szL l := by
  induction l with
  | nil => cases h
  | cons a l ih =>
    rw [T.szL_cons]
    rcases List.mem_cons.1 h with rfl | h
    · omega
    · have := ih h; omega

/-- What is wrong with a signature: too many functions, or an arity out of range. -/
def sigErr (ar : List Int) : Int :=
  if 12 < ar.length then 2 else if ar.all (fun n => decide (0 ≤ n ∧ n ≤ 3)) then 0 else 3

/-- What is wrong with a part alone. -/
def partErr (ar : List Int) (v f : Int) (n : Nat) : Int :=
  if v ≠ 0 then (if v < 1 ∨ 1000 < v then 3 else if n ≠ 0 ∨ f ≠ 0 then 1 else 0)
  else if f < 0 ∨ (ar.length : Int) ≤ f then 5 else if (n : Int) ≠ ar.getD f.toNat 0 then 1 else 0

/-- The parts are gone through, each behind those that stand in it, from the left, with a state, till one says no. -/
def lookT {S : Type} (step : S → T → S × Bool) : S → T → S × Bool
  | s, ⟨v, f, args⟩ =>
    let r := lookL s args
    if r.2 = false then (r.1, false) else step r.1 ⟨v, f, args⟩
  where
  lookL : S → List T → S × Bool
    | s, [] => (s, true)
    | s, t :: ts =>
      let r := lookT step s t
      if r.2 = false then (r.1, false) else lookL r.1 ts

theorem lookL_nil {S : Type} (step : S → T → S × Bool) (s : S) : lookT.lookL step s [] = (s, true) := rfl
theorem lookT_eq {S : Type} (step : S → T → S × Bool) (s : S) (t : T) : lookT step s t = if (lookT.lookL step s t.args).2 = false then ((lookT.lookL step s t.args).1, false) else step (lookT.lookL step s t.args).1 t := by
  cases t; rfl
theorem lookL_cons {S : Type} (step : S → T → S × Bool) (s : S) (t : T) (ts : List T) : lookT.lookL step s (t :: ts) = if (lookT step s t).2 = false then ((lookT step s t).1, false) else lookT.lookL step (lookT step s t).1 ts := rfl

theorem lookL_append {S : Type} (step : S → T → S × Bool) (a b : List T) : ∀ s : S, lookT.lookL step s (a ++ b) = if (lookT.lookL step s a).2 = false then ((lookT.lookL step s a).1, false) else lookT.lookL step (lookT.lookL step s a).1 b := by
  induction a with
  | nil => intro s; simp [lookL_nil]
  | cons t ts ih =>
    intro s
    rw [List.cons_append, lookL_cons, lookL_cons]
    by_cases h : (lookT step s t).2 = false
    · simp [h]
    · rw [if_neg h, if_neg h, ih]
theorem lookL_step {S : Type} {step : S → T → S × Bool} {s sk s2 : S} {ts : List T} {k : Nat} {t : T} (ht : ts[k]? = some t) (h : lookT.lookL step s (ts.take k) = (sk, true)) :
    (lookT step sk t = (s2, true) → lookT.lookL step s (ts.take (k + 1)) = (s2, true)) ∧ (lookT step sk t = (s2, false) → lookT.lookL step s ts = (s2, false)) := by
  have hlt : k < ts.length := by
    rcases Nat.lt_or_ge k ts.length with h | h
    · exact h
    · rw [List.getElem?_eq_none h] at ht; cases ht
  constructor
  · intro h2
    rw [List.take_add_one, ht, lookL_append, h]
    simp [lookL_cons, h2, lookL_nil]
  · intro h2
    have e : ts = ts.take k ++ t :: ts.drop (k + 1) := by
      rw [List.getElem?_eq_getElem hlt] at ht
      simp at ht
      rw [← ht, List.getElem_cons_drop, List.take_append_drop]
    rw [e, lookL_append, h]
    simp [lookL_cons, h2]

/-- What each part adds to a measure of the state, all parts add. -/
theorem look_mu {S : Type} {step : S → T → S × Bool} {mu : S → Nat} (h : ∀ s t, mu (step s t).1 ≤ mu s + 1) : ∀ (n : Nat), (∀ (t : T) (s : S), t.sz ≤ n → mu (lookT step s t).1 ≤ mu s + t.sz) ∧ (∀ (ts : List T) (s : S), T.sz.szL ts ≤ n → mu (lookT.lookL step s ts).1 ≤ mu s + T.sz.szL ts) := by
  intro n
  induction n with
  | zero =>
    refine ⟨fun t s hn => by have := t.sz_pos; omega, fun ts s hn => ?_⟩
    cases ts with
    | nil => simp [lookL_nil]
    | cons t ts => have := t.sz_pos; rw [T.szL_cons] at hn; omega
  | succ n ih =>
    have h1 : ∀ (t : T) (s : S), t.sz ≤ n + 1 → mu (lookT step s t).1 ≤ mu s + t.sz := fun t s hn => by
      rw [T.sz_eq] at hn ⊢
      have h2 := ih.2 t.args s (by omega)
      rw [lookT_eq]
      by_cases h3 : (lookT.lookL step s t.args).2 = false
      · rw [if_pos h3]; show mu (lookT.lookL step s t.args).1 ≤ _; omega
      · rw [if_neg h3]
        have := h (lookT.lookL step s t.args).1 t
        omega
    refine ⟨h1, fun ts => ?_⟩
    induction ts with
    | nil => intro s _; simp [lookL_nil]
    | cons t ts iht =>
      intro s hn
      rw [T.szL_cons] at hn ⊢
      have h2 := h1 t s (by omega)
      rw [lookL_cons]
      by_cases h3 : (lookT step s t).2 = false
      · rw [if_pos h3]; show mu (lookT step s t).1 ≤ _; omega
      · rw [if_neg h3]
        have := iht (lookT step s t).1 (by omega)
        omega

/-- The term at a place. -/
def atT : T → List Int → Option T
  | t, [] => some t
  | t, i :: p => if 0 ≤ i ∧ i < t.args.length then (t.args[i.toNat]?).bind (fun u => atT u p) else none
theorem atT_append (p q : List Int) : ∀ t, atT t (p ++ q) = (atT t p).bind (fun u => atT u q) := by
  induction p with
  | nil => intro t; rfl
  | cons i p ih =>
    intro t
    rw [List.cons_append, atT, atT]
    by_cases h : 0 ≤ i ∧ i < t.args.length
    · rw [if_pos h, if_pos h]
      cases t.args[i.toNat]? with
      | none => rfl
      | some u => exact ih u
    · rw [if_neg h, if_neg h]; rfl
theorem atT_step {t u : T} {place : List Int} {k : Nat} (hk : k < place.length) (h : atT t (place.take k) = some u) :
    (∀ u2, 0 ≤ place.getD k 0 → place.getD k 0 < u.args.length → u.args[(place.getD k 0).toNat]? = some u2 → atT t (place.take (k + 1)) = some u2) ∧ (¬ (0 ≤ place.getD k 0 ∧ place.getD k 0 < u.args.length) → atT t place = none) := by
  have hg : place.getD k 0 = place[k] := by rw [List.getD_eq_getElem?_getD, List.getElem?_eq_getElem hk]; rfl
  constructor
  · intro u2 h0 h1 h2
    rw [List.take_add_one, List.getElem?_eq_getElem hk, atT_append, h, ← hg]
    show atT u [place.getD k 0] = _
    rw [atT, if_pos ⟨h0, h1⟩, h2]; rfl
  · intro h0
    have e : place = place.take k ++ place[k] :: place.drop (k + 1) := by
      rw [List.getElem_cons_drop, List.take_append_drop]
    rw [e, atT_append, h, ← hg]
    show atT u (_ :: _) = _
    rw [atT, if_neg h0]

end Go.Proofs.Ytppeedpmofimhaa
