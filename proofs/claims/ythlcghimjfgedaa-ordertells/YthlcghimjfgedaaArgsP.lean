/- What the numbers of the arguments mean. No word of the program's memory here. -/
import Derived.Test.YthlcghimjfgedaaRows2
import Derived.Test.YthlcghimjfgedaaParts
namespace Go.Proofs.Ythlcghimjfgedaa

theorem parts_len (t : T) : (parts t).length = t.sz := (parts_length _).1 t (Nat.le_refl _)
theorem partsL_len (ts : List T) : (parts.partsL ts).length = T.sz.szL ts := (parts_length _).2 ts (Nat.le_refl _)

/-- Number m of the arguments' numbers is where that argument stands. -/
theorem nums_at (L : List T) : ∀ (ts : List T) (o : Nat) (rest : List T), L.drop o = parts.partsL ts ++ rest → ∀ (m : Nat) (c : T), ts[m]? = some c → ∃ j : Nat, (numsL o ts)[m]? = some (j : Int) ∧ j < o + T.sz.szL ts ∧ L[j]? = some c := by
  intro ts
  induction ts with
  | nil => intro o rest _ m c h; simp at h
  | cons t ts ih =>
    intro o rest h m c hm
    have hp := t.sz_pos
    rw [partsL_cons, List.append_assoc] at h
    rw [T.szL_cons]
    cases m with
    | zero =>
      have hc : t = c := by simpa using hm
      subst hc
      refine ⟨o + t.sz - 1, ?_, by omega, ?_⟩
      · rw [numsL, List.getElem?_cons_zero, show ((o + t.sz : Nat) : Int) - 1 = ((o + t.sz - 1 : Nat) : Int) by omega]
      · have h1 : (L.drop o)[t.sz - 1]? = some t := by
          rw [h, List.getElem?_append_left (by rw [parts_len]; omega), parts_eq, List.getElem?_append_right (by rw [partsL_len]; have := T.sz_eq t; omega), partsL_len]
          rw [show t.sz - 1 - T.sz.szL t.args = 0 by have := T.sz_eq t; omega]; rfl
        rw [List.getElem?_drop] at h1
        rw [show o + t.sz - 1 = o + (t.sz - 1) by omega]; exact h1
    | succ m =>
      have h2 : L.drop (o + t.sz) = parts.partsL ts ++ rest := by
        rw [← List.drop_drop, h, ← parts_len t, List.drop_left]
      obtain ⟨j, g1, g2, g3⟩ := ih (o + t.sz) rest h2 m c (by simpa using hm)
      exact ⟨j, by rw [numsL, List.getElem?_cons_succ]; exact g1, by omega, g3⟩

/-- Of each part its list has as many numbers as it has arguments; each is lesser than its own, and is that argument's. -/
theorem args_mean (L : List T) : ∀ (n : Nat), (∀ (t : T) (o : Nat) (rest : List T), t.sz ≤ n → L.drop o = parts t ++ rest → ∀ (i : Nat) (x : T), (parts t)[i]? = some x → ∃ l, (argsAt t o)[i]? = some l ∧ l.length = x.args.length ∧ ∀ (m : Nat) (c : T), x.args[m]? = some c → ∃ j : Nat, l[m]? = some (j : Int) ∧ j < o + i ∧ L[j]? = some c) ∧
    (∀ (ts : List T) (o : Nat) (rest : List T), T.sz.szL ts ≤ n → L.drop o = parts.partsL ts ++ rest → ∀ (i : Nat) (x : T), (parts.partsL ts)[i]? = some x → ∃ l, (argsAt.aL ts o)[i]? = some l ∧ l.length = x.args.length ∧ ∀ (m : Nat) (c : T), x.args[m]? = some c → ∃ j : Nat, l[m]? = some (j : Int) ∧ j < o + i ∧ L[j]? = some c) := by
  intro n
  induction n with
  | zero =>
    refine ⟨fun t o rest h => by have := t.sz_pos; omega, fun ts o rest h _ i x hx => ?_⟩
    cases ts with
    | nil => simp [parts.partsL] at hx
    | cons t ts => have := t.sz_pos; rw [T.szL_cons] at h; omega
  | succ n ih =>
    have h1 : ∀ (t : T) (o : Nat) (rest : List T), t.sz ≤ n + 1 → L.drop o = parts t ++ rest → ∀ (i : Nat) (x : T), (parts t)[i]? = some x → ∃ l, (argsAt t o)[i]? = some l ∧ l.length = x.args.length ∧ ∀ (m : Nat) (c : T), x.args[m]? = some c → ∃ j : Nat, l[m]? = some (j : Int) ∧ j < o + i ∧ L[j]? = some c := fun t o rest h hd i x hx => by
      have hts := T.sz_eq t
      rw [parts_eq, List.append_assoc] at hd
      rw [parts_eq] at hx
      have hal : (argsAt.aL t.args o).length = T.sz.szL t.args := (args_length _).2 t.args o (Nat.le_refl _)
      rw [argsAt_eq]
      rcases Nat.lt_or_ge i (T.sz.szL t.args) with hi | hi
      · rw [List.getElem?_append_left (by rw [partsL_len]; exact hi)] at hx
        obtain ⟨l, g1, g2, g3⟩ := ih.2 t.args o ([t] ++ rest) (by omega) hd i x hx
        exact ⟨l, by rw [List.getElem?_append_left (by rw [hal]; exact hi)]; exact g1, g2, g3⟩
      · rw [List.getElem?_append_right (by rw [partsL_len]; exact hi), partsL_len] at hx
        have hi2 : i = T.sz.szL t.args := by
          rcases Nat.lt_or_ge (T.sz.szL t.args) i with h9 | h9
          · rw [List.getElem?_eq_none (by simp; omega)] at hx; cases hx
          · omega
        subst hi2
        rw [Nat.sub_self] at hx
        have hxt : t = x := by simpa using hx
        subst hxt
        refine ⟨numsL o t.args, by rw [List.getElem?_append_right (by omega), hal, Nat.sub_self]; rfl, numsL_length _ _, fun m c hm => ?_⟩
        exact nums_at L t.args o ([t] ++ rest) hd m c hm
    refine ⟨h1, fun ts => ?_⟩
    induction ts with
    | nil => intro o rest _ _ i x hx; simp [parts.partsL] at hx
    | cons t ts iht =>
      intro o rest h hd i x hx
      rw [T.szL_cons] at h
      rw [partsL_cons] at hx
      rw [partsL_cons, List.append_assoc] at hd
      have hal : (argsAt t o).length = t.sz := (args_length _).1 t o (Nat.le_refl _)
      rw [aL_cons]
      rcases Nat.lt_or_ge i t.sz with hi | hi
      · rw [List.getElem?_append_left (by rw [parts_len]; exact hi)] at hx
        obtain ⟨l, g1, g2, g3⟩ := h1 t o (parts.partsL ts ++ rest) (by omega) hd i x hx
        exact ⟨l, by rw [List.getElem?_append_left (by rw [hal]; exact hi)]; exact g1, g2, g3⟩
      · rw [List.getElem?_append_right (by rw [parts_len]; exact hi), parts_len] at hx
        have hd2 : L.drop (o + t.sz) = parts.partsL ts ++ rest := by
          rw [← List.drop_drop, hd, ← parts_len t, List.drop_left]
        obtain ⟨l, g1, g2, g3⟩ := iht (o + t.sz) rest (by omega) hd2 (i - t.sz) x hx
        refine ⟨l, by rw [List.getElem?_append_right (by omega), hal]; exact g1, g2, fun m c hm => ?_⟩
        obtain ⟨j, k1, k2, k3⟩ := g3 m c hm
        exact ⟨j, k1, by omega, k3⟩

theorem args_of {s : T} {i : Nat} {x : T} (h : (parts s)[i]? = some x) : ∃ l, (argsAt s 0)[i]? = some l ∧ l.length = x.args.length ∧ ∀ (m : Nat) (c : T), x.args[m]? = some c → ∃ j : Nat, l[m]? = some (j : Int) ∧ j < i ∧ (parts s)[j]? = some c := by
  obtain ⟨l, h1, h2, h3⟩ := (args_mean (parts s) _).1 s 0 [] (Nat.le_refl _) (by simp) i x h
  exact ⟨l, h1, h2, fun m c hm => by
    obtain ⟨j, g1, g2, g3⟩ := h3 m c hm
    exact ⟨j, g1, by omega, g3⟩⟩

end Go.Proofs.Ythlcghimjfgedaa
