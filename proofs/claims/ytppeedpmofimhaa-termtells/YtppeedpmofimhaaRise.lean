/- Rising numbers, each once: whichever way they are made, they are the same. No word of the program here. -/
import Derived.Lib.SlicesCompact
namespace Go.Proofs.Ytppeedpmofimhaa

/-- Rising numbers with the same members are the same. -/
theorem rising_ext : ∀ {a b : List Int}, a.Pairwise (· < ·) → b.Pairwise (· < ·) → (∀ x, x ∈ a ↔ x ∈ b) → a = b := by
  intro a
  induction a with
  | nil =>
    intro b _ _ h
    cases b with
    | nil => rfl
    | cons y ys => have := (h y).2 List.mem_cons_self; cases this
  | cons x xs ih =>
    intro b ha hb h
    cases b with
    | nil => have := (h x).1 List.mem_cons_self; cases this
    | cons y ys =>
      have ha := List.pairwise_cons.1 ha
      have hb := List.pairwise_cons.1 hb
      have hxy : x = y := by
        rcases List.mem_cons.1 ((h x).1 List.mem_cons_self) with e | e
        · exact e
        · rcases List.mem_cons.1 ((h y).2 List.mem_cons_self) with e2 | e2
          · exact e2.symm
          · have := ha.1 y e2; have := hb.1 x e; omega
      subst hxy
      rw [ih ha.2 hb.2 (fun z => ?_)]
      constructor
      · intro hz
        rcases List.mem_cons.1 ((h z).1 (List.mem_cons_of_mem _ hz)) with e | e
        · have := ha.1 z hz; omega
        · exact e
      · intro hz
        rcases List.mem_cons.1 ((h z).2 (List.mem_cons_of_mem _ hz)) with e | e
        · have := hb.1 z hz; omega
        · exact e

/-- Where a number goes, asked from the end. -/
def spot (x : Int) (out : List Int) : Nat → Nat
  | 0 => 0
  | n + 1 => if out.getD n 0 > x then spot x out n else n + 1
theorem spot_le (x : Int) (out : List Int) : ∀ n, spot x out n ≤ n := by
  intro n
  induction n with
  | zero => exact Nat.le_refl _
  | succ n ih => rw [spot]; split <;> omega
theorem spot_above (x : Int) (out : List Int) : ∀ n j, spot x out n ≤ j → j < n → x < out.getD j 0 := by
  intro n
  induction n with
  | zero => intro j _ h; omega
  | succ n ih =>
    intro j h1 h2
    rw [spot] at h1
    split at h1
    · rcases Nat.lt_or_ge j n with h | h
      · exact ih j h1 h
      · have : j = n := by omega
        subst this; assumption
    · omega
theorem spot_below (x : Int) (out : List Int) : ∀ n, 0 < spot x out n → out.getD (spot x out n - 1) 0 ≤ x := by
  intro n
  induction n with
  | zero => intro h; exact absurd h (Nat.lt_irrefl _)
  | succ n ih =>
    intro h
    rw [spot] at h ⊢
    split at h
    · rw [if_pos (by assumption)]; exact ih h
    · rw [if_neg (by assumption)]
      show out.getD n 0 ≤ x
      omega

/-- A number put among rising ones. -/
def rise1 (out : List Int) (x : Int) : List Int := out.take (spot x out out.length) ++ x :: out.drop (spot x out out.length)
theorem rise1_length (out : List Int) (x : Int) : (rise1 out x).length = out.length + 1 := by
  have := spot_le x out out.length
  rw [rise1, List.length_append, List.length_cons, List.length_take, List.length_drop]; omega
theorem rise1_mem {out : List Int} {x y : Int} : y ∈ rise1 out x ↔ y = x ∨ y ∈ out := by
  rw [rise1, List.mem_append, List.mem_cons]
  have h : y ∈ out ↔ y ∈ out.take (spot x out out.length) ∨ y ∈ out.drop (spot x out out.length) := by
    rw [← List.mem_append, List.take_append_drop]
  rw [h]
  constructor
  · rintro (h | h | h)
    · exact Or.inr (Or.inl h)
    · exact Or.inl h
    · exact Or.inr (Or.inr h)
  · rintro (h | h | h)
    · exact Or.inr (Or.inl h)
    · exact Or.inl h
    · exact Or.inr (Or.inr h)
theorem rise1_up {out : List Int} {x : Int} (h : out.Pairwise (· < ·)) (hx : x ∉ out) : (rise1 out x).Pairwise (· < ·) := by
  have hle := spot_le x out out.length
  have hg : ∀ j (hj : j < out.length), out.getD j 0 = out[j] := fun j hj => by rw [List.getD_eq_getElem?_getD, List.getElem?_eq_getElem hj]; rfl
  have hlo : ∀ a, a ∈ out.take (spot x out out.length) → a < x := fun a ha => by
    obtain ⟨j, hj, rfl⟩ := List.mem_iff_getElem.1 ha
    have hj2 : j < spot x out out.length := by rw [List.length_take] at hj; omega
    rw [List.getElem_take]
    have hb := spot_below x out out.length (by omega)
    rw [hg _ (by omega)] at hb
    have hne : out[j]'(by omega) ≠ x := fun e => hx (e ▸ List.getElem_mem _)
    rcases Nat.lt_or_ge j (spot x out out.length - 1) with h1 | h1
    · have := List.pairwise_iff_getElem.1 h j (spot x out out.length - 1) (by omega) (by omega) h1
      omega
    · have : j = spot x out out.length - 1 := by omega
      subst this; omega
  have hhi : ∀ b, b ∈ out.drop (spot x out out.length) → x < b := fun b hb => by
    obtain ⟨j, hj, rfl⟩ := List.mem_iff_getElem.1 hb
    rw [List.length_drop] at hj
    rw [List.getElem_drop, ← hg _ (by omega)]
    exact spot_above x out out.length _ (by omega) (by omega)
  rw [rise1, List.pairwise_append, List.pairwise_cons]
  refine ⟨h.sublist (List.take_sublist _ _), ⟨hhi, h.sublist (List.drop_sublist _ _)⟩, fun a ha b hb => ?_⟩
  rcases List.mem_cons.1 hb with rfl | hb
  · exact hlo a ha
  · have := hlo a ha; have := hhi b hb; omega

/-- Numbers, put in one by one. -/
def rising (l : List Int) : List Int := l.foldl rise1 []
theorem rising_step {l : List Int} {k : Nat} {x : Int} (h : l[k]? = some x) : rising (l.take (k + 1)) = rise1 (rising (l.take k)) x := by
  rw [List.take_add_one, h, rising, List.foldl_append]; rfl
theorem rising_length (l : List Int) : (rising l).length = l.length := by
  have h : ∀ (l out : List Int), (l.foldl rise1 out).length = out.length + l.length := by
    intro l
    induction l with
    | nil => intro out; rfl
    | cons x l ih => intro out; rw [List.foldl_cons, ih, rise1_length, List.length_cons]; omega
  rw [rising, h, List.length_nil, Nat.zero_add]
theorem rising_facts : ∀ (l out : List Int), out.Pairwise (· < ·) → l.Nodup → (∀ x, x ∈ l → x ∉ out) → (l.foldl rise1 out).Pairwise (· < ·) ∧ ∀ x, x ∈ l.foldl rise1 out ↔ x ∈ out ∨ x ∈ l := by
  intro l
  induction l with
  | nil => intro out h _ _; exact ⟨h, fun x => by simp⟩
  | cons y l ih =>
    intro out h hn hd
    have hn := List.nodup_cons.1 hn
    obtain ⟨h1, h2⟩ := ih (rise1 out y) (rise1_up h (hd y List.mem_cons_self)) hn.2 (fun x hx => by
      rw [rise1_mem]
      rintro (rfl | e)
      · exact hn.1 hx
      · exact hd x (List.mem_cons_of_mem _ hx) e)
    refine ⟨h1, fun x => ?_⟩
    rw [List.foldl_cons, h2, rise1_mem, List.mem_cons]
    constructor
    · rintro ((h | h) | h)
      · exact Or.inr (Or.inl h)
      · exact Or.inl h
      · exact Or.inr (Or.inr h)
    · rintro (h | h | h)
      · exact Or.inl (Or.inr h)
      · exact Or.inl (Or.inl h)
      · exact Or.inr h

/-- What is sorted, and each kept once, rises, and has the same members. -/
theorem compact_facts (zs : List Int) (h : zs.Pairwise (· ≤ ·)) : (Lib.compact zs).Pairwise (· < ·) ∧ ∀ x, x ∈ Lib.compact zs ↔ x ∈ zs := by
  have hg : ∀ j (hj : j < zs.length), zs.toArray[j]! = zs[j] := fun j hj => by
    rw [getElem!_pos _ _ (by simpa using hj)]; simp
  have key : ∀ m, m ≤ zs.length → (Lib.compactUpTo zs.toArray m).Pairwise (· < ·) ∧ ∀ x, x ∈ Lib.compactUpTo zs.toArray m ↔ x ∈ zs.take m := by
    intro m
    induction m with
    | zero => intro _; exact ⟨by rw [Lib.compactUpTo]; simp, fun x => by rw [Lib.compactUpTo]; simp⟩
    | succ m ih =>
      intro hm
      obtain ⟨h1, h2⟩ := ih (by omega)
      have ht : zs.take (m + 1) = zs.take m ++ [zs[m]] := by rw [List.take_add_one, List.getElem?_eq_getElem (by omega)]; rfl
      rw [Lib.compactUpTo_succ, ht]
      have hle : ∀ j (hj : j < m), zs[j] ≤ zs[m - 1] := fun j hj => by
        rcases Nat.lt_or_ge j (m - 1) with h3 | h3
        · exact List.pairwise_iff_getElem.1 h j (m - 1) (by omega) (by omega) h3
        · have : j = m - 1 := by omega
          subst this; exact Int.le_refl _
      by_cases hk : m = 0 ∨ zs.toArray[m]! ≠ zs.toArray[m - 1]!
      · rw [if_pos (by simpa [Lib.keeps] using hk), hg m (by omega)]
        refine ⟨List.pairwise_append.2 ⟨h1, List.pairwise_singleton _ _, fun a ha b hb => ?_⟩, fun x => by rw [List.mem_append, List.mem_append, h2]⟩
        have hb : b = zs[m] := by simpa using hb
        subst hb
        obtain ⟨j, hj, rfl⟩ := List.mem_iff_getElem.1 ((h2 a).1 ha)
        rw [List.length_take] at hj
        rw [List.getElem_take]
        rcases hk with hk | hk
        · omega
        · rw [hg m (by omega), hg (m - 1) (by omega)] at hk
          have h4 := hle j (by omega)
          have h5 := List.pairwise_iff_getElem.1 h (m - 1) m (by omega) (by omega) (by omega)
          omega
      · have hm0 : 0 < m := by omega
        have he : zs[m] = zs[m - 1] := by
          rw [← hg m (by omega), ← hg (m - 1) (by omega)]
          rcases Classical.em (zs.toArray[m]! = zs.toArray[m - 1]!) with e | e
          · exact e
          · exact absurd (Or.inr e) hk
        rw [if_neg (by simpa [Lib.keeps] using hk), List.append_nil]
        refine ⟨h1, fun x => ?_⟩
        rw [h2, List.mem_append, List.mem_singleton]
        constructor
        · exact Or.inl
        · rintro (h | rfl)
          · exact h
          · rw [he]
            refine List.mem_iff_getElem.2 ⟨m - 1, by rw [List.length_take]; omega, by rw [List.getElem_take]⟩
  obtain ⟨h1, h2⟩ := key zs.length (Nat.le_refl _)
  exact ⟨h1, fun x => by rw [Lib.compact, h2, List.take_length]⟩

theorem sort_facts (zs : List Int) : (zs.mergeSort fun x y => decide (x ≤ y)).Pairwise (· ≤ ·) ∧ ∀ x, x ∈ (zs.mergeSort fun x y => decide (x ≤ y)) ↔ x ∈ zs := by
  refine ⟨(List.pairwise_mergeSort (le := fun x y : Int => decide (x ≤ y)) (fun a b c h1 h2 => by simp only [decide_eq_true_eq] at *; omega) (fun a b => by simp only [Bool.or_eq_true, decide_eq_true_eq]; omega) zs).imp (fun h => by simpa using h), fun x => List.mem_mergeSort⟩

end Go.Proofs.Ytppeedpmofimhaa
