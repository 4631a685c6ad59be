/- Lists of lists of numbers, of the call's own; the numbers of each part's arguments, as the document tells them. -/
import Derived.Test.YthlcghimjfgedaaApps
namespace Go.Proofs.Ythlcghimjfgedaa
open Go.RowKit

/-- The numbers that the arguments bear, if the first part bears o. -/
def numsL : Nat → List T → List Int
  | _, [] => []
  | o, t :: ts => (((o + t.sz : Nat) : Int) - 1) :: numsL (o + t.sz) ts
/-- For each part, behind those that stand in it, the numbers of its arguments. -/
def argsAt : T → Nat → List (List Int)
  | ⟨_, _, args⟩, o => aL args o ++ [numsL o args]
  where
  aL : List T → Nat → List (List Int)
    | [], _ => []
    | t :: ts, o => argsAt t o ++ aL ts (o + t.sz)
theorem argsAt_eq (t : T) (o : Nat) : argsAt t o = argsAt.aL t.args o ++ [numsL o t.args] := by cases t; rfl
theorem aL_cons (t : T) (ts : List T) (o : Nat) : argsAt.aL (t :: ts) o = argsAt t o ++ argsAt.aL ts (o + t.sz) := rfl
theorem aL_append (a b : List T) : ∀ o, argsAt.aL (a ++ b) o = argsAt.aL a o ++ argsAt.aL b (o + T.sz.szL a) := by
  induction a with
  | nil => intro o; rw [T.szL_nil]; rfl
  | cons t ts ih => intro o; rw [List.cons_append, aL_cons, aL_cons, ih, T.szL_cons, List.append_assoc]; rw [show o + t.sz + T.sz.szL ts = o + (t.sz + T.sz.szL ts) by omega]
theorem numsL_append (a b : List T) : ∀ o, numsL o (a ++ b) = numsL o a ++ numsL (o + T.sz.szL a) b := by
  induction a with
  | nil => intro o; rw [T.szL_nil]; rfl
  | cons t ts ih => intro o; rw [List.cons_append, numsL, numsL, ih, T.szL_cons, List.cons_append]; rw [show o + t.sz + T.sz.szL ts = o + (t.sz + T.sz.szL ts) by omega]
theorem numsL_length (ts : List T) : ∀ o, (numsL o ts).length = ts.length := by
  induction ts with
  | nil => intro o; rfl
  | cons t ts ih => intro o; rw [numsL, List.length_cons, ih]; rfl
theorem numsL_shift (m : Nat) (ts : List T) : ∀ o, (numsL o ts).map (· + (m : Int)) = numsL (o + m) ts := by
  induction ts with
  | nil => intro o; rfl
  | cons t ts ih =>
    intro o
    rw [numsL, numsL, List.map_cons, ih]
    rw [show o + t.sz + m = o + m + t.sz by omega]
    congr 1
    omega
theorem args_shift (m : Nat) : ∀ (n : Nat), (∀ (t : T) (o : Nat), t.sz ≤ n → (argsAt t o).map (fun l => l.map (· + (m : Int))) = argsAt t (o + m)) ∧ (∀ (ts : List T) (o : Nat), T.sz.szL ts ≤ n → (argsAt.aL ts o).map (fun l => l.map (· + (m : Int))) = argsAt.aL ts (o + m)) := by
  intro n
  induction n with
  | zero =>
    refine ⟨fun t o h => by have := t.sz_pos; omega, fun ts o h => ?_⟩
    cases ts with
    | nil => rfl
    | cons t ts => have := t.sz_pos; rw [T.szL_cons] at h; omega
  | succ n ih =>
    have h1 : ∀ (t : T) (o : Nat), t.sz ≤ n + 1 → (argsAt t o).map (fun l => l.map (· + (m : Int))) = argsAt t (o + m) := fun t o h => by
      rw [T.sz_eq] at h
      rw [argsAt_eq, argsAt_eq, List.map_append, ih.2 t.args o (by omega), List.map_cons, List.map_nil, numsL_shift]
    refine ⟨h1, fun ts => ?_⟩
    induction ts with
    | nil => intro o _; rfl
    | cons t ts iht =>
      intro o h
      rw [T.szL_cons] at h
      rw [aL_cons, aL_cons, List.map_append, h1 t o (by omega), iht _ (by omega)]
      rw [show o + t.sz + m = o + m + t.sz by omega]
theorem args_length : ∀ (n : Nat), (∀ (t : T) (o : Nat), t.sz ≤ n → (argsAt t o).length = t.sz) ∧ (∀ (ts : List T) (o : Nat), T.sz.szL ts ≤ n → (argsAt.aL ts o).length = T.sz.szL ts) := by
  intro n
  induction n with
  | zero =>
    refine ⟨fun t o h => by have := t.sz_pos; omega, fun ts o h => ?_⟩
    cases ts with
    | nil => rfl
    | cons t ts => have := t.sz_pos; rw [T.szL_cons] at h; omega
  | succ n ih =>
    have h1 : ∀ (t : T) (o : Nat), t.sz ≤ n + 1 → (argsAt t o).length = t.sz := fun t o h => by
      rw [T.sz_eq] at h ⊢
      rw [argsAt_eq, List.length_append, ih.2 t.args o (by omega)]; simp; omega
    refine ⟨h1, fun ts => ?_⟩
    induction ts with
    | nil => intro o _; rfl
    | cons t ts iht =>
      intro o h
      rw [T.szL_cons] at h ⊢
      rw [aL_cons, List.length_append, h1 t o (by omega), iht _ (by omega)]

/-- Numbers that lie one behind the other in a block of which p holds. -/
def IP (p : Nat → Prop) (w : World) (l : List Int) (a : Option Addr) : Prop := l = [] ∨ ∃ b off, a = some ⟨b, off, none⟩ ∧ p b ∧ ∀ i, i < l.length → w.cell? ⟨b, off + i, none⟩ = some (.int .i64 (l.getD i 0))
theorem IP_mono {p q : Nat → Prop} {w w' : World} {l : List Int} {a : Option Addr} (hs : ∀ k, p k → k < w.heap.size → q k ∧ w'.heap[k]? = w.heap[k]?) (h : IP p w l a) : IP q w' l a := by
  rcases h with h | ⟨b, off, rfl, hp, hc⟩
  · exact Or.inl h
  · by_cases h0 : l = []
    · exact Or.inl h0
    · have hb := lt_of_cell (hc 0 (List.length_pos_iff.2 h0))
      exact Or.inr ⟨b, off, rfl, (hs b hp hb).1, fun i hi => by rw [World.cell?_of_block (w := w) (a := ⟨b, off + i, none⟩) (hs b hp hb).2]; exact hc i hi⟩
theorem IP_ints {p : Nat → Prop} {w : World} {l : List Int} {a : Option Addr} (h : IP p w l a) : Ints w l a := by
  rcases h with h | ⟨b, off, rfl, _, hc⟩
  · exact Or.inl h
  · exact Or.inr ⟨b, off, rfl, hc⟩
theorem OwnI.ip {base : Nat} {w : World} {v : Value} {l : List Int} (h : OwnI base w v l) : ∃ a cap, v = .slice a l.length cap ∧ IP (fun k => v.ownBlock = some k) w l a := by
  have hi := own_ints h
  rcases h.2 with ⟨rfl, h0⟩ | ⟨g, cap, cur, rfl, hb, hg, hc, hm, hs, ht⟩
  · exact ⟨none, 0, by rw [h0], Or.inl (List.length_eq_zero_iff.1 h0)⟩
  · obtain ⟨a', cap', he, hI, _⟩ := hi
    simp only [Value.slice.injEq, true_and] at he
    obtain ⟨rfl, rfl⟩ := he
    refine ⟨_, _, rfl, ?_⟩
    rcases hI with hI | ⟨b, off, he, hcell⟩
    · exact Or.inl hI
    · simp only [Option.some.injEq, Addr.mk.injEq, and_true] at he
      obtain ⟨rfl, rfl⟩ := he
      exact Or.inr ⟨g, 0, rfl, rfl, hcell⟩

/-- A cell a row, and the row's numbers. -/
def RK (p : Nat → Prop) (w : World) : List (List Int) → List Value → Prop
  | [], cs => cs = []
  | l :: ls, cs => ∃ a cap rest, cs = .slice a l.length cap :: rest ∧ IP p w l a ∧ RK p w ls rest
theorem RK_append {p : Nat → Prop} {w : World} {ls ms : List (List Int)} : ∀ {cs ds : List Value}, RK p w ls cs → RK p w ms ds → RK p w (ls ++ ms) (cs ++ ds) := by
  induction ls with
  | nil => intro cs ds h1 h2; rw [show cs = [] from h1]; exact h2
  | cons l ls ih =>
    intro cs ds h1 h2
    obtain ⟨a, cap, rest, rfl, h0, h⟩ := h1
    exact ⟨a, cap, rest ++ ds, rfl, h0, ih h h2⟩
theorem RK_mono {p q : Nat → Prop} {w w' : World} {ls : List (List Int)} (hs : ∀ k, p k → k < w.heap.size → q k ∧ w'.heap[k]? = w.heap[k]?) : ∀ {cs : List Value}, RK p w ls cs → RK q w' ls cs := by
  induction ls with
  | nil => intro cs h; exact h
  | cons l ls ih =>
    intro cs h
    obtain ⟨a, cap, rest, rfl, h0, h⟩ := h
    exact ⟨a, cap, rest, rfl, IP_mono hs h0, ih h⟩
theorem RK_length {p : Nat → Prop} {w : World} {ls : List (List Int)} : ∀ {cs : List Value}, RK p w ls cs → cs.length = ls.length := by
  induction ls with
  | nil => intro cs h; rw [show cs = [] from h]; rfl
  | cons l ls ih =>
    intro cs h
    obtain ⟨a, cap, rest, rfl, h0, h⟩ := h
    rw [List.length_cons, List.length_cons, ih h]
theorem RK_at {p : Nat → Prop} {w : World} {ls : List (List Int)} : ∀ {cs : List Value} {k : Nat} {l : List Int}, RK p w ls cs → ls[k]? = some l → ∃ a cap, cs[k]? = some (.slice a l.length cap) ∧ IP p w l a := by
  induction ls with
  | nil => intro cs k l _ h; simp at h
  | cons m ls ih =>
    intro cs k l h hk
    obtain ⟨a, cap, rest, rfl, h0, h⟩ := h
    cases k with
    | zero => simp at hk; subst hk; exact ⟨a, cap, rfl, h0⟩
    | succ k =>
      obtain ⟨a2, cap2, g1, g2⟩ := ih (k := k) h (by simpa using hk)
      exact ⟨a2, cap2, by simpa using g1, g2⟩
theorem RK_set {p : Nat → Prop} {w : World} {ls : List (List Int)} : ∀ {cs : List Value} {k : Nat} {l : List Int} {a : Option Addr} {cap : Nat}, RK p w ls cs → IP p w l a → RK p w (ls.set k l) (cs.set k (.slice a l.length cap)) := by
  induction ls with
  | nil => intro cs k l a cap h _; rw [show cs = [] from h]; rfl
  | cons m ls ih =>
    intro cs k l a cap h hi
    obtain ⟨a', cap', rest, rfl, h0, h⟩ := h
    cases k with
    | zero => exact ⟨a, cap, rest, rfl, hi, h⟩
    | succ k => exact ⟨a', cap', rest.set k _, rfl, h0, ih h hi⟩

/-- A cell of a row of the call's own, written. -/
theorem own_set {base n g cap k : Nat} {e : TypeId} {w : World} {xs : List Value} (h : w.ownsRow base e 1 (.slice (some ⟨g, 0, none⟩) n cap) n xs) (v : Value) : (w.setCell ⟨g, k, none⟩ v).ownsRow base e 1 (.slice (some ⟨g, 0, none⟩) n cap) n (xs.set k v) := by
  have hl := h.1
  rcases h.2 with ⟨h', _⟩ | ⟨g', cap', cur, he, hb, hg, hc, hm, hs, ht⟩
  · simp at h'
  simp only [Value.slice.injEq, Option.some.injEq, Addr.mk.injEq, and_true, true_and] at he
  obtain ⟨rfl, rfl⟩ := he
  have hgl : g < w.heap.size := by
    rcases Nat.lt_or_ge g w.heap.size with h | h
    · exact h
    · rw [Array.getElem?_eq_none h] at hg; cases hg
  refine ⟨by rw [List.length_set]; exact hl, Or.inr ⟨g, cap, cur.setIfInBounds k v, rfl, hb, ?_, hc, hm, by simp [hs], ?_⟩⟩
  · simp [World.setCell, Array.getElem?_modify, hg]
  · rw [Array.toList_setIfInBounds, ← ht, List.take_set]

/-- A list of rows of the call's own, the rows' numbers in blocks of which p holds. -/
def RowsI (base : Nat) (p : Nat → Prop) (w : World) (v : Value) (rows : List (List Int)) : Prop := ∃ xs, w.ownsRow base 22 1 v rows.length xs ∧ RK p w rows xs

end Go.Proofs.Ythlcghimjfgedaa
