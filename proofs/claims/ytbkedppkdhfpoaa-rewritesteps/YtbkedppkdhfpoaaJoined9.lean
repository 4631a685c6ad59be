/- Lists of lists of numbers, of the call's own; the numbers of each part's arguments, as the document tells them. The document's Rising. The document's ArgsOf. The document's ArgsOf: the walk. What the numbers of the arguments mean. No word of the program's memory here. -/
import Derived.Deep.CutBlock
import Derived.Deep.DeepCutAuto
import Derived.Deep.RegionLaw
import Derived.Test.YtbkedppkdhfpoaaJoined8
namespace Go.Proofs.Ytbkedppkdhfpoaa
open Go.RowKit

/-- The numbers that the arguments bear, if the first part bears o. -/
def numsL : Nat → List T → List Int
  | _, [] => []
  | o, t :: ts => (((o + t.sz : Nat) : Int) - 1) :: numsL (o + t.sz) ts
/-- For each part, behind those that stand in it, the numbers of its arguments. -/
def argsAt : T → Nat → List (List Int)
  | ⟨_, _, args⟩, o => aL args o ++ [numsL o args]
  where
  aL : List T → Nat → List (List Int)
    | [], _ => []
    | t :: ts, o => argsAt t o ++ aL ts (o + t.sz)
theorem argsAt_eq (t : T) (o : Nat) : argsAt t o = argsAt.aL t.args o ++ [numsL o t.args] := by cases t; rfl
theorem aL_cons (t : T) (ts : List T) (o : Nat) : argsAt.aL (t :: ts) o = argsAt t o ++ argsAt.aL ts (o + t.sz) := rfl
theorem aL_append (a b : List T) : ∀ o, argsAt.aL (a ++ b) o = argsAt.aL a o ++ argsAt.aL b (o + T.sz.szL a) := by
  induction a with
  | nil => intro o; rw [T.szL_nil]; rfl
  | cons t ts ih => intro o; rw [List.cons_append, aL_cons, aL_cons, ih, T.szL_cons, List.append_assoc]; rw [show o + t.sz + T.sz.szL ts = o + (t.sz + T.sz.szL ts) by omega]
theorem numsL_append (a b : List T) : ∀ o, numsL o (a ++ b) = numsL o a ++ numsL (o + T.sz.szL a) b := by
  induction a with
  | nil => intro o; rw [T.szL_nil]; rfl
  | cons t ts ih => intro o; rw [List.cons_append, numsL, numsL, ih, T.szL_cons, List.cons_append]; rw [show o + t.sz + T.sz.szL ts = o + (t.sz + T.sz.szL ts) by omega]
theorem numsL_length (ts : List T) : ∀ o, (numsL o ts).length = ts.length := by
  induction ts with
  | nil => intro o; rfl
  | cons t ts ih => intro o; rw [numsL, List.length_cons, ih]; rfl
theorem numsL_shift (m : Nat) (ts : List T) : ∀ o, (numsL o ts).map (· + (m : Int)) = numsL (o + m) ts := by
  induction ts with
  | nil => intro o; rfl
  | cons t ts ih =>
    intro o
    rw [numsL, numsL, List.map_cons, ih]
    rw [show o + t.sz + m = o + m + t.sz by omega]
    congr 1
    omega
theorem args_shift (m : Nat) : ∀ (n : Nat), (∀ (t : T) (o : Nat), t.sz ≤ n → (argsAt t o).map (fun l => l.map (· + (m : Int))) = argsAt t (o + m)) ∧ (∀ (ts : List T) (o : Nat), T.sz.szL ts ≤ n → (argsAt.aL ts o).map (fun l => l.map (· + (m : Int))) = argsAt.aL ts (o + m)) := by
  intro n
  induction n with
  | zero =>
    refine ⟨fun t o h => by have := t.sz_pos; omega, fun ts o h => ?_⟩
    cases ts with
    | nil => rfl
    | cons t ts => have := t.sz_pos; rw [T.szL_cons] at h; omega
  | succ n ih =>
    have h1 : ∀ (t : T) (o : Nat), t.sz ≤ n + 1 → (argsAt t o).map (fun l => l.map (· + (m : Int))) = argsAt t (o + m) := fun t o h => by
      rw [T.sz_eq] at h
      rw [argsAt_eq, argsAt_eq, List.map_append, ih.2 t.args o (by omega), List.map_cons, List.map_nil, numsL_shift]
    refine ⟨h1, fun ts => ?_⟩
    induction ts with
    | nil => intro o _; rfl
    | cons t ts iht =>
      intro o h
      rw [T.szL_cons] at h
      rw [aL_cons, aL_cons, List.map_append, h1 t o (by omega), iht _ (by omega)]
      rw [show o + t.sz + m = o + m + t.sz by omega]
theorem args_length : ∀ (n : Nat), (∀ (t : T) (o : Nat), t.sz ≤ n → (argsAt t o).length = t.sz) ∧ (∀ (ts : List T) (o : Nat), T.sz.szL ts ≤ n → (argsAt.aL ts o).length = T.sz.szL ts) := by
  intro n
  induction n with
  | zero =>
    refine ⟨fun t o h => by have := t.sz_pos; omega, fun ts o h => ?_⟩
    cases ts with
    | nil => rfl
    | cons t ts => have := t.sz_pos; rw [T.szL_cons] at h; omega
  | succ n ih =>
    have h1 : ∀ (t : T) (o : Nat), t.sz ≤ n + 1 → (argsAt t o).length = t.sz := fun t o h => by
      rw [T.sz_eq] at h ⊢
      rw [argsAt_eq, List.length_append, ih.2 t.args o (by omega)]; simp; omega
    refine ⟨h1, fun ts => ?_⟩
    induction ts with
    | nil => intro o _; rfl
    | cons t ts iht =>
      intro o h
      rw [T.szL_cons] at h ⊢
      rw [aL_cons, List.length_append, h1 t o (by omega), iht _ (by omega)]

/-- Numbers that lie one behind the other in a block of which p holds. -/
def IP (p : Nat → Prop) (w : World) (l : List Int) (a : Option Addr) : Prop := l = [] ∨ ∃ b off, a = some ⟨b, off, none⟩ ∧ p b ∧ ∀ i, i < l.length → w.cell? ⟨b, off + i, none⟩ = some (.int .i64 (l.getD i 0))
theorem IP_mono {p q : Nat → Prop} {w w' : World} {l : List Int} {a : Option Addr} (hs : ∀ k, p k → k < w.heap.size → q k ∧ w'.heap[k]? = w.heap[k]?) (h : IP p w l a) : IP q w' l a := by
  rcases h with h | ⟨b, off, rfl, hp, hc⟩
  · exact Or.inl h
  · by_cases h0 : l = []
    · exact Or.inl h0
    · have hb := lt_of_cell (hc 0 (List.length_pos_iff.2 h0))
      exact Or.inr ⟨b, off, rfl, (hs b hp hb).1, fun i hi => by rw [World.cell?_of_block (w := w) (a := ⟨b, off + i, none⟩) (hs b hp hb).2]; exact hc i hi⟩
theorem IP_ints {p : Nat → Prop} {w : World} {l : List Int} {a : Option Addr} (h : IP p w l a) : Ints w l a := by
  rcases h with h | ⟨b, off, rfl, _, hc⟩
  · exact Or.inl h
  · exact Or.inr ⟨b, off, rfl, hc⟩
theorem OwnI.ip {base : Nat} {w : World} {v : Value} {l : List Int} (h : OwnI base w v l) : ∃ a cap, v = .slice a l.length cap ∧ IP (fun k => v.ownBlock = some k) w l a := by
  have hi := own_ints h
  rcases h.2 with ⟨rfl, h0⟩ | ⟨g, cap, cur, rfl, hb, hg, hc, hm, hs, ht⟩
  · exact ⟨none, 0, by rw [h0], Or.inl (List.length_eq_zero_iff.1 h0)⟩
  · obtain ⟨a', cap', he, hI, _⟩ := hi
    simp only [Value.slice.injEq, true_and] at he
    obtain ⟨rfl, rfl⟩ := he
    refine ⟨_, _, rfl, ?_⟩
    rcases hI with hI | ⟨b, off, he, hcell⟩
    · exact Or.inl hI
    · simp only [Option.some.injEq, Addr.mk.injEq, and_true] at he
      obtain ⟨rfl, rfl⟩ := he
      exact Or.inr ⟨g, 0, rfl, rfl, hcell⟩

/-- A cell a row, and the row's numbers. -/
def RK (p : Nat → Prop) (w : World) : List (List Int) → List Value → Prop
  | [], cs => cs = []
  | l :: ls, cs => ∃ a cap rest, cs = .slice a l.length cap :: rest ∧ IP p w l a ∧ RK p w ls rest
theorem RK_append {p : Nat → Prop} {w : World} {ls ms : List (List Int)} : ∀ {cs ds : List Value}, RK p w ls cs → RK p w ms ds → RK p w (ls ++ ms) (cs ++ ds) := by
  induction ls with
  | nil => intro cs ds h1 h2; rw [show cs = [] from h1]; exact h2
  | cons l ls ih =>
    intro cs ds h1 h2
    obtain ⟨a, cap, rest, rfl, h0, h⟩ := h1
    exact ⟨a, cap, rest ++ ds, rfl, h0, ih h h2⟩
theorem RK_mono {p q : Nat → Prop} {w w' : World} {ls : List (List Int)} (hs : ∀ k, p k → k < w.heap.size → q k ∧ w'.heap[k]? = w.heap[k]?) : ∀ {cs : List Value}, RK p w ls cs → RK q w' ls cs := by
  induction ls with
  | nil => intro cs h; exact h
  | cons l ls ih =>
    intro cs h
    obtain ⟨a, cap, rest, rfl, h0, h⟩ := h
    exact ⟨a, cap, rest, rfl, IP_mono hs h0, ih h⟩
theorem RK_length {p : Nat → Prop} {w : World} {ls : List (List Int)} : ∀ {cs : List Value}, RK p w ls cs → cs.length = ls.length := by
  induction ls with
  | nil => intro cs h; rw [show cs = [] from h]; rfl
  | cons l ls ih =>
    intro cs h
    obtain ⟨a, cap, rest, rfl, h0, h⟩ := h
    rw [List.length_cons, List.length_cons, ih h]
theorem RK_at {p : Nat → Prop} {w : World} {ls : List (List Int)} : ∀ {cs : List Value} {k : Nat} {l : List Int}, RK p w ls cs → ls[k]? = some l → ∃ a cap, cs[k]? = some (.slice a l.length cap) ∧ IP p w l a := by
  induction ls with
  | nil => intro cs k l _ h; simp at h
  | cons m ls ih =>
    intro cs k l h hk
    obtain ⟨a, cap, rest, rfl, h0, h⟩ := h
    cases k with
    | zero => simp at hk; subst hk; exact ⟨a, cap, rfl, h0⟩
    | succ k =>
      obtain ⟨a2, cap2, g1, g2⟩ := ih (k := k) h (by simpa using hk)
      exact ⟨a2, cap2, by simpa using g1, g2⟩
theorem RK_set {p : Nat → Prop} {w : World} {ls : List (List Int)} : ∀ {cs : List Value} {k : Nat} {l : List Int} {a : Option Addr} {cap : Nat}, RK p w ls cs → IP p w l a → RK p w (ls.set k l) (cs.set k (.slice a l.length cap)) := by
  induction ls with
  | nil => intro cs k l a cap h _; rw [show cs = [] from h]; rfl
  | cons m ls ih =>
    intro cs k l a cap h hi
    obtain ⟨a', cap', rest, rfl, h0, h⟩ := h
    cases k with
    | zero => exact ⟨a, cap, rest, rfl, hi, h⟩
    | succ k => exact ⟨a', cap', rest.set k _, rfl, h0, ih h hi⟩

/-- A cell of a row of the call's own, written. -/
theorem own_set {base n g cap k : Nat} {e : TypeId} {w : World} {xs : List Value} (h : w.ownsRow base e 1 (.slice (some ⟨g, 0, none⟩) n cap) n xs) (v : Value) : (w.setCell ⟨g, k, none⟩ v).ownsRow base e 1 (.slice (some ⟨g, 0, none⟩) n cap) n (xs.set k v) := by
  have hl := h.1
  rcases h.2 with ⟨h', _⟩ | ⟨g', cap', cur, he, hb, hg, hc, hm, hs, ht⟩
  · simp at h'
  simp only [Value.slice.injEq, Option.some.injEq, Addr.mk.injEq, and_true, true_and] at he
  obtain ⟨rfl, rfl⟩ := he
  have hgl : g < w.heap.size := by
    rcases Nat.lt_or_ge g w.heap.size with h | h
    · exact h
    · rw [Array.getElem?_eq_none h] at hg; cases hg
  refine ⟨by rw [List.length_set]; exact hl, Or.inr ⟨g, cap, cur.setIfInBounds k v, rfl, hb, ?_, hc, hm, by simp [hs], ?_⟩⟩
  · simp [World.setCell, Array.getElem?_modify, hg]
  · rw [Array.toList_setIfInBounds, ← ht, List.take_set]

/-- A list of rows of the call's own, the rows' numbers in blocks of which p holds. -/
def RowsI (base : Nat) (p : Nat → Prop) (w : World) (v : Value) (rows : List (List Int)) : Prop := ∃ xs, w.ownsRow base 22 1 v rows.length xs ∧ RK p w rows xs

end Go.Proofs.Ytbkedppkdhfpoaa

namespace Go.Proofs.Ytbkedppkdhfpoaa
open Go.RowKit

theorem OwnI.same {base : Nat} {w w' : World} {v : Value} {zs : List Int} (h : OwnI base w v zs) (hs : ∀ g, v.ownBlock = some g → w'.heap[g]? = w.heap[g]?) : OwnI base w' v zs := own_same h hs
theorem OwnI.below {base : Nat} {w w' : World} {v : Value} {zs : List Int} (h : OwnI base w v zs) (hb : Below w.heap.size w w') : OwnI base w' v zs := own_same h (fun g hg => hb.block g (own_lt h g hg).2)
theorem OwnI.grown {base : Nat} {w w' : World} {v : Value} {r : Option Nat} {zs : List Int} (h : OwnI base w v zs) (hg : w.grownBy w' r) (hne : v.ownBlock = none ∨ v.ownBlock ≠ r) : OwnI base w' v zs := own_same h (fun g hg' => hg.block g (own_lt h g hg').2 (fun e => by
  rcases hne with h1 | h1
  · rw [h1] at hg'; cases hg'
  · exact h1 (hg'.trans e)))
theorem OwnI.new {base : Nat} {w : World} {n : Nat} (hn : n = w.heap.size) (hb : base ≤ w.heap.size) : OwnI base (w.alloc (.cells #[] 3)) (.slice (some ⟨n, 0, none⟩) 0 0) [] := by
  subst hn
  exact World.ownsRow_lit (base := base) (e := 3) (size := 1) w #[] 0 hb (by decide) (by simp)

theorem OwnI.newAt {base : Nat} {w : World} {n : Nat} (h : w.heap[n]? = some (.cells #[] 3)) (hb : base ≤ n) : OwnI base w (.slice (some ⟨n, 0, none⟩) 0 0) [] :=
  ⟨by simp, Or.inr ⟨n, 0, #[], rfl, hb, h, by simp, by decide, by simp, by simp⟩⟩
theorem new_s1 (w : World) (o : Obj) : (w.alloc o).drew.heap[w.heap.size]? = some o := heap_alloc_new w o
theorem new_s2 (w : World) (o o2 : Obj) : ((w.alloc o).alloc o2).drew.heap[w.heap.size]? = some o := (Below.heap_alloc (w.alloc o) o2 w.heap.size (by simp)).trans (heap_alloc_new w o)
theorem new_s3 (w : World) (o o2 : Obj) : ((w.alloc o2).alloc o).drew.heap[w.heap.size + 1]? = some o := by
  have h := heap_alloc_new (w.alloc o2) o
  rw [World.size_alloc] at h
  exact h
theorem cell_s2 (w : World) (v : Value) (e : TypeId) (o2 : Obj) : ((w.alloc (.cells #[v] e)).alloc o2).drew.cell? ⟨w.heap.size, 0, none⟩ = some v := by
  show ((w.alloc (.cells #[v] e)).alloc o2).cell? ⟨w.heap.size, 0, none⟩ = some v
  rw [cell_alloc_lt (by simp)]; exact cell_new 0 rfl
theorem cell_s3 (w : World) (v : Value) (e : TypeId) (o2 : Obj) : ((w.alloc o2).alloc (.cells #[v] e)).drew.cell? ⟨w.heap.size + 1, 0, none⟩ = some v := by
  show ((w.alloc o2).alloc (.cells #[v] e)).cell? ⟨w.heap.size + 1, 0, none⟩ = some v
  exact cell_new 0 (by simp)
theorem low_any {base : Nat} {w : World} {v : Value} {out : List Int} (hown : OwnI base w v out) (s : Nat) (hs : s ≤ out.length) :
    ∃ xa n c, (∀ w', (Instr.slice 22 v (some (.int .i64 (s : Int))) none none).run Try.prog w' = .ok (.slice xa n c) w') ∧ (∀ w' : World, (∀ g, v.ownBlock = some g → w'.heap[g]? = w.heap[g]?) → SrcI w' (.slice xa n c) (out.drop s)) := by
  have ht : Try.prog.underlying 22 = some (.slice (Try.prog.elem 22)) := by kernel_rfl
  have hsz : ∀ w : World, (sizeOf (Try.prog.elem 22)).run Try.prog w = .ok 1 w := fun w => by kernel_rfl
  have hints := own_ints hown
  rcases hown.2 with ⟨rfl, h0⟩ | ⟨g, cap, cur, rfl, hb, hg, hc, hm, hsz', htk⟩
  · obtain rfl : out = [] := List.length_eq_zero_iff.1 h0
    obtain rfl : s = 0 := by simpa using hs
    refine ⟨none, 0, 0, fun w' => ?_, fun w' _ => Or.inl ⟨rfl, rfl⟩⟩
    rw [run_slice_l (P := Try.prog) w' 22 none 0 0 ht .i64 ((0 : Nat) : Int) (by omega) (by omega), hsz]
    simp [sliced]
  · refine ⟨some ⟨g, if cap = s then 0 else s, none⟩, (out.drop s).length, cap - s, fun w' => ?_, fun w' hw' => Or.inr ⟨g, _, _, rfl, fun j hj => ?_⟩⟩
    · rw [run_slice_l (P := Try.prog) w' 22 (some ⟨g, 0, none⟩) out.length cap ht .i64 (s : Int) (by omega) (by omega), hsz]
      by_cases h1 : cap = s
      · simp [sliced, h1]
      · simp [sliced, h1, Addr.add]; omega
    · rw [List.length_drop] at hj
      have h1 : ¬ cap = s := by omega
      obtain ⟨a', cap', he, hI, _⟩ := hints
      simp only [Value.slice.injEq, true_and] at he
      obtain ⟨rfl, rfl⟩ := he
      obtain ⟨b, off, he, hcell⟩ := Ints_some hI (by omega)
      simp only [Option.some.injEq, Addr.mk.injEq, and_true] at he
      obtain ⟨rfl, rfl⟩ := he
      rw [if_neg h1, World.cell?_of_block (w := w) (a := ⟨g, s + j, none⟩) (hw' g rfl)]
      have h2 := hcell (s + j) (by omega)
      rw [Nat.zero_add] at h2
      rw [h2, List.getD_eq_getElem?_getD, List.getD_eq_getElem?_getD, List.getElem?_drop]
theorem high_any {base : Nat} {w : World} {v : Value} {out : List Int} (hown : OwnI base w v out) (s : Nat) (hs : s ≤ out.length) :
    ∃ xa n c, (∀ w', (Instr.slice 22 v none (some (.int .i64 (s : Int))) none).run Try.prog w' = .ok (.slice xa n c) w') ∧ (∀ w' : World, (∀ g, v.ownBlock = some g → w'.heap[g]? = w.heap[g]?) → SrcI w' (.slice xa n c) (out.take s)) := by
  have ht : Try.prog.underlying 22 = some (.slice (Try.prog.elem 22)) := by kernel_rfl
  have hsz : ∀ w : World, (sizeOf (Try.prog.elem 22)).run Try.prog w = .ok 1 w := fun w => by kernel_rfl
  have hints := own_ints hown
  rcases hown.2 with ⟨rfl, h0⟩ | ⟨g, cap, cur, rfl, hb, hg, hc, hm, hsz', htk⟩
  · obtain rfl : out = [] := List.length_eq_zero_iff.1 h0
    obtain rfl : s = 0 := by simpa using hs
    refine ⟨none, 0, 0, fun w' => ?_, fun w' _ => Or.inl ⟨rfl, rfl⟩⟩
    rw [run_slice_h (P := Try.prog) w' 22 none 0 0 ht .i64 ((0 : Nat) : Int) (by omega) (by omega), hsz]
    simp [sliced]
  · refine ⟨some ⟨g, 0, none⟩, (out.take s).length, cap, fun w' => ?_, fun w' hw' => Or.inr ⟨g, 0, _, rfl, fun j hj => ?_⟩⟩
    · rw [run_slice_h (P := Try.prog) w' 22 (some ⟨g, 0, none⟩) out.length cap ht .i64 (s : Int) (by omega) (by omega), hsz]
      have h2 : min s out.length = s := by omega
      simp [sliced, Addr.add, h2]
    · rw [List.length_take] at hj
      obtain ⟨a', cap', he, hI, _⟩ := hints
      simp only [Value.slice.injEq, true_and] at he
      obtain ⟨rfl, rfl⟩ := he
      obtain ⟨b, off, he, hcell⟩ := Ints_some hI (by omega)
      simp only [Option.some.injEq, Addr.mk.injEq, and_true] at he
      obtain ⟨rfl, rfl⟩ := he
      rw [World.cell?_of_block (w := w) (a := ⟨g, 0 + j, none⟩) (hw' g rfl), hcell j (by omega), List.getD_eq_getElem?_getD, List.getD_eq_getElem?_getD, List.getElem?_take_of_lt (by omega)]

theorem src_one {w : World} {n : Nat} {x : Int} (h : w.cell? ⟨n, 0, none⟩ = some (.int .i64 x)) : SrcI w (.slice (some ⟨n, 0, none⟩) 1 1) [x] :=
  Or.inr ⟨n, 0, 1, rfl, fun j hj => by
    obtain rfl : j = 0 := by simpa using hj
    exact h⟩
theorem spot_step {x : Int} {out : List Int} {m : Nat} : (x < out.getD m 0 → spot x out (m + 1) = spot x out m) ∧ (¬ x < out.getD m 0 → spot x out (m + 1) = m + 1) :=
  ⟨fun h => by rw [spot, if_pos h], fun h => by rw [spot, if_neg h]⟩

set_option maxRecDepth 100000 in
set_option maxHeartbeats 2000000 in
theorem rising_any (l : List Int) (a : Option Addr) (cap : Nat) (w : World) (hl : l.length ≤ 1000) (hin : Ints w l a) :
    Calls Try.prog 16 #[.slice a l.length cap] w fun e w' => ∃ v, e = .returned v ∧ OwnI w.heap.size w' v (rising l) ∧ Below w.heap.size w w' := by
  go_enter Try.func16, Try.ntmps16
  go_wp2_with fail
  go_loopw [3, 4] (fun v j wr => ∃ k : Nat, k ≤ l.length ∧ j = .int .i64 k ∧ OwnI w.heap.size wr v (rising (l.take k)) ∧ Below w.heap.size w wr) (fun _ j _ => l.length - (intOf j).toNat)
  case atStart => exact ⟨0, Nat.zero_le _, rfl, ⟨rfl, Or.inl ⟨rfl, rfl⟩⟩, Below.refl _ _⟩
  case round =>
    obtain ⟨k, hk, rfl, hown, hb⟩ := hrel
    by_cases hlt : k < l.length
    · obtain ⟨b, off, rfl, hc⟩ := Ints_some hin (by omega)
      obtain ⟨x, hx⟩ : ∃ x, l[k]? = some x := ⟨l[k], List.getElem?_eq_getElem hlt⟩
      have hcx : wr.cell? ⟨b, off + k, none⟩ = some (.int .i64 x) := by
        have h1 := hc k hlt
        rw [hb.cell (p := ⟨b, off + k, none⟩) (lt_of_cell h1), h1, List.getD_eq_getElem?_getD, hx]; rfl
      obtain ⟨out, hout⟩ : ∃ out, out = rising (l.take k) := ⟨_, rfl⟩
      have holen : out.length = k := by rw [hout, rising_length, List.length_take]; omega
      have Hst : Hid (rising (l.take (k + 1)) = rise1 out x) := by show _ = _; rw [rising_step hx, hout]
      rw [← hout] at hown
      have Hown := hide hown
      have Hb := hide hb
      obtain ⟨va, vc, rfl, hints, hvc⟩ := own_ints hown
      have hzr := hb.size
      have hkI : (k : Int) < l.length := by omega
      have hk0 : (0 : Int) ≤ k := by omega
      have Holen := hide holen
      have hol : out.length ≤ 1000 := by omega
      clear hc hx hout hown hb holen
      go_upto_block 2 with fail
      go_cut [5] (fun at' wi => at' = .int .i64 (spot x out out.length : Nat) ∧ Hid (Below wr.heap.size wr wi))
      case first =>
        go_wp2_with fail
        go_loopw [5] (fun at' wi => ∃ m : Nat, m ≤ out.length ∧ at' = .int .i64 m ∧ Hid (spot x out out.length = spot x out m) ∧ Hid (Below wr.heap.size wr wi)) (fun at' _ => (intOf at').toNat)
        case atStart => exact ⟨out.length, Nat.le_refl _, rfl, rfl, Below.refl _ _⟩
        case round =>
          obtain ⟨m, hm, rfl, HS, HBi⟩ := hrel
          cases m with
          | zero =>
            go_wp2_with fail
            go_quiet (fail)
            go_wp2_with fail
            go_meet
            exact ⟨by rw [HS.out]; rfl, HBi.out.trans ⟨rfl, rfl, rfl, Nat.le_refl _, fun _ _ => rfl⟩⟩
          | succ m =>
            obtain ⟨b2, off2, rfl, hc2⟩ := Ints_some (Ints_below HBi.out hints) (by omega)
            have hy := hc2 m (by omega)
            have hcx2 : wr.cell? ⟨b, off + k, none⟩ = some (.int .i64 x) := by rw [HBi.out.cell (p := ⟨b, off + k, none⟩) (lt_of_cell hcx)]; exact hcx
            have hmI : (m : Int) < out.length := by omega
            have hm0 : (0 : Int) ≤ m := by omega
            have hm1 : m + 1 ≤ 1000 := by omega
            have Hs1 := hide (spot_step (x := x) (out := out) (m := m))
            clear hc2 hints
            generalize out.getD m 0 = y at *
            by_cases hgt : x < y
            · have Hs2 := hide (HS.out.trans (Hs1.out.1 hgt))
              clear Hs1 HS
              go_wp2_with fail
              go_quiet (fail)
              go_wp2_with fail
              go_roundw
              case rel => exact ⟨m, by omega, by go_num, Hs2.out, HBi.out.trans ⟨rfl, rfl, rfl, Nat.le_refl _, fun _ _ => rfl⟩⟩
              case measure => simp [intOf]
            · have Hs2 := hide (HS.out.trans (Hs1.out.2 hgt))
              clear Hs1 HS
              go_wp2_with fail
              go_quiet (fail)
              go_wp2_with fail
              go_meet
              exact ⟨by rw [Hs2.out]; go_num, HBi.out.trans ⟨rfl, rfl, rfl, Nat.le_refl _, fun _ _ => rfl⟩⟩
      case rest =>
        obtain ⟨rfl, HB⟩ := hcut
        have Hownc := hide (Hown.out.below HB.out)
        obtain ⟨s, hs⟩ : ∃ s, s = spot x out out.length := ⟨_, rfl⟩
        have hsle : s ≤ out.length := by rw [hs]; exact spot_le _ _ _
        obtain ⟨U, hU⟩ : ∃ U, U = out.take s := ⟨_, rfl⟩
        obtain ⟨D, hD⟩ : ∃ D, D = out.drop s := ⟨_, rfl⟩
        have Hr1 : Hid (rise1 out x = U ++ [x] ++ D) := by show _ = _; rw [rise1, hU, hD, ← hs]; simp
        have hUl : U.length ≤ 1000 := by rw [hU, List.length_take]; omega
        have hDl : D.length ≤ 1000 := by rw [hD, List.length_drop]; omega
        have hUD : U.length + D.length ≤ 1000 := by rw [hU, hD, List.length_take, List.length_drop]; omega
        rw [← hs]
        obtain ⟨la, ln, lc, hlow, hlsrc⟩ := low_any Hownc.out s hsle
        obtain ⟨ha, hn, hcp, hhigh, hhsrc⟩ := high_any Hownc.out s hsle
        rw [← hD] at hlsrc
        rw [← hU] at hhsrc
        have HLs := hide hlsrc
        have HHs := hide hhsrc
        have hzc := HB.out.size
        have hcxc : wc.cell? ⟨b, off + k, none⟩ = some (.int .i64 x) := by rw [HB.out.cell (p := ⟨b, off + k, none⟩) (lt_of_cell hcx)]; exact hcx
        clear hs hU hD hlsrc hhsrc hcx hints
        go_wp2_with (at_builtin; go_must (refine wpList_append_ints rfl (.tmp 31) (.tmp 34) rfl w.heap.size (.slice (some ⟨wc.heap.size, 0, none⟩) 0 0) [] rfl (OwnI.new rfl (by omega)) (.slice la ln lc) D rfl (HLs.out _ (fun g hg => (below1 wc _).block g (own_lt Hownc.out g hg).2)) (by simp; omega) (by simp; omega) ?_))
        intro v6 w6 hown6 hgr6 hat6
        have hz6 := hgr6.size
        simp at hz6
        have Hown6 := hide hown6
        have Hb6 : Hid (Below wc.heap.size wc w6) := Below.grown (below1 wc _) hgr6 (by simp) (fun k' hk' => by simp [Value.ownBlock] at hk'; omega)
        have HH6 : Hid (∀ w', Below w6.heap.size w6 w' → SrcI w' (.slice ha hn hcp) U) := fun w' hb' => HHs.out w' (fun g hg => by
          have h9 := own_lt Hownc.out g hg
          rw [hb'.block g (by omega), Hb6.out.block g h9.2])
        have hbl := lt_of_cell hcxc
        have hcx6 : w6.cell? ⟨b, off + k, none⟩ = some (.int .i64 x) := by rw [Hb6.out.cell (p := ⟨b, off + k, none⟩) hbl]; exact hcxc
        have hbl6 : b < w6.heap.size := by omega
        have Hbf := hide (Hb.out.trans ((HB.out.mono hzr).trans (Hb6.out.mono (by omega))))
        clear hown6 hgr6 hat6 HLs HHs hcxc hlow Hb6
        go_wp2_with fail
        go_region_law ((first
          | (refine step_append_ints rfl (.tmp 46) (.tmp 47) rfl w6.heap.size v8 (U ++ [x]) rfl Hown8.out v6 D rfl (own_src (Hown6.out.below H8.out)) (by simp; omega) hz8 ?_
             intro v9 w9 hown9 hgr9 hat9
             have Hown9 := hide hown9
             have H9 : Hid (Below w6.heap.size w6 w9) := Below.grown H8.out hgr9 hz8 (fun k' hk' => (own_lt Hown8.out k' hk').1)
             clear hown9 hgr9 hat9)
          | (first | refine step_append_ints rfl (.tmp 40) (.tmp 45) rfl w6.heap.size v7 U rfl ?_ (.slice (some ⟨w7.heap.size, 0, none⟩) 1 1) [x] rfl (src_one ?_) (by simp; omega) ?_ ?_ | refine step_append_ints rfl (.tmp 40) (.tmp 45) rfl w6.heap.size v7 U rfl ?_ (.slice (some ⟨w6.heap.size, 0, none⟩) 1 1) [x] rfl (src_one ?_) (by simp; omega) ?_ ?_ | refine step_append_ints rfl (.tmp 40) (.tmp 45) rfl w6.heap.size v7 U rfl ?_ (.slice (some ⟨w6.heap.size + 1, 0, none⟩) 1 1) [x] rfl (src_one ?_) (by simp; omega) ?_ ?_
             · first | exact Hown7.out | exact OwnI.below Hown7.out (below1 _ _)
             · first | exact cell_new 0 rfl | exact (hgr7.cell_far ⟨w6.heap.size, 0, none⟩ (by simp; omega) (by simp [Value.ownBlock])).trans (cell_s2 _ _ _ _) | exact (hgr7.cell_far ⟨w6.heap.size + 1, 0, none⟩ (by first | (simp; done) | (simp; omega)) (by simp [Value.ownBlock])).trans (cell_s3 _ _ _ _)
             · first | exact hz7 | (simp; omega)
             intro v8 w8 hown8 hgr8 hat8
             have Hown8 := hide hown8
             have H8 : Hid (Below w6.heap.size w6 w8) := by
               refine Below.grown ?_ hgr8 (by first | exact hz7 | (simp; omega)) (fun k' hk' => (own_lt Hown7.out k' hk').1)
               repeat' (first | with_reducible exact Hid.out ‹Hid (Below _ _ _)› | with_reducible exact Below.refl _ _ | (with_reducible refine Below.drew ?_) | (refine Below.alloc ?_ ?_ _; rotate_left; focus (first | omega | (simp; omega) | (simp; done))))
             have hz8 := H8.out.size
             clear hown8 hgr8 hat8)
          | (first | refine step_append_ints rfl (.tmp 36) (.tmp 39) rfl w6.heap.size (.slice (some ⟨w6.heap.size, 0, none⟩) 0 0) [] rfl ?_ (.slice ha hn hcp) U rfl (HH6.out _ ?_) (by simp; omega) ?_ ?_ | refine step_append_ints rfl (.tmp 36) (.tmp 39) rfl w6.heap.size (.slice (some ⟨w6.heap.size + 1, 0, none⟩) 0 0) [] rfl ?_ (.slice ha hn hcp) U rfl (HH6.out _ ?_) (by simp; omega) ?_ ?_
             · exact OwnI.newAt (by first | exact new_s1 _ _ | exact new_s2 _ _ _ | exact new_s3 _ _ _) (by omega)
             · repeat' (first | with_reducible exact Hid.out ‹Hid (Below _ _ _)› | with_reducible exact Below.refl _ _ | (with_reducible refine Below.drew ?_) | (refine Below.alloc ?_ ?_ _; rotate_left; focus (first | omega | (simp; omega) | (simp; done))))
             · first | (simp; done) | (simp; omega)
             intro v7 w7 hown7 hgr7 hat7
             have Hown7 : Hid (OwnI w6.heap.size w7 v7 U) := by simpa [Hid] using hown7
             have H7 : Hid (Below w6.heap.size w6 w7) := by
               refine Below.grown ?_ hgr7 (by first | (simp; done) | (simp; omega)) (fun k' hk' => by simp [Value.ownBlock] at hk'; omega)
               repeat' (first | with_reducible exact Hid.out ‹Hid (Below _ _ _)› | with_reducible exact Below.refl _ _ | (with_reducible refine Below.drew ?_) | (refine Below.alloc ?_ ?_ _; rotate_left; focus (first | omega | (simp; omega) | (simp; done))))
             have hz7 := H7.out.size
             have hcx7 : w7.cell? ⟨b, off + k, none⟩ = some (.int .i64 x) := by rw [H7.out.cell (p := ⟨b, off + k, none⟩) hbl6]; exact hcx6
             have hbl7 : b < w7.heap.size := by omega
             clear hown7 hat7)))
        all_goals
          go_wp2_with fail
          go_roundw
          case rel => exact ⟨k + 1, by omega, by go_num, by rw [Hst.out, Hr1.out]; exact own_base Hown9.out (by omega), Hbf.out.trans (H9.out.mono (by omega))⟩
          case measure => simp [intOf]; omega
    · have hk2 : k = l.length := by omega
      subst hk2
      rw [List.take_length] at hown
      go_wp2_with fail
      go_ret
      exact ⟨_, rfl, hown, hb⟩

end Go.Proofs.Ytbkedppkdhfpoaa

namespace Go.Proofs.Ytbkedppkdhfpoaa
open Go.RowKit

theorem Try.underlying110 : Try.prog.underlying 110 = some (.slice 22) := by kernel_rfl
theorem Try.info22 : (Try.prog.info? 22).map (fun i => (i.zero, i.size, i.bytes)) = some (some (.slice none 0 0), 1, 24) := by kernel_rfl

/-- What is appended: the values that lie at an address. -/
def SrcV (w : World) (x : Value) (news : List Value) : Prop := (∃ b off c, x = .slice (some ⟨b, off, none⟩) news.length c ∧ ∀ j u, news[j]? = some u → w.cell? ⟨b, off + j, none⟩ = some u) ∧ ∀ u ∈ news, u.oneCell' = true

theorem wpList_append_vals {w : World} {ops : Array Oper} {rest : List Oper} {o : Oper} {a : Act} {Q : Exit → Act → World → Prop} (hgd : o.guard = none) (s x : Operand) (ho : o.op = .call { callee := .builtin .append, args := #[s, x], argTypes := #[110, 110] })
    (base : Nat) (v : Value) (n : Nat) (xs : List Value) (hs : a.eval s = v) (hown : w.ownsRow base 22 1 v n xs) (xv : Value) (news : List Value) (hx : a.eval x = xv) (hsrc : SrcV w xv news) (hl : n + news.length ≤ 2000) (hbase : base ≤ w.heap.size)
    (h : ∀ v' w', w'.ownsRow base 22 1 v' (n + news.length) (xs ++ news) → w.grownBy w' v.ownBlock → (v'.ownBlock = v.ownBlock ∨ v'.ownBlock = some w.heap.size) → wpList Try.prog ops Q rest (a.put o.dst v') w') : wpList Try.prog ops Q (o :: rest) a w := by
  refine wpList_plain hgd fun _ hK => ?_
  obtain ⟨i, hi, hzz⟩ := Option.map_eq_some_iff.1 Try.info22
  simp only [Prod.mk.injEq] at hzz
  obtain ⟨hz0, hz1, hz2⟩ := hzz
  obtain ⟨⟨b, off, c, rfl, hc⟩, hone⟩ := hsrc
  obtain ⟨v', w', hr, h2, h3, _, h5⟩ := run_append_own_at (P := Try.prog) w base 110 o.type 22 i (.slice none 0 0) 1 24 Try.underlying110 hi hz0 hz1 hz2 rfl (by decide) v n xs hown ⟨b, off, none⟩ news.length c news (by simp) (fun j u hu => by
    have e : (⟨b, off, none⟩ : Addr).add j = ⟨b, off + j, none⟩ := by simp [Addr.add]
    rw [e]; exact hc j u hu) hone (by unfold maxLen; omega) (by omega) hbase
  unfold Oper.wp execOp
  simp only [ho, resolve, invoke, builtin, Sem.run_bind, Sem.run_pure, Result.andThen_ok, List.map_toArray, List.map_cons, List.map_nil, hs, hx, hr]
  exact hK _ _ (h v' w' h2 h3 h5)

theorem RK_one {p : Nat → Prop} {w : World} {ls : List (List Int)} : ∀ {cs : List Value}, RK p w ls cs → ∀ u ∈ cs, u.oneCell' = true := by
  induction ls with
  | nil => intro cs h u hu; rw [show cs = [] from h] at hu; cases hu
  | cons l ls ih =>
    intro cs h u hu
    obtain ⟨a, cap, rest, rfl, _, h⟩ := h
    rcases List.mem_cons.1 hu with rfl | hu
    · rfl
    · exact ih h u hu

theorem own_cells1 {w : World} {base n : Nat} {v : Value} {xs : List Value} (h : w.ownsRow base 22 1 v n xs) (hn : 0 < n) : ∃ g cap, v = .slice (some ⟨g, 0, none⟩) n cap ∧ base ≤ g ∧ g < w.heap.size ∧ (∀ j u, xs[j]? = some u → w.cell? ⟨g, j, none⟩ = some u) ∧ ∀ j, w.frozen? ⟨g, j, none⟩ = false := by
  rcases h.2 with ⟨_, h0⟩ | ⟨g, cap, cur, rfl, hb, hg, hc, hm, hs, ht⟩
  · omega
  refine ⟨g, cap, rfl, hb, ?_, fun j u hu => ?_, fun j => by simp [World.frozen?, hg]⟩
  · rcases Nat.lt_or_ge g w.heap.size with h | h
    · exact h
    · rw [Array.getElem?_eq_none h] at hg; cases hg
  · have hj : j < xs.length := by
      rcases Nat.lt_or_ge j xs.length with h | h
      · exact h
      · rw [List.getElem?_eq_none h] at hu; cases hu
    have e1 : cur[j]? = some u := by
      have h2 : (cur.toList.take (n * 1))[j]? = some u := by rw [ht]; exact hu
      rw [List.getElem?_take_of_lt (by have := h.1; omega)] at h2
      simpa using h2
    simp [World.cell?, hg, e1]

/-- The rows of x, the first k of them moved by m. -/
def movedRows (X : List (List Int)) (m k : Nat) : List (List Int) := (X.take k).map (fun l => l.map (· + (m : Int))) ++ X.drop k
theorem moved_zero (X : List (List Int)) (m : Nat) : movedRows X m 0 = X := rfl
theorem moved_all (X : List (List Int)) (m : Nat) : movedRows X m X.length = X.map (fun l => l.map (· + (m : Int))) := by
  rw [movedRows, List.take_length, List.drop_length, List.append_nil]
theorem moved_length (X : List (List Int)) (m k : Nat) : (movedRows X m k).length = X.length := by
  rw [movedRows, List.length_append, List.length_map, List.length_take, List.length_drop]; omega
theorem moved_at {X : List (List Int)} {m k : Nat} {l : List Int} (h : X[k]? = some l) : (movedRows X m k)[k]? = some l ∧ (movedRows X m k).set k (l.map (· + (m : Int))) = movedRows X m (k + 1) := by
  have hlt : k < X.length := by
    rcases Nat.lt_or_ge k X.length with h | h
    · exact h
    · rw [List.getElem?_eq_none h] at *; simp_all
  have hd : X.drop k = l :: X.drop (k + 1) := by
    rw [List.getElem?_eq_getElem hlt] at h
    have : X[k] = l := by simpa using h
    rw [← this, List.getElem_cons_drop]
  have hlen : ((X.take k).map (fun l => l.map (· + (m : Int)))).length = k := by rw [List.length_map, List.length_take]; omega
  constructor
  · rw [movedRows, List.getElem?_append_right (by omega), hlen, Nat.sub_self, hd]; rfl
  · rw [movedRows, movedRows, hd, List.set_append_right _ _ (by omega), hlen, Nat.sub_self, List.set_cons_zero, List.take_add_one, h, List.map_append]
    simp

/-- A row of x, stored. -/
theorem rows_store {base n g cx kk : Nat} {mid wj : World} {rows : List (List Int)} {l' : List Int} {ma : Option Addr} {mc : Nat} (h : RowsI base (fun b => base ≤ b ∧ b ≠ g) mid (.slice (some ⟨g, 0, none⟩) n cx) rows) (hn : rows.length = n) (hb : Below mid.heap.size mid wj)
    (hom : OwnI mid.heap.size wj (.slice ma l'.length mc) l') (hbase : base ≤ mid.heap.size) : RowsI base (fun b => base ≤ b ∧ b ≠ g) (wj.setCell ⟨g, kk, none⟩ (.slice ma l'.length mc)) (.slice (some ⟨g, 0, none⟩) n cx) (rows.set kk l') := by
  obtain ⟨xs, h1, h2⟩ := h
  rw [hn] at h1
  have hg := own_lt h1 g rfl
  refine ⟨xs.set kk (.slice ma l'.length mc), by rw [List.length_set, hn]; exact own_set (own_same h1 (fun g' hg' => hb.block g' (own_lt h1 g' hg').2)) _, RK_set (RK_mono (fun k hk hlt => ⟨hk, ?_⟩) h2) ?_⟩
  · rw [Below.heap_setCell _ _ _ _ hk.2]; exact hb.block k hlt
  · obtain ⟨a, cap, he, hi⟩ := OwnI.ip hom
    simp only [Value.slice.injEq, true_and] at he
    obtain ⟨rfl, rfl⟩ := he
    refine IP_mono (fun k hk hlt => ?_) hi
    have h3 := own_lt hom k hk
    exact ⟨⟨by omega, by omega⟩, Below.heap_setCell _ _ _ _ (by show k ≠ g; omega)⟩

/-- The rows of x behind those of out. -/
theorem rows_join {B S g : Nat} {wo wi w' : World} {vo va v' : Value} {xo xi : List Value} {R1 R2 : List (List Int)} (hko : RK (fun b => B ≤ b ∧ vo.ownBlock ≠ some b ∧ va.ownBlock ≠ some b) wo R1 xo) (hki : RK (fun b => S ≤ b ∧ b ≠ g) wi R2 xi) (hb : Below wo.heap.size wo wi) (hS : S = wo.heap.size) (hBS : B ≤ S)
    (hlo : ∀ k, vo.ownBlock = some k → k < S) (hla : ∀ k, va.ownBlock = some k → k < S) (hown : w'.ownsRow B 22 1 v' (R1.length + R2.length) (xo ++ xi)) (hgr : wi.grownBy w' vo.ownBlock) (hat : v'.ownBlock = vo.ownBlock ∨ v'.ownBlock = some wi.heap.size) :
    RowsI B (fun b => B ≤ b ∧ v'.ownBlock ≠ some b ∧ va.ownBlock ≠ some b) w' v' (R1 ++ R2) := by
  have hz := hb.size
  refine ⟨xo ++ xi, by rw [List.length_append]; exact hown, RK_append (RK_mono (fun k hk hlt => ?_) hko) (RK_mono (fun k hk hlt => ?_) hki)⟩
  · refine ⟨⟨hk.1, ?_, hk.2.2⟩, by rw [hgr.block k (by omega) (fun e => hk.2.1 e.symm)]; exact hb.block k hlt⟩
    rcases hat with h | h
    · rw [h]; exact hk.2.1
    · rw [h]; intro e; cases e; omega
  · have hne : vo.ownBlock ≠ some k := fun e => by have := hlo k e; omega
    refine ⟨⟨by omega, ?_, fun e => by have := hla k e; omega⟩, hgr.block k hlt (fun e => hne e.symm)⟩
    rcases hat with h | h
    · rw [h]; exact hne
    · rw [h]; intro e; cases e; omega

/-- The numbers grow; the rows stay. -/
theorem rows_beside {B : Nat} {w w' : World} {v va va' : Value} {rows : List (List Int)} (h : RowsI B (fun b => B ≤ b ∧ v.ownBlock ≠ some b ∧ va.ownBlock ≠ some b) w v rows) (hdis : ∀ g, v.ownBlock = some g → va.ownBlock ≠ some g) (hgr : w.grownBy w' va.ownBlock) (hat : va'.ownBlock = va.ownBlock ∨ va'.ownBlock = some w.heap.size) :
    RowsI B (fun b => B ≤ b ∧ v.ownBlock ≠ some b ∧ va'.ownBlock ≠ some b) w' v rows ∧ ∀ g, v.ownBlock = some g → va'.ownBlock ≠ some g := by
  obtain ⟨xs, h1, h2⟩ := h
  have hne : ∀ k, va.ownBlock ≠ some k → k < w.heap.size → va'.ownBlock ≠ some k := fun k hk hlt => by
    rcases hat with h | h
    · rw [h]; exact hk
    · rw [h]; intro e; cases e; omega
  exact ⟨⟨xs, own_same h1 (fun g hg => hgr.block g (own_lt h1 g hg).2 (fun e => hdis g hg e.symm)), RK_mono (fun k hk hlt => ⟨⟨hk.1, hk.2.1, hne k hk.2.2 hlt⟩, hgr.block k hlt (fun e => hk.2.2 e.symm)⟩) h2⟩, fun g hg => hne g (hdis g hg) (own_lt h1 g hg).2⟩
theorem rows_src {base n g cx : Nat} {p : Nat → Prop} {w : World} {rows : List (List Int)} {xs : List Value} (h1 : w.ownsRow base 22 1 (.slice (some ⟨g, 0, none⟩) n cx) n xs) (h2 : RK p w rows xs) (hn : rows.length = n) (h0 : 0 < n) : SrcV w (.slice (some ⟨g, 0, none⟩) n cx) xs := by
  obtain ⟨g', cx', he, _, _, hc, _⟩ := own_cells1 h1 h0
  simp only [Value.slice.injEq, Option.some.injEq, Addr.mk.injEq, and_true, true_and] at he
  obtain ⟨rfl, rfl⟩ := he
  refine ⟨⟨g, 0, cx, by rw [RK_length h2, hn], fun j u hu => by rw [Nat.zero_add]; exact hc j u hu⟩, RK_one h2⟩

end Go.Proofs.Ytbkedppkdhfpoaa

namespace Go.Proofs.Ytbkedppkdhfpoaa
open Go.RowKit

theorem nums_bound : ∀ {ts : List T} {o : Nat} {e : Int}, e ∈ numsL o ts → 0 ≤ e ∧ e < ((o + T.sz.szL ts : Nat) : Int) := by
  intro ts
  induction ts with
  | nil => intro o e h; cases h
  | cons t ts ih =>
    intro o e h
    rw [numsL] at h
    have := t.sz_pos
    rw [T.szL_cons]
    rcases List.mem_cons.1 h with rfl | h
    · omega
    · have := ih h; omega
theorem args_bound : ∀ (n : Nat), (∀ (t : T) (o : Nat) (l : List Int) (e : Int), t.sz ≤ n → l ∈ argsAt t o → e ∈ l → 0 ≤ e ∧ e < ((o + t.sz : Nat) : Int)) ∧ (∀ (ts : List T) (o : Nat) (l : List Int) (e : Int), T.sz.szL ts ≤ n → l ∈ argsAt.aL ts o → e ∈ l → 0 ≤ e ∧ e < ((o + T.sz.szL ts : Nat) : Int)) := by
  intro n
  induction n with
  | zero =>
    refine ⟨fun t o l e h => by have := t.sz_pos; omega, fun ts o l e h hl => ?_⟩
    cases ts with
    | nil => cases hl
    | cons t ts => have := t.sz_pos; rw [T.szL_cons] at h; omega
  | succ n ih =>
    have h1 : ∀ (t : T) (o : Nat) (l : List Int) (e : Int), t.sz ≤ n + 1 → l ∈ argsAt t o → e ∈ l → 0 ≤ e ∧ e < ((o + t.sz : Nat) : Int) := fun t o l e h hl he => by
      have hts := T.sz_eq t
      rw [argsAt_eq, List.mem_append, List.mem_singleton] at hl
      rcases hl with hl | rfl
      · have := ih.2 t.args o l e (by omega) hl he; omega
      · have := nums_bound he; omega
    refine ⟨h1, fun ts => ?_⟩
    induction ts with
    | nil => intro o l e _ hl; cases hl
    | cons t ts iht =>
      intro o l e h hl he
      rw [T.szL_cons] at h ⊢
      rw [aL_cons, List.mem_append] at hl
      rcases hl with hl | hl
      · have := h1 t o l e (by omega) hl he; omega
      · have := iht (o + t.sz) l e (by omega) hl he; omega

theorem ownBlock_len {a : Option Addr} {n m c k : Nat} (h : (Value.slice a n c).ownBlock = some k) : (Value.slice a m c).ownBlock = some k := by
  cases a with
  | none => cases h
  | some x => exact h
theorem RowsI_below {base : Nat} {p : Nat → Prop} {w w' : World} {v : Value} {rows : List (List Int)} (h : RowsI base p w v rows) (hb : Below w.heap.size w w') : RowsI base p w' v rows := by
  obtain ⟨xs, h1, h2⟩ := h
  exact ⟨xs, own_same h1 (fun g hg => hb.block g (own_lt h1 g hg).2), RK_mono (fun k hk hlt => ⟨hk, hb.block k hlt⟩) h2⟩
theorem srcv_one {w : World} {v : Value} {e : TypeId} (hv : v.oneCell' = true) : SrcV (w.alloc (.cells #[v] e)) (.slice (some ⟨w.heap.size, 0, none⟩) 1 1) [v] := by
  refine ⟨⟨w.heap.size, 0, 1, rfl, fun j u hu => ?_⟩, fun u hu => ?_⟩
  · cases j with
    | zero =>
      have hu : v = u := by simpa using hu
      subst hu; exact cell_new 0 rfl
    | succ j => simp at hu
  · have hu : u = v := by simpa using hu
    subst hu; exact hv
theorem args_rowlen : ∀ (n : Nat), (∀ (t : T) (o : Nat) (l : List Int), t.sz ≤ n → l ∈ argsAt t o → l.length ≤ t.sz) ∧ (∀ (ts : List T) (o : Nat) (l : List Int), T.sz.szL ts ≤ n → l ∈ argsAt.aL ts o → l.length ≤ T.sz.szL ts) := by
  intro n
  induction n with
  | zero =>
    refine ⟨fun t o l h => by have := t.sz_pos; omega, fun ts o l h hl => ?_⟩
    cases ts with
    | nil => cases hl
    | cons t ts => have := t.sz_pos; rw [T.szL_cons] at h; omega
  | succ n ih =>
    have h1 : ∀ (t : T) (o : Nat) (l : List Int), t.sz ≤ n + 1 → l ∈ argsAt t o → l.length ≤ t.sz := fun t o l h hl => by
      have hts := T.sz_eq t
      rw [argsAt_eq, List.mem_append, List.mem_singleton] at hl
      rcases hl with hl | rfl
      · have := ih.2 t.args o l (by omega) hl; omega
      · rw [numsL_length]; have := T.length_le t.args; omega
    refine ⟨h1, fun ts => ?_⟩
    induction ts with
    | nil => intro o l _ hl; cases hl
    | cons t ts iht =>
      intro o l h hl
      rw [T.szL_cons] at h ⊢
      rw [aL_cons, List.mem_append] at hl
      rcases hl with hl | hl
      · have := h1 t o l (by omega) hl; omega
      · have := iht (o + t.sz) l (by omega) hl; omega

set_option maxRecDepth 100000 in
set_option maxHeartbeats 2000000 in
theorem argsOf_any (N : Nat) : ∀ (t : T) (a : Option Addr) (cap : Nat) (w : World), t.sz ≤ N → t.sz ≤ 120 → InL w t.args a →
    Calls Try.prog 82 #[.agg #[.int .i64 t.v, .int .i64 t.f, .slice a t.args.length cap]] w fun e w' =>
      ∃ v, e = .returned v ∧ RowsI w.heap.size (fun k => w.heap.size ≤ k ∧ v.ownBlock ≠ some k) w' v (argsAt t 0) ∧ Below w.heap.size w w' := by
  induction N with
  | zero => intro t a cap w hN; have := t.sz_pos; omega
  | succ N ih =>
    intro t a cap w hN h120 hin
    have Hih := hide ih
    have hts := T.sz_eq t
    have hlen : t.args.length ≤ 120 := by have := T.length_le t.args; omega
    obtain ⟨W1, hW1⟩ : ∃ W1, W1 = w.alloc (.cells #[.int .i64 t.v, .int .i64 t.f, .slice a t.args.length cap] 27) := ⟨_, rfl⟩
    have hzW : W1.heap.size = w.heap.size + 1 := by rw [hW1]; simp
    have hbW : Below w.heap.size w W1 := by rw [hW1]; exact below1 _ _
    have H3 : Hid (Three W1 w.heap.size (.int .i64 t.v) (.int .i64 t.f) (.slice a t.args.length cap)) := by rw [hW1]; exact Three.new 27 rfl
    have HW1 := hide hW1
    clear ih hW1
    go_enter Try.func82, Try.ntmps82
    go_wp2_with fail
    rw [← HW1.out]
    go_loopw [3, 4, 5] (fun vo va iv wr => ∃ k : Nat, k ≤ t.args.length ∧ iv = .int .i64 k ∧ RowsI (w.heap.size + 1) (fun b => w.heap.size + 1 ≤ b ∧ vo.ownBlock ≠ some b ∧ va.ownBlock ≠ some b) wr vo (argsAt.aL (t.args.take k) 0) ∧
        OwnI (w.heap.size + 1) wr va (numsL 0 (t.args.take k)) ∧ (∀ g, vo.ownBlock = some g → va.ownBlock ≠ some g) ∧ Below (w.heap.size + 1) W1 wr) (fun _ _ iv _ => t.args.length - (intOf iv).toNat)
    case atStart => exact ⟨0, Nat.zero_le _, rfl, ⟨[], ⟨rfl, Or.inl ⟨rfl, rfl⟩⟩, rfl⟩, ⟨rfl, Or.inl ⟨rfl, rfl⟩⟩, (fun g hg => (by cases hg)), Below.refl _ _⟩
    case round =>
      obtain ⟨k, hk, rfl, ⟨xo, hoo, hko⟩, hoa, hdis, hb⟩ := hrel
      have hzr := hb.size
      obtain ⟨c0, c1, c2, _, _, _⟩ := H3.out.same (hb.block w.heap.size (by omega))
      have hbw : Below w.heap.size w wr := hbW.trans (hb.mono (by omega))
      obtain ⟨oa, oc, hvo⟩ := own_shape hoo
      obtain ⟨aa, ac, hva⟩ := own_shape hoa
      have hol : (argsAt.aL (t.args.take k) 0).length = T.sz.szL (t.args.take k) := (args_length _).2 _ 0 (Nat.le_refl _)
      subst hvo hva
      by_cases hlt : k < t.args.length
      · obtain ⟨b, off, rfl⟩ := InP_some hin (by omega)
        obtain ⟨c, hc⟩ : ∃ c, t.args[k]? = some c := ⟨t.args[k], List.getElem?_eq_getElem hlt⟩
        obtain ⟨a1, cap1, _, k0, k1, k2, hin1⟩ := InP_at (InP_below hbw hin) hc
        obtain ⟨hs1, hs2⟩ := szL_take hc
        have hce := T.sz_eq c
        have hcsz := T.szL_mem (List.mem_of_getElem? hc)
        have Hcall := hide (Hih.out c a1 cap1 wr (by omega) (by omega) hin1)
        have Hst1 : Hid (argsAt.aL (t.args.take (k + 1)) 0 = argsAt.aL (t.args.take k) 0 ++ argsAt c (T.sz.szL (t.args.take k))) := by
          show _ = _
          rw [List.take_add_one, hc, aL_append]
          show _ ++ (argsAt c (0 + T.sz.szL (t.args.take k)) ++ []) = _
          rw [Nat.zero_add, List.append_nil]
        have Hst2 : Hid (numsL 0 (t.args.take (k + 1)) = numsL 0 (t.args.take k) ++ [((T.sz.szL (t.args.take k) + c.sz : Nat) : Int) - 1]) := by
          show _ = _
          rw [List.take_add_one, hc, numsL_append, Nat.zero_add]; rfl
        have hkI : (k : Int) < t.args.length := by omega
        have hk0 : (0 : Int) ≤ k := by omega
        obtain ⟨o, ho⟩ : ∃ o, o = T.sz.szL (t.args.take k) := ⟨_, rfl⟩
        rw [hol, ← ho] at hoo
        have Hol : Hid ((argsAt.aL (t.args.take k) 0).length = o) := hol.trans ho.symm
        rw [← ho] at Hst1 Hst2 hs1 hs2
        have Hoo := hide hoo
        have Hko : Hid (RK (fun b => w.heap.size + 1 ≤ b ∧ (Value.slice oa o oc).ownBlock ≠ some b ∧ (Value.slice aa (numsL 0 (t.args.take k)).length ac).ownBlock ≠ some b) wr (argsAt.aL (t.args.take k) 0) xo) := RK_mono (fun k' hk' _ => ⟨⟨hk'.1, fun e => hk'.2.1 (ownBlock_len e), hk'.2.2⟩, rfl⟩) hko
        have Hoa := hide hoa
        have Hdis : Hid (∀ g, (Value.slice oa o oc).ownBlock = some g → (Value.slice aa (numsL 0 (t.args.take k)).length ac).ownBlock ≠ some g) := fun g hg => hdis g (ownBlock_len hg)
        have hoc : o + c.sz ≤ 120 := by omega
        have hcN : c.sz ≤ 120 := by omega
        have Hb := hide hb
        rw [Hol.out]
        clear hc hin1 ho hol hoo hko hoa hdis hb hce hs1 hs2 hcsz
        go_wp2_with fail
        refine Hcall.out.mono ?_
        rintro e wx ⟨vx, rfl, ⟨xx, hox, hkx⟩, hbx⟩
        have hXl : (argsAt c 0).length = c.sz := (args_length _).1 c 0 (Nat.le_refl _)
        obtain ⟨X, hX⟩ : ∃ X, X = argsAt c 0 := ⟨_, rfl⟩
        rw [← hX] at hox hkx hXl
        have hcp := c.sz_pos
        obtain ⟨g, cx, rfl, hg1, hg2, _, _⟩ := own_cells1 hox (by omega)
        have HrX : Hid (RowsI wr.heap.size (fun b' => wr.heap.size ≤ b' ∧ b' ≠ g) wx (.slice (some ⟨g, 0, none⟩) X.length cx) X) := ⟨xx, hox, RK_mono (fun k' hk' _ => ⟨⟨hk'.1, fun e => hk'.2 (by rw [e]; rfl)⟩, rfl⟩) hkx⟩
        have HbX : Hid (∀ l ∈ X, ∀ e ∈ l, 0 ≤ e ∧ e ≤ 1000) := fun l hl e he => by
          rw [hX] at hl
          have h9 := (args_bound _).1 c 0 l e (Nat.le_refl _) hl he
          omega
        have HXs : Hid (X.map (fun l => l.map (· + (o : Int))) = argsAt c o) := by
          show _ = _
          rw [hX, (args_shift o _).1 c 0 (Nat.le_refl _), Nat.zero_add]
        have HrL : Hid (∀ l ∈ X, l.length ≤ 120) := fun l hl => by
          rw [hX] at hl
          have h9 := (args_rowlen _).1 c 0 l (Nat.le_refl _) hl
          omega
        have Hbx := hide hbx
        have hXl2 : X.length ≤ 120 := by omega
        have hX0 : 0 < X.length := by omega
        have ho120 : o ≤ 1000 := by omega
        have HXl := hide hXl
        clear hX hox hkx hbx hXl k0 k1 k2 c0 c1 c2 Hcall
        go_wp2_with fail
        go_loopw [7] (fun kv wi => ∃ kk : Nat, kk ≤ X.length ∧ kv = .int .i64 kk ∧ RowsI wr.heap.size (fun b' => wr.heap.size ≤ b' ∧ b' ≠ g) wi (.slice (some ⟨g, 0, none⟩) X.length cx) (movedRows X o kk) ∧ Below wr.heap.size wr wi) (fun kv _ => X.length - (intOf kv).toNat)
        case atStart => exact ⟨0, Nat.zero_le _, rfl, HrX.out, Hbx.out⟩
        case round =>
          obtain ⟨kk, hkk, rfl, ⟨xi, hoi, hki⟩, hbi⟩ := hrel
          rw [moved_length] at hoi
          obtain ⟨g', cx', he, hgb, hgl, hci, hfi⟩ := own_cells1 hoi hX0
          simp only [Value.slice.injEq, Option.some.injEq, Addr.mk.injEq, and_true, true_and] at he
          obtain ⟨rfl, rfl⟩ := he
          by_cases hlt2 : kk < X.length
          · obtain ⟨l, hl⟩ : ∃ l, X[kk]? = some l := ⟨X[kk], List.getElem?_eq_getElem hlt2⟩
            obtain ⟨m1, m2⟩ := moved_at (m := o) hl
            obtain ⟨la, lc, hxl, hipl⟩ := RK_at hki m1
            have ck := hci kk _ hxl
            have fk := hfi kk
            have Hbl := hide (HbX.out l (List.mem_of_getElem? hl))
            have hll : l.length ≤ 120 := HrL.out l (List.mem_of_getElem? hl)
            have Hoi := hide hoi
            have Hki := hide hki
            have Hbi := hide hbi
            have Hm2 := hide m2
            have Hipl := hide hipl
            have hkkI : (kk : Int) < X.length := by omega
            have hkk0 : (0 : Int) ≤ kk := by omega
            clear hl m1 m2 hxl hipl hoi hki hbi hci hfi
            go_wp2_with fail
            go_loopw [8, 9] (fun vm jv wj => ∃ j : Nat, j ≤ l.length ∧ jv = .int .i64 j ∧ OwnI wr.heap.size wj vm ((l.take j).map (· + (o : Int))) ∧ Below wr.heap.size wr wj) (fun _ jv _ => l.length - (intOf jv).toNat)
            case atStart => exact ⟨0, Nat.zero_le _, rfl, ⟨rfl, Or.inl ⟨rfl, rfl⟩⟩, Below.refl _ _⟩
            case round =>
              obtain ⟨j, hj, rfl, hom, hbj⟩ := hrel
              have ckj := ck
              rw [← hbj.cell (p := ⟨g, kk, none⟩) hgl] at ckj
              have fkj := fk
              rw [← hbj.frozen (p := ⟨g, kk, none⟩) hgl] at fkj
              by_cases hlt3 : j < l.length
              · obtain ⟨lb, loff, rfl, hcl⟩ := Ints_some (IP_ints Hipl.out) (by omega)
                have cj := hcl j hlt3
                rw [← hbj.cell (p := ⟨lb, loff + j, none⟩) (lt_of_cell cj)] at cj
                have hgd : l.getD j 0 = l[j] := by rw [List.getD_eq_getElem?_getD, List.getElem?_eq_getElem hlt3]; rfl
                have hbd := Hbl.out (l.getD j 0) (by rw [hgd]; exact List.getElem_mem hlt3)
                have Htk : Hid ((l.take (j + 1)).map (· + (o : Int)) = (l.take j).map (· + (o : Int)) ++ [l.getD j 0 + (o : Int)]) := by
                  show _ = _
                  rw [hgd, List.take_add_one, List.getElem?_eq_getElem hlt3, List.map_append]; rfl
                obtain ⟨ma, mc, hvm⟩ := own_shape hom
                subst hvm
                have Hom := hide hom
                have Hbj := hide hbj
                have hzj := hbj.size
                have hjI : (j : Int) < l.length := by omega
                have hj0 : (0 : Int) ≤ j := by omega
                have htl : ((l.take j).map (· + (o : Int))).length ≤ 120 := by rw [List.length_map, List.length_take]; omega
                have HO := hide (fun o1 => OwnI.below Hom.out (below1 wr o1))
                clear hcl hom hbj hgd
                generalize l.getD j 0 = e at *
                obtain ⟨e0, e1⟩ := hbd
                go_wp2_with (at_builtin; go_must (refine wpList_append_ints rfl (.tmp 38) (.tmp 49) rfl _ _ ((l.take j).map (· + (o : Int))) rfl (HO.out _) (.slice (some ⟨wr.heap.size, 0, none⟩) 1 1) [e + (o : Int)] rfl (src_one (cell_new 0 rfl)) (by rw [List.length_singleton]; omega) (by rw [World.size_alloc]; omega) ?_))
                intro v6 w6 hown6 hgr6 hat6
                have Hown6 := hide hown6
                have Hb6 := hide ((Hbj.out.alloc hzj _).grown hgr6 (by rw [World.size_alloc]; omega) (fun k' hk' => (own_lt Hom.out k' (ownBlock_len hk')).1))
                clear hown6 hgr6 hat6
                go_wp2_with fail
                go_roundw
                case rel => exact ⟨j + 1, by omega, by go_num, by rw [Htk.out, List.map_take]; exact Hown6.out, Hb6.out⟩
                case measure => simp [intOf]; omega
              · have hj2 : j = l.length := by omega
                subst hj2
                rw [List.take_length] at hom
                obtain ⟨ma, mc, hvm⟩ := own_shape hom
                subst hvm
                have Hst3 := hide (rows_store (kk := kk) (n := X.length) ⟨xi, by rw [moved_length]; exact Hoi.out, Hki.out⟩ (moved_length X o kk) hbj hom Hbi.out.size)
                have Hbs := hide ((Hbi.out.trans (hbj.mono Hbi.out.size)).setCell (p := ⟨g, kk, none⟩) hgb (.slice ma (l.map (· + (o : Int))).length mc))
                clear hom hbj
                rw [Hm2.out] at Hst3
                rw [List.length_map] at Hst3 Hbs ⊢
                go_wp2_with fail
                go_roundw
                case rel => exact ⟨kk + 1, by omega, by go_num, Hst3.out, Hbs.out⟩
                case measure => simp [intOf]; omega
          · have hkk2 : kk = X.length := by omega
            subst hkk2
            rw [moved_all, HXs.out] at hki
            have hRl : (argsAt c o).length = c.sz := (args_length _).1 c o (Nat.le_refl _)
            have hxil : xi.length = c.sz := by rw [RK_length hki]; exact hRl
            have Hsrc := hide (rows_src hoi hki (hRl.trans HXl.out.symm) hX0)
            have Hoo2 := hide (own_same Hoo.out (w' := wr) (fun g' hg' => hbi.block g' (own_lt Hoo.out g' hg').2))
            have Hoa2 := hide (OwnI.below Hoa.out hbi)
            have Hki := hide hki
            have Hbi := hide hbi
            have hzi := hbi.size
            have HRl := hide hRl
            have hnl : (numsL 0 (t.args.take k)).length ≤ 120 := by rw [numsL_length, List.length_take]; omega
            have Hst2' : Hid (numsL 0 (t.args.take (k + 1)) = numsL 0 (t.args.take k) ++ [(o : Int) + (c.sz : Int) - 1]) := by
              show _ = _
              rw [Hst2.out, show ((o + c.sz : Nat) : Int) - 1 = (o : Int) + (c.sz : Int) - 1 by omega]
            clear hoi hki hbi hci hfi hRl Hst2
            go_wp2_with (at_builtin; go_must (refine wpList_append_vals rfl (.tmp 55) (.tmp 56) rfl (w.heap.size + 1) (.slice oa o oc) o xo rfl Hoo2.out _ xi rfl Hsrc.out (by omega) (by omega) ?_))
            intro v5 w5 hown5 hgr5 hat5
            have hjn := rows_join (va := .slice aa (numsL 0 (t.args.take k)).length ac) Hko.out Hki.out Hbi.out rfl (by omega) (fun k' hk' => (own_lt Hoo.out k' hk').2) (fun k' hk' => (own_lt Hoa.out k' hk').2) (by rw [Hol.out, HRl.out]; exact hown5) hgr5 hat5
            have Hoa5 := hide (OwnI.grown Hoa2.out hgr5 (by
              cases hvb : (Value.slice aa (numsL 0 (t.args.take k)).length ac).ownBlock with
              | none => exact Or.inl rfl
              | some g' => exact Or.inr (fun e => Hdis.out g' e.symm hvb)))
            have hd5 : ∀ g', v5.ownBlock = some g' → (Value.slice aa (numsL 0 (t.args.take k)).length ac).ownBlock ≠ some g' := fun g' hg' => by
              rcases hat5 with h | h
              · exact Hdis.out g' (h.symm.trans hg')
              · intro e
                have h9 := (own_lt Hoa.out g' e).2
                have h8 : wr.heap.size = g' := by simpa using h.symm.trans hg'
                omega
            have Hb5 := hide (((Hb.out.trans (Hbi.out.mono (by omega)))).grown hgr5 (by omega) (fun k' hk' => (own_lt Hoo.out k' hk').1))
            obtain ⟨a5, c5, hv5⟩ := own_shape hown5
            have hz5 := hgr5.size
            have Hjn := hide hjn
            have Hd5 := hide hd5
            subst hv5
            have HO5 := hide (fun o1 => OwnI.below Hoa5.out (below1 w5 o1))
            clear hown5 hgr5 hat5 hjn hd5 Hsrc Hoo2
            go_wp2_with (at_builtin; go_must (refine wpList_append_ints rfl (.tmp 58) (.tmp 62) rfl (w.heap.size + 1) (.slice aa (numsL 0 (t.args.take k)).length ac) (numsL 0 (t.args.take k)) rfl (HO5.out _) (.slice (some ⟨w5.heap.size, 0, none⟩) 1 1) [(o : Int) + (c.sz : Int) - 1] rfl (src_one (cell_new 0 rfl)) (by rw [List.length_singleton]; omega) (by rw [World.size_alloc]; omega) ?_))
            intro v6 w6 hown6 hgr6 hat6
            obtain ⟨hr6, hd6⟩ := rows_beside (va' := v6) (RowsI_below Hjn.out (below1 w5 (.cells #[.int .i64 ((o : Int) + (c.sz : Int) - 1)] 3))) Hd5.out hgr6 (by rw [World.size_alloc]; exact hat6)
            have Hb6 := hide ((Hb5.out.alloc (by omega) _).grown hgr6 (by rw [World.size_alloc]; omega) (fun k' hk' => (own_lt Hoa5.out k' hk').1))
            have Hr6 := hide hr6
            have Hd6 := hide hd6
            have Hown6 := hide hown6
            clear hr6 hd6 hown6 hgr6 hat6
            go_wp2_with fail
            go_roundw
            case rel => exact ⟨k + 1, by omega, by go_num, by rw [Hst1.out]; exact Hr6.out, by rw [Hst2'.out]; exact Hown6.out, Hd6.out, Hb6.out⟩
            case measure => simp [intOf]; omega
      · have hk2 : k = t.args.length := by omega
        subst hk2
        rw [List.take_length] at hoo hko hoa hdis hol ⊢
        have Hoo := hide hoo
        have Hko := hide hko
        have Hoa := hide hoa
        have Hdis := hide hdis
        have Hb := hide hb
        have HO := hide (fun o1 => own_same Hoo.out (w' := wr.alloc o1) (fun g' hg' => (below1 wr o1).block g' (own_lt Hoo.out g' hg').2))
        have hsmall : (argsAt.aL t.args 0).length ≤ 120 := by omega
        clear hoo hko hoa hdis hb hol
        go_wp2_with (at_builtin; go_must (refine wpList_append_vals rfl (.tmp 64) (.tmp 66) rfl (w.heap.size + 1) (.slice oa (argsAt.aL t.args 0).length oc) (argsAt.aL t.args 0).length xo rfl (HO.out _) (.slice (some ⟨wr.heap.size, 0, none⟩) 1 1) [.slice aa (numsL 0 t.args).length ac] rfl (srcv_one rfl) (by rw [List.length_singleton]; omega) (by rw [World.size_alloc]; omega) ?_))
        intro v5 w5 hown5 hgr5 hat5
        have Hfin : Hid (RowsI w.heap.size (fun k => w.heap.size ≤ k ∧ v5.ownBlock ≠ some k) w5 v5 (argsAt t 0)) := by
          rw [argsAt_eq]
          have hva := Hoa.out
          have hne : ∀ k', (Value.slice oa (argsAt.aL t.args 0).length oc).ownBlock ≠ some k' → k' < wr.heap.size → v5.ownBlock ≠ some k' ∧ w5.heap[k']? = wr.heap[k']? := fun k' hk' hlt' => by
            refine ⟨?_, by rw [hgr5.block k' (by rw [World.size_alloc]; omega) (fun e => hk' e.symm)]; exact Below.heap_alloc _ _ _ hlt'⟩
            rcases hat5 with h | h
            · rw [h]; exact hk'
            · rw [h]; intro e; cases e; omega
          refine ⟨xo ++ [.slice aa (numsL 0 t.args).length ac], ?_, RK_append (RK_mono (fun k' hk' hlt' => ?_) Hko.out) ⟨aa, ac, [], rfl, ?_, rfl⟩⟩
          · rw [List.length_append, List.length_singleton]
            obtain ⟨h1, h2⟩ := hown5
            refine ⟨h1, ?_⟩
            rcases h2 with h2 | ⟨g', cap', cur, hv, hg', r'⟩
            · exact Or.inl h2
            · exact Or.inr ⟨g', cap', cur, hv, by omega, r'⟩
          · have h9 := hne k' hk'.2.1 hlt'
            exact ⟨⟨by omega, h9.1⟩, h9.2⟩
          · obtain ⟨a9, c9, he, hi⟩ := OwnI.ip hva
            simp only [Value.slice.injEq, true_and] at he
            obtain ⟨rfl, rfl⟩ := he
            refine IP_mono (fun k' hk' hlt' => ?_) hi
            have h9 := hne k' (fun e => Hdis.out k' e hk') hlt'
            have h8 := (own_lt hva k' hk').1
            exact ⟨⟨by omega, h9.1⟩, h9.2⟩
        have Hbf := hide (hbW.trans (((Hb.out.alloc (by omega) _).grown hgr5 (by rw [World.size_alloc]; omega) (fun k' hk' => (own_lt Hoo.out k' hk').1)).mono (by omega)))
        clear hown5 hgr5 hat5
        go_wp2_with fail
        go_ret
        exact ⟨_, rfl, Hfin.out, Hbf.out⟩

end Go.Proofs.Ytbkedppkdhfpoaa

namespace Go.Proofs.Ytbkedppkdhfpoaa

theorem parts_len (t : T) : (parts t).length = t.sz := (parts_length _).1 t (Nat.le_refl _)
theorem partsL_len (ts : List T) : (parts.partsL ts).length = T.sz.szL ts := (parts_length _).2 ts (Nat.le_refl _)

/-- Number m of the arguments' numbers is where that argument stands. -/
theorem nums_at (L : List T) : ∀ (ts : List T) (o : Nat) (rest : List T), L.drop o = parts.partsL ts ++ rest → ∀ (m : Nat) (c : T), ts[m]? = some c → ∃ j : Nat, (numsL o ts)[m]? = some (j : Int) ∧ j < o + T.sz.szL ts ∧ L[j]? = some c := by
  intro ts
  induction ts with
  | nil => intro o rest _ m c h; simp at h
  | cons t ts ih =>
    intro o rest h m c hm
    have hp := t.sz_pos
    rw [partsL_cons, List.append_assoc] at h
    rw [T.szL_cons]
    cases m with
    | zero =>
      have hc : t = c := by simpa using hm
      subst hc
      refine ⟨o + t.sz - 1, ?_, by omega, ?_⟩
      · rw [numsL, List.getElem?_cons_zero, show ((o + t.sz : Nat) : Int) - 1 = ((o + t.sz - 1 : Nat) : Int) by omega]
      · have h1 : (L.drop o)[t.sz - 1]? = some t := by
          rw [h, List.getElem?_append_left (by rw [parts_len]; omega), parts_eq, List.getElem?_append_right (by rw [partsL_len]; have := T.sz_eq t; omega), partsL_len]
          rw [show t.sz - 1 - T.sz.szL t.args = 0 by have := T.sz_eq t; omega]; rfl
        rw [List.getElem?_drop] at h1
        rw [show o + t.sz - 1 = o + (t.sz - 1) by omega]; exact h1
    | succ m =>
      have h2 : L.drop (o + t.sz) = parts.partsL ts ++ rest := by
        rw [← List.drop_drop, h, ← parts_len t, List.drop_left]
      obtain ⟨j, g1, g2, g3⟩ := ih (o + t.sz) rest h2 m c (by simpa using hm)
      exact ⟨j, by rw [numsL, List.getElem?_cons_succ]; exact g1, by omega, g3⟩

/-- Of each part its list has as many numbers as it has arguments; each is lesser than its own, and is that argument's. -/
theorem args_mean (L : List T) : ∀ (n : Nat), (∀ (t : T) (o : Nat) (rest : List T), t.sz ≤ n → L.drop o = parts t ++ rest → ∀ (i : Nat) (x : T), (parts t)[i]? = some x → ∃ l, (argsAt t o)[i]? = some l ∧ l.length = x.args.length ∧ ∀ (m : Nat) (c : T), x.args[m]? = some c → ∃ j : Nat, l[m]? = some (j : Int) ∧ j < o + i ∧ L[j]? = some c) ∧
    (∀ (ts : List T) (o : Nat) (rest : List T), T.sz.szL ts ≤ n → L.drop o = parts.partsL ts ++ rest → ∀ (i : Nat) (x : T), (parts.partsL ts)[i]? = some x → ∃ l, (argsAt.aL ts o)[i]? = some l ∧ l.length = x.args.length ∧ ∀ (m : Nat) (c : T), x.args[m]? = some c → ∃ j : Nat, l[m]? = some (j : Int) ∧ j < o + i ∧ L[j]? = some c) := by
  intro n
  induction n with
  | zero =>
    refine ⟨fun t o rest h => by have := t.sz_pos; omega, fun ts o rest h _ i x hx => ?_⟩
    cases ts with
    | nil => simp [parts.partsL] at hx
    | cons t ts => have := t.sz_pos; rw [T.szL_cons] at h; omega
  | succ n ih =>
    have h1 : ∀ (t : T) (o : Nat) (rest : List T), t.sz ≤ n + 1 → L.drop o = parts t ++ rest → ∀ (i : Nat) (x : T), (parts t)[i]? = some x → ∃ l, (argsAt t o)[i]? = some l ∧ l.length = x.args.length ∧ ∀ (m : Nat) (c : T), x.args[m]? = some c → ∃ j : Nat, l[m]? = some (j : Int) ∧ j < o + i ∧ L[j]? = some c := fun t o rest h hd i x hx => by
      have hts := T.sz_eq t
      rw [parts_eq, List.append_assoc] at hd
      rw [parts_eq] at hx
      have hal : (argsAt.aL t.args o).length = T.sz.szL t.args := (args_length _).2 t.args o (Nat.le_refl _)
      rw [argsAt_eq]
      rcases Nat.lt_or_ge i (T.sz.szL t.args) with hi | hi
      · rw [List.getElem?_append_left (by rw [partsL_len]; exact hi)] at hx
        obtain ⟨l, g1, g2, g3⟩ := ih.2 t.args o ([t] ++ rest) (by omega) hd i x hx
        exact ⟨l, by rw [List.getElem?_append_left (by rw [hal]; exact hi)]; exact g1, g2, g3⟩
      · rw [List.getElem?_append_right (by rw [partsL_len]; exact hi), partsL_len] at hx
        have hi2 : i = T.sz.szL t.args := by
          rcases Nat.lt_or_ge (T.sz.szL t.args) i with h9 | h9
          · rw [List.getElem?_eq_none (by simp; omega)] at hx; cases hx
          · omega
        subst hi2
        rw [Nat.sub_self] at hx
        have hxt : t = x := by simpa using hx
        subst hxt
        refine ⟨numsL o t.args, by rw [List.getElem?_append_right (by omega), hal, Nat.sub_self]; rfl, numsL_length _ _, fun m c hm => ?_⟩
        exact nums_at L t.args o ([t] ++ rest) hd m c hm
    refine ⟨h1, fun ts => ?_⟩
    induction ts with
    | nil => intro o rest _ _ i x hx; simp [parts.partsL] at hx
    | cons t ts iht =>
      intro o rest h hd i x hx
      rw [T.szL_cons] at h
      rw [partsL_cons] at hx
      rw [partsL_cons, List.append_assoc] at hd
      have hal : (argsAt t o).length = t.sz := (args_length _).1 t o (Nat.le_refl _)
      rw [aL_cons]
      rcases Nat.lt_or_ge i t.sz with hi | hi
      · rw [List.getElem?_append_left (by rw [parts_len]; exact hi)] at hx
        obtain ⟨l, g1, g2, g3⟩ := h1 t o (parts.partsL ts ++ rest) (by omega) hd i x hx
        exact ⟨l, by rw [List.getElem?_append_left (by rw [hal]; exact hi)]; exact g1, g2, g3⟩
      · rw [List.getElem?_append_right (by rw [parts_len]; exact hi), parts_len] at hx
        have hd2 : L.drop (o + t.sz) = parts.partsL ts ++ rest := by
          rw [← List.drop_drop, hd, ← parts_len t, List.drop_left]
        obtain ⟨l, g1, g2, g3⟩ := iht (o + t.sz) rest (by omega) hd2 (i - t.sz) x hx
        refine ⟨l, by rw [List.getElem?_append_right (by omega), hal]; exact g1, g2, fun m c hm => ?_⟩
        obtain ⟨j, k1, k2, k3⟩ := g3 m c hm
        exact ⟨j, k1, by omega, k3⟩

theorem args_of {s : T} {i : Nat} {x : T} (h : (parts s)[i]? = some x) : ∃ l, (argsAt s 0)[i]? = some l ∧ l.length = x.args.length ∧ ∀ (m : Nat) (c : T), x.args[m]? = some c → ∃ j : Nat, l[m]? = some (j : Int) ∧ j < i ∧ (parts s)[j]? = some c := by
  obtain ⟨l, h1, h2, h3⟩ := (args_mean (parts s) _).1 s 0 [] (Nat.le_refl _) (by simp) i x h
  exact ⟨l, h1, h2, fun m c hm => by
    obtain ⟨j, g1, g2, g3⟩ := h3 m c hm
    exact ⟨j, g1, by omega, g3⟩⟩

end Go.Proofs.Ytbkedppkdhfpoaa
