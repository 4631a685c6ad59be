/- How a term lies in the program's memory, and that it stays there as long as nothing of it is written. -/
import Derived.Test.YtppeedpmofimhaaTree
import Derived.WalkKit
namespace Go.Proofs.Ytppeedpmofimhaa
open Go.RowKit

theorem hide {p : Prop} (h : p) : Hid p := h

/-- The arguments of a term lie behind the slice 's', in blocks of which p holds. -/
def T.In (p : Nat → Prop) (w : World) : T → Value → Prop
  | ⟨_, _, args⟩, s => ∃ a cap, s = .slice a args.length cap ∧ InL args a
  where
  InL : List T → Option Addr → Prop
    | [], _ => True
    | t :: ts, a => ∃ b off s, a = some ⟨b, off, none⟩ ∧ p b ∧ w.cell? ⟨b, off, none⟩ = some (.int .i64 t.v) ∧ w.cell? ⟨b, off + 1, none⟩ = some (.int .i64 t.f) ∧ w.cell? ⟨b, off + 2, none⟩ = some s ∧
        t.In p w s ∧ InL ts (some ⟨b, off + 3, none⟩)

/-- The terms of a list lie one behind the other from an address on, in blocks of which p holds. -/
abbrev InP (p : Nat → Prop) (w : World) (ts : List T) (a : Option Addr) : Prop := T.In.InL p w ts a
/-- .. in whatever blocks. -/
abbrev InL (w : World) (ts : List T) (a : Option Addr) : Prop := InP (fun _ => True) w ts a

theorem InP_cons {p : Nat → Prop} {w : World} {t : T} {ts : List T} {a : Option Addr} : InP p w (t :: ts) a ↔ ∃ b off s, a = some ⟨b, off, none⟩ ∧ p b ∧ w.cell? ⟨b, off, none⟩ = some (.int .i64 t.v) ∧ w.cell? ⟨b, off + 1, none⟩ = some (.int .i64 t.f) ∧
    w.cell? ⟨b, off + 2, none⟩ = some s ∧ t.In p w s ∧ InP p w ts (some ⟨b, off + 3, none⟩) := Iff.rfl
theorem InP_nil {p : Nat → Prop} {w : World} {a : Option Addr} : InP p w [] a := trivial
theorem In_iff {p : Nat → Prop} {w : World} {t : T} {s : Value} : t.In p w s ↔ ∃ a cap, s = .slice a t.args.length cap ∧ InP p w t.args a := by
  cases t; exact Iff.rfl

/-- The term at index k: its three cells. -/
theorem InP_at {p : Nat → Prop} {w : World} {ts : List T} : ∀ {b off k : Nat} {t : T}, InP p w ts (some ⟨b, off, none⟩) → ts[k]? = some t →
    ∃ a cap, p b ∧ w.cell? ⟨b, off + k * 3, none⟩ = some (.int .i64 t.v) ∧ w.cell? ⟨b, off + k * 3 + 1, none⟩ = some (.int .i64 t.f) ∧ w.cell? ⟨b, off + k * 3 + 2, none⟩ = some (.slice a t.args.length cap) ∧ InP p w t.args a := by
  induction ts with
  | nil => intro b off k t _ h; simp at h
  | cons u us ih =>
    intro b off k t h hk
    obtain ⟨b', off', s, hb, hp, h0, h1, h2, hin, hr⟩ := InP_cons.1 h
    simp only [Option.some.injEq, Addr.mk.injEq] at hb
    obtain ⟨rfl, rfl, _⟩ := hb
    cases k with
    | zero =>
      simp at hk; subst hk
      obtain ⟨a, cap, rfl, hl⟩ := In_iff.1 hin
      exact ⟨a, cap, hp, by simpa using h0, by simpa using h1, by simpa using h2, hl⟩
    | succ k =>
      simp at hk
      obtain ⟨a, cap, _, g0, g1, g2, gl⟩ := ih hr hk
      refine ⟨a, cap, hp, ?_, ?_, ?_, gl⟩
      · rw [show off + (k + 1) * 3 = off + 3 + k * 3 from by omega]; exact g0
      · rw [show off + (k + 1) * 3 = off + 3 + k * 3 from by omega]; exact g1
      · rw [show off + (k + 1) * 3 = off + 3 + k * 3 from by omega]; exact g2

theorem InP_some {p : Nat → Prop} {w : World} {ts : List T} {a : Option Addr} (h : InP p w ts a) (hp : 0 < ts.length) : ∃ b off, a = some ⟨b, off, none⟩ := by
  cases ts with
  | nil => simp at hp
  | cons t us =>
    obtain ⟨b, off, s, rfl, _⟩ := InP_cons.1 h
    exact ⟨b, off, rfl⟩

theorem lt_of_cell {w : World} {b o : Nat} {v : Value} (h : w.cell? ⟨b, o, none⟩ = some v) : b < w.heap.size := by
  rcases Nat.lt_or_ge b w.heap.size with h' | h'
  · exact h'
  · unfold World.cell? at h
    rw [Array.getElem?_eq_none h'] at h; cases h

/-- What lies in w lies in every world that holds the same cells there. -/
theorem InP_mono {p q : Nat → Prop} {w w' : World} (hs : ∀ b o v, p b → w.cell? ⟨b, o, none⟩ = some v → q b ∧ w'.cell? ⟨b, o, none⟩ = some v) : ∀ (n : Nat) (ts : List T) (a : Option Addr), T.sz.szL ts ≤ n → InP p w ts a → InP q w' ts a := by
  intro n
  induction n with
  | zero =>
    intro ts a hn h
    cases ts with
    | nil => exact InP_nil
    | cons t ts => have := t.sz_pos; rw [T.szL_cons] at hn; omega
  | succ n ih =>
    intro ts
    induction ts with
    | nil => intro a _ _; exact InP_nil
    | cons t ts iht =>
      intro a hn h
      rw [T.szL_cons, T.sz_eq] at hn
      obtain ⟨b, off, s, rfl, hp, h0, h1, h2, hin, hr⟩ := InP_cons.1 h
      obtain ⟨a, cap, rfl, hl⟩ := In_iff.1 hin
      exact InP_cons.2 ⟨b, off, _, rfl, (hs _ _ _ hp h0).1, (hs _ _ _ hp h0).2, (hs _ _ _ hp h1).2, (hs _ _ _ hp h2).2, In_iff.2 ⟨a, cap, rfl, ih _ _ (by omega) hl⟩, iht _ (by omega) hr⟩

theorem InP_same {p : Nat → Prop} {w w' : World} {ts : List T} {a : Option Addr} (hs : ∀ k, p k → k < w.heap.size → w'.heap[k]? = w.heap[k]?) (h : InP p w ts a) : InP p w' ts a :=
  InP_mono (fun b o v hp hv => ⟨hp, by rw [World.cell?_of_block (w := w) (a := ⟨b, o, none⟩) (hs b hp (lt_of_cell hv))]; exact hv⟩) _ _ _ (Nat.le_refl _) h

theorem InP_below {p : Nat → Prop} {w w' : World} {ts : List T} {a : Option Addr} (hb : Below w.heap.size w w') (h : InP p w ts a) : InP p w' ts a :=
  InP_same (fun k _ hk => hb.block k hk) h

theorem InP_alloc {p : Nat → Prop} {w : World} {ts : List T} {a : Option Addr} (o : Obj) (h : InP p w ts a) : InP p (w.alloc o) ts a :=
  InP_below ((Below.refl _ _).alloc (Nat.le_refl _) o) h

/-- All that lies there lies below the heap's end. -/
theorem InP_lt {p : Nat → Prop} {w : World} {ts : List T} {a : Option Addr} (h : InP p w ts a) : InP (fun k => p k ∧ k < w.heap.size) w ts a :=
  InP_mono (fun _ _ _ hp hv => ⟨⟨hp, lt_of_cell hv⟩, hv⟩) _ _ _ (Nat.le_refl _) h
theorem InP_imp {p q : Nat → Prop} {w : World} {ts : List T} {a : Option Addr} (hpq : ∀ k, p k → q k) (h : InP p w ts a) : InP q w ts a :=
  InP_mono (fun _ _ _ hp hv => ⟨hpq _ hp, hv⟩) _ _ _ (Nat.le_refl _) h

/-- Numbers that lie one behind the other from an address on. -/
def Ints (w : World) (zs : List Int) (a : Option Addr) : Prop :=
  zs = [] ∨ ∃ b off, a = some ⟨b, off, none⟩ ∧ ∀ i, i < zs.length → w.cell? ⟨b, off + i, none⟩ = some (.int .i64 (zs.getD i 0))

theorem Ints_below {w w' : World} {zs : List Int} {a : Option Addr} (hb : Below w.heap.size w w') (h : Ints w zs a) : Ints w' zs a := by
  rcases h with h | ⟨b, off, rfl, h⟩
  · exact Or.inl h
  · exact Or.inr ⟨b, off, rfl, fun i hi => by rw [hb.cell (p := ⟨b, off + i, none⟩) (lt_of_cell (h i hi))]; exact h i hi⟩
theorem Ints_alloc {w : World} {zs : List Int} {a : Option Addr} (o : Obj) (h : Ints w zs a) : Ints (w.alloc o) zs a := Ints_below ((Below.refl _ _).alloc (Nat.le_refl _) o) h
theorem Ints_some {w : World} {zs : List Int} {a : Option Addr} (h : Ints w zs a) (hp : 0 < zs.length) : ∃ b off, a = some ⟨b, off, none⟩ ∧ ∀ i, i < zs.length → w.cell? ⟨b, off + i, none⟩ = some (.int .i64 (zs.getD i 0)) := by
  rcases h with rfl | h
  · simp at hp
  · exact h

theorem below1 (w : World) (o1 : Obj) : Below w.heap.size w (w.alloc o1) := (Below.refl _ _).alloc (Nat.le_refl _) o1

theorem ret_int {k : IntKind} {a b : Int} (h : a = b) : Ending.returned (.int k a) = .returned (.int k b) := by rw [h]
theorem ret_bool {a b : Bool} (h : a = b) : Ending.returned (.bool a) = .returned (.bool b) := by rw [h]

end Go.Proofs.Ytppeedpmofimhaa
