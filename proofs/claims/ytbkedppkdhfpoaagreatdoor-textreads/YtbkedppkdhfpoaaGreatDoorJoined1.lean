/- The terms of the document as plain data, and how big they are: no word of the program here. How a term lies in the program's memory, and that it stays there as long as nothing of it is written. The program's looks at a signature and at a part alone. Texts: what a builder of text does: its check of itself, and a text written to it. The program's count of variables and functions, which stops at a limit. The program's going through the parts of terms, with whatever it does at each. The program's checks of terms, against the document's order of errors. The program's Size, and its way to a place. Terms that the program has made itself: every list of arguments in a block of its own. -/
import Derived.BigQuiet
import Derived.Deep.QuietTactic
import Derived.Deep.RegionWith
import Derived.Lib.AppendStr
import Derived.Lib.Builder
import Derived.Lib.UnsafeStr
import Derived.Outline
import Derived.OwnWalk
import Derived.Test.YtbkedppkdhfpoaaGreatDoorProg
import Derived.WalkKit
import Derived.WalkLawsBesides
import Derived.WalkSpells
namespace Go.Proofs.YtbkedppkdhfpoaaGreatDoor

/-- A term: its variable's number, its function's number, its arguments. -/
structure T where
  v : Int
  f : Int
  args : List T

/-- How many variables and functions a term has. -/
def T.sz : T → Nat
  | ⟨_, _, args⟩ => 1 + szL args
  where
  szL : List T → Nat
    | [] => 0
    | t :: ts => t.sz + szL ts

theorem T.sz_pos (t : T) : 1 ≤ t.sz := by
  cases t; simp [T.sz]

theorem T.szL_nil : T.sz.szL [] = 0 := rfl
theorem T.szL_cons (t : T) (ts : List T) : T.sz.szL (t :: ts) = t.sz + T.sz.szL ts := rfl
theorem T.sz_eq (t : T) : t.sz = 1 + T.sz.szL t.args := by cases t; rfl
theorem T.szL_append (a b : List T) : T.sz.szL (a ++ b) = T.sz.szL a + T.sz.szL b := by
  induction a with
  | nil => simp [T.szL_nil]
  | cons t ts ih => simp [T.szL_cons, ih, Nat.add_assoc]
theorem T.length_le (l : List T) : l.length ≤ T.sz.szL l := by
  induction l with
  | nil => simp [T.szL_nil]
  | cons a l ih => have := a.sz_pos; simp [T.szL_cons]; omega
theorem T.szL_mem {t : T} {l : List T} (h : t ∈ l) : t.sz ≤ T.sz.szL l := by
  induction l with
  | nil => cases h
  | cons a l ih =>
    rw [T.szL_cons]
    rcases List.mem_cons.1 h with rfl | h
    · omega
    · have := ih h; omega

/-- What is wrong with a signature: too many functions, or an arity out of range. -/
def sigErr (ar : List Int) : Int :=
  if 12 < ar.length then 2 else if ar.all (fun n => decide (0 ≤ n ∧ n ≤ 3)) then 0 else 3

/-- What is wrong with a part alone. -/
def partErr (ar : List Int) (v f : Int) (n : Nat) : Int :=
  if v ≠ 0 then (if v < 1 ∨ 1000 < v then 3 else if n ≠ 0 ∨ f ≠ 0 then 1 else 0)
  else if f < 0 ∨ (ar.length : Int) ≤ f then 5 else if (n : Int) ≠ ar.getD f.toNat 0 then 1 else 0

/-- The parts are gone through, each behind those that stand in it, from the left, with a state, till one says no. -/
def lookT {S : Type} (step : S → T → S × Bool) : S → T → S × Bool
  | s, ⟨v, f, args⟩ =>
    let r := lookL s args
    if r.2 = false then (r.1, false) else step r.1 ⟨v, f, args⟩
  where
  lookL : S → List T → S × Bool
    | s, [] => (s, true)
    | s, t :: ts =>
      let r := lookT step s t
      if r.2 = false then (r.1, false) else lookL r.1 ts

theorem lookL_nil {S : Type} (step : S → T → S × Bool) (s : S) : lookT.lookL step s [] = (s, true) := rfl
theorem lookT_eq {S : Type} (step : S → T → S × Bool) (s : S) (t : T) : lookT step s t = if (lookT.lookL step s t.args).2 = false then ((lookT.lookL step s t.args).1, false) else step (lookT.lookL step s t.args).1 t := by
  cases t; rfl
theorem lookL_cons {S : Type} (step : S → T → S × Bool) (s : S) (t : T) (ts : List T) : lookT.lookL step s (t :: ts) = if (lookT step s t).2 = false then ((lookT step s t).1, false) else lookT.lookL step (lookT step s t).1 ts := rfl

theorem lookL_append {S : Type} (step : S → T → S × Bool) (a b : List T) : ∀ s : S, lookT.lookL step s (a ++ b) = if (lookT.lookL step s a).2 = false then ((lookT.lookL step s a).1, false) else lookT.lookL step (lookT.lookL step s a).1 b := by
  induction a with
  | nil => intro s; simp [lookL_nil]
  | cons t ts ih =>
    intro s
    rw [List.cons_append, lookL_cons, lookL_cons]
    by_cases h : (lookT step s t).2 = false
    · simp [h]
    · rw [if_neg h, if_neg h, ih]
theorem lookL_step {S : Type} {step : S → T → S × Bool} {s sk s2 : S} {ts : List T} {k : Nat} {t : T} (ht : ts[k]? = some t) (h : lookT.lookL step s (ts.take k) = (sk, true)) :
    (lookT step sk t = (s2, true) → lookT.lookL step s (ts.take (k + 1)) = (s2, true)) ∧ (lookT step sk t = (s2, false) → lookT.lookL step s ts = (s2, false)) := by
  have hlt : k < ts.length := by
    rcases Nat.lt_or_ge k ts.length with h | h
    · exact h
    · rw [List.getElem?_eq_none h] at ht; cases ht
  constructor
  · intro h2
    rw [List.take_add_one, ht, lookL_append, h]
    simp [lookL_cons, h2, lookL_nil]
  · intro h2
    have e : ts = ts.take k ++ t :: ts.drop (k + 1) := by
      rw [List.getElem?_eq_getElem hlt] at ht
      simp at ht
      rw [← ht, List.getElem_cons_drop, List.take_append_drop]
    rw [e, lookL_append, h]
    simp [lookL_cons, h2]

/-- What each part adds to a measure of the state, all parts add. -/
theorem look_mu {S : Type} {step : S → T → S × Bool} {mu : S → Nat} (h : ∀ s t, mu (step s t).1 ≤ mu s + 1) : ∀ (n : Nat), (∀ (t : T) (s : S), t.sz ≤ n → mu (lookT step s t).1 ≤ mu s + t.sz) ∧ (∀ (ts : List T) (s : S), T.sz.szL ts ≤ n → mu (lookT.lookL step s ts).1 ≤ mu s + T.sz.szL ts) := by
  intro n
  induction n with
  | zero =>
    refine ⟨fun t s hn => by have := t.sz_pos; omega, fun ts s hn => ?_⟩
    cases ts with
    | nil => simp [lookL_nil]
    | cons t ts => have := t.sz_pos; rw [T.szL_cons] at hn; omega
  | succ n ih =>
    have h1 : ∀ (t : T) (s : S), t.sz ≤ n + 1 → mu (lookT step s t).1 ≤ mu s + t.sz := fun t s hn => by
      rw [T.sz_eq] at hn ⊢
      have h2 := ih.2 t.args s (by omega)
      rw [lookT_eq]
      by_cases h3 : (lookT.lookL step s t.args).2 = false
      · rw [if_pos h3]; show mu (lookT.lookL step s t.args).1 ≤ _; omega
      · rw [if_neg h3]
        have := h (lookT.lookL step s t.args).1 t
        omega
    refine ⟨h1, fun ts => ?_⟩
    induction ts with
    | nil => intro s _; simp [lookL_nil]
    | cons t ts iht =>
      intro s hn
      rw [T.szL_cons] at hn ⊢
      have h2 := h1 t s (by omega)
      rw [lookL_cons]
      by_cases h3 : (lookT step s t).2 = false
      · rw [if_pos h3]; show mu (lookT step s t).1 ≤ _; omega
      · rw [if_neg h3]
        have := iht (lookT step s t).1 (by omega)
        omega

end Go.Proofs.YtbkedppkdhfpoaaGreatDoor

namespace Go.Proofs.YtbkedppkdhfpoaaGreatDoor
open Go.RowKit

theorem hide {p : Prop} (h : p) : Hid p := h

/-- The arguments of a term lie behind the slice 's', in blocks of which p holds. -/
def T.In (p : Nat → Prop) (w : World) : T → Value → Prop
  | ⟨_, _, args⟩, s => ∃ a cap, s = .slice a args.length cap ∧ InL args a
  where
  InL : List T → Option Addr → Prop
    | [], _ => True
    | t :: ts, a => ∃ b off s, a = some ⟨b, off, none⟩ ∧ p b ∧ w.cell? ⟨b, off, none⟩ = some (.int .i64 t.v) ∧ w.cell? ⟨b, off + 1, none⟩ = some (.int .i64 t.f) ∧ w.cell? ⟨b, off + 2, none⟩ = some s ∧
        t.In p w s ∧ InL ts (some ⟨b, off + 3, none⟩)

/-- The terms of a list lie one behind the other from an address on, in blocks of which p holds. -/
abbrev InP (p : Nat → Prop) (w : World) (ts : List T) (a : Option Addr) : Prop := T.In.InL p w ts a
/-- .. in whatever blocks. -/
abbrev InL (w : World) (ts : List T) (a : Option Addr) : Prop := InP (fun _ => True) w ts a

theorem InP_cons {p : Nat → Prop} {w : World} {t : T} {ts : List T} {a : Option Addr} : InP p w (t :: ts) a ↔ ∃ b off s, a = some ⟨b, off, none⟩ ∧ p b ∧ w.cell? ⟨b, off, none⟩ = some (.int .i64 t.v) ∧ w.cell? ⟨b, off + 1, none⟩ = some (.int .i64 t.f) ∧
    w.cell? ⟨b, off + 2, none⟩ = some s ∧ t.In p w s ∧ InP p w ts (some ⟨b, off + 3, none⟩) := Iff.rfl
theorem InP_nil {p : Nat → Prop} {w : World} {a : Option Addr} : InP p w [] a := trivial
theorem In_iff {p : Nat → Prop} {w : World} {t : T} {s : Value} : t.In p w s ↔ ∃ a cap, s = .slice a t.args.length cap ∧ InP p w t.args a := by
  cases t; exact Iff.rfl

/-- The term at index k: its three cells. -/
theorem InP_at {p : Nat → Prop} {w : World} {ts : List T} : ∀ {b off k : Nat} {t : T}, InP p w ts (some ⟨b, off, none⟩) → ts[k]? = some t →
    ∃ a cap, p b ∧ w.cell? ⟨b, off + k * 3, none⟩ = some (.int .i64 t.v) ∧ w.cell? ⟨b, off + k * 3 + 1, none⟩ = some (.int .i64 t.f) ∧ w.cell? ⟨b, off + k * 3 + 2, none⟩ = some (.slice a t.args.length cap) ∧ InP p w t.args a := by
  induction ts with
  | nil => intro b off k t _ h; simp at h
  | cons u us ih =>
    intro b off k t h hk
    obtain ⟨b', off', s, hb, hp, h0, h1, h2, hin, hr⟩ := InP_cons.1 h
    simp only [Option.some.injEq, Addr.mk.injEq] at hb
    obtain ⟨rfl, rfl, _⟩ := hb
    cases k with
    | zero =>
      simp at hk; subst hk
      obtain ⟨a, cap, rfl, hl⟩ := In_iff.1 hin
      exact ⟨a, cap, hp, by simpa using h0, by simpa using h1, by simpa using h2, hl⟩
    | succ k =>
      simp at hk
      obtain ⟨a, cap, _, g0, g1, g2, gl⟩ := ih hr hk
      refine ⟨a, cap, hp, ?_, ?_, ?_, gl⟩
      · rw [show off + (k + 1) * 3 = off + 3 + k * 3 from by omega]; exact g0
      · rw [show off + (k + 1) * 3 = off + 3 + k * 3 from by omega]; exact g1
      · rw [show off + (k + 1) * 3 = off + 3 + k * 3 from by omega]; exact g2

theorem InP_some {p : Nat → Prop} {w : World} {ts : List T} {a : Option Addr} (h : InP p w ts a) (hp : 0 < ts.length) : ∃ b off, a = some ⟨b, off, none⟩ := by
  cases ts with
  | nil => simp at hp
  | cons t us =>
    obtain ⟨b, off, s, rfl, _⟩ := InP_cons.1 h
    exact ⟨b, off, rfl⟩

theorem lt_of_cell {w : World} {b o : Nat} {v : Value} (h : w.cell? ⟨b, o, none⟩ = some v) : b < w.heap.size := by
  rcases Nat.lt_or_ge b w.heap.size with h' | h'
  · exact h'
  · unfold World.cell? at h
    rw [Array.getElem?_eq_none h'] at h; cases h

/-- What lies in w lies in every world that holds the same cells there. -/
theorem InP_mono {p q : Nat → Prop} {w w' : World} (hs : ∀ b o v, p b → w.cell? ⟨b, o, none⟩ = some v → q b ∧ w'.cell? ⟨b, o, none⟩ = some v) : ∀ (n : Nat) (ts : List T) (a : Option Addr), T.sz.szL ts ≤ n → InP p w ts a → InP q w' ts a := by
  intro n
  induction n with
  | zero =>
    intro ts a hn h
    cases ts with
    | nil => exact InP_nil
    | cons t ts => have := t.sz_pos; rw [T.szL_cons] at hn; omega
  | succ n ih =>
    intro ts
    induction ts with
    | nil => intro a _ _; exact InP_nil
    | cons t ts iht =>
      intro a hn h
      rw [T.szL_cons, T.sz_eq] at hn
      obtain ⟨b, off, s, rfl, hp, h0, h1, h2, hin, hr⟩ := InP_cons.1 h
      obtain ⟨a, cap, rfl, hl⟩ := In_iff.1 hin
      exact InP_cons.2 ⟨b, off, _, rfl, (hs _ _ _ hp h0).1, (hs _ _ _ hp h0).2, (hs _ _ _ hp h1).2, (hs _ _ _ hp h2).2, In_iff.2 ⟨a, cap, rfl, ih _ _ (by omega) hl⟩, iht _ (by omega) hr⟩

theorem InP_same {p : Nat → Prop} {w w' : World} {ts : List T} {a : Option Addr} (hs : ∀ k, p k → k < w.heap.size → w'.heap[k]? = w.heap[k]?) (h : InP p w ts a) : InP p w' ts a :=
  InP_mono (fun b o v hp hv => ⟨hp, by rw [World.cell?_of_block (w := w) (a := ⟨b, o, none⟩) (hs b hp (lt_of_cell hv))]; exact hv⟩) _ _ _ (Nat.le_refl _) h

theorem InP_below {p : Nat → Prop} {w w' : World} {ts : List T} {a : Option Addr} (hb : Below w.heap.size w w') (h : InP p w ts a) : InP p w' ts a :=
  InP_same (fun k _ hk => hb.block k hk) h

theorem InP_alloc {p : Nat → Prop} {w : World} {ts : List T} {a : Option Addr} (o : Obj) (h : InP p w ts a) : InP p (w.alloc o) ts a :=
  InP_below ((Below.refl _ _).alloc (Nat.le_refl _) o) h

/-- All that lies there lies below the heap's end. -/
theorem InP_lt {p : Nat → Prop} {w : World} {ts : List T} {a : Option Addr} (h : InP p w ts a) : InP (fun k => p k ∧ k < w.heap.size) w ts a :=
  InP_mono (fun _ _ _ hp hv => ⟨⟨hp, lt_of_cell hv⟩, hv⟩) _ _ _ (Nat.le_refl _) h
theorem InP_imp {p q : Nat → Prop} {w : World} {ts : List T} {a : Option Addr} (hpq : ∀ k, p k → q k) (h : InP p w ts a) : InP q w ts a :=
  InP_mono (fun _ _ _ hp hv => ⟨hpq _ hp, hv⟩) _ _ _ (Nat.le_refl _) h

/-- Numbers that lie one behind the other from an address on. -/
def Ints (w : World) (zs : List Int) (a : Option Addr) : Prop :=
  zs = [] ∨ ∃ b off, a = some ⟨b, off, none⟩ ∧ ∀ i, i < zs.length → w.cell? ⟨b, off + i, none⟩ = some (.int .i64 (zs.getD i 0))

theorem Ints_below {w w' : World} {zs : List Int} {a : Option Addr} (hb : Below w.heap.size w w') (h : Ints w zs a) : Ints w' zs a := by
  rcases h with h | ⟨b, off, rfl, h⟩
  · exact Or.inl h
  · exact Or.inr ⟨b, off, rfl, fun i hi => by rw [hb.cell (p := ⟨b, off + i, none⟩) (lt_of_cell (h i hi))]; exact h i hi⟩
theorem Ints_alloc {w : World} {zs : List Int} {a : Option Addr} (o : Obj) (h : Ints w zs a) : Ints (w.alloc o) zs a := Ints_below ((Below.refl _ _).alloc (Nat.le_refl _) o) h
theorem Ints_some {w : World} {zs : List Int} {a : Option Addr} (h : Ints w zs a) (hp : 0 < zs.length) : ∃ b off, a = some ⟨b, off, none⟩ ∧ ∀ i, i < zs.length → w.cell? ⟨b, off + i, none⟩ = some (.int .i64 (zs.getD i 0)) := by
  rcases h with rfl | h
  · simp at hp
  · exact h

theorem below1 (w : World) (o1 : Obj) : Below w.heap.size w (w.alloc o1) := (Below.refl _ _).alloc (Nat.le_refl _) o1

theorem ret_int {k : IntKind} {a b : Int} (h : a = b) : Ending.returned (.int k a) = .returned (.int k b) := by rw [h]
end Go.Proofs.YtbkedppkdhfpoaaGreatDoor

namespace Go.Proofs.YtbkedppkdhfpoaaGreatDoor
open Go.RowKit

theorem Tryz.underlying22 : Tryz.prog.underlying 22 = some (.slice 3) := by kernel_rfl

theorem all_take_succ {ar : List Int} {k : Nat} {p : Int → Bool} (hk : k < ar.length) : (ar.take (k + 1)).all p = ((ar.take k).all p && p (ar.getD k 0)) := by
  rw [List.take_add_one, List.getElem?_eq_getElem hk, List.getD_eq_getElem?_getD, List.getElem?_eq_getElem hk]
  simp only [List.all_append, Option.toList_some, List.all_cons, List.all_nil, Bool.and_true, Option.getD_some]

theorem all_of_take {ar : List Int} {k : Nat} {p : Int → Bool} (hk : k < ar.length) (h : p (ar.getD k 0) = false) : ar.all p = false := by
  rw [List.getD_eq_getElem?_getD, List.getElem?_eq_getElem hk] at h
  rw [List.all_eq_false]
  exact ⟨ar[k], List.getElem_mem hk, by simpa using h⟩

set_option maxRecDepth 100000 in
set_option maxHeartbeats 400000 in
theorem signature_any (ar : List Int) (ga : Option Addr) (gcap : Nat) (w : World) (hg : Ints w ar ga) :
    Calls Tryz.prog 30 #[.agg #[.slice ga ar.length gcap]] w fun e w' => e = .returned (.int .i64 (sigErr ar)) ∧ Below w.heap.size w w' := by
  by_cases hlen : 12 < ar.length
  · have hfin : sigErr ar = 2 := by simp [sigErr, hlen]
    rw [hfin]
    clear hfin
    go_enter Tryz.func30, Tryz.ntmps30
    go_wp2_with fail
    go_ret
    exact ⟨rfl, below1 _ _⟩
  · have hlen' : ar.length ≤ 12 := by omega
    go_enter Tryz.func30, Tryz.ntmps30
    go_wp2_with fail
    go_loop [4, 12] (fun _ i => ∃ k : Nat, k ≤ ar.length ∧ i = .int .i64 k ∧ Hid ((ar.take k).all (fun n => decide (0 ≤ n ∧ n ≤ 3)) = true)) (fun _ i => ar.length - (intOf i).toNat)
    case atStart => exact ⟨0, Nat.zero_le _, rfl, rfl⟩
    case round =>
      obtain ⟨k, hk, rfl, hall⟩ := hrel
      by_cases hlt : k < ar.length
      · obtain ⟨b, off, rfl, hc⟩ := Ints_some hg (by omega)
        have hck : w.cell? ⟨b, off + k, none⟩ = some (.int .i64 (ar.getD k 0)) := hc k hlt
        have hbk := lt_of_cell hck
        have hs := all_take_succ (p := fun n => decide (0 ≤ n ∧ n ≤ 3)) hlt
        have hf := all_of_take (p := fun n => decide (0 ≤ n ∧ n ≤ 3)) hlt
        have Hs := hide hs
        have Hf := hide hf
        clear hs hf hc
        generalize ar.getD k 0 = n at *
        by_cases h0 : n < 0
        · go_wp2_with fail
          go_ret
          exact ⟨ret_int (by rw [sigErr, if_neg hlen, Hf.out (by simp; omega)]; rfl), below1 _ _⟩
        · by_cases h3 : 3 < n
          · go_wp2_with fail
            go_ret
            exact ⟨ret_int (by rw [sigErr, if_neg hlen, Hf.out (by simp; omega)]; rfl), below1 _ _⟩
          · go_wp2_with fail
            go_round
            case rel => exact ⟨k + 1, by omega, by go_num, by have := Hs.out; rw [hall.out] at this; simpa [Hid, show 0 ≤ n from by omega, show n ≤ 3 from by omega] using this⟩
            case measure => simp [intOf]; omega
      · go_wp2_with fail
        go_ret
        have hk2 : k = ar.length := by omega
        subst hk2
        rw [List.take_length] at hall
        exact ⟨ret_int (by simp only [sigErr, if_neg hlen]; rw [hall.out]; rfl), below1 _ _⟩

def varErr (v f : Int) (n : Nat) : Int := if v < 1 ∨ 1000 < v then 3 else if n ≠ 0 ∨ f ≠ 0 then 1 else 0

set_option maxRecDepth 100000 in
set_option maxHeartbeats 400000 in
theorem checkVar_any (v f : Int) (n : Nat) (a : Option Addr) (cap : Nat) (w : World) :
    Calls Tryz.prog 84 #[.agg #[.int .i64 v, .int .i64 f, .slice a n cap]] w fun e w' => e = .returned (.int .i64 (varErr v f n)) ∧ Below w.heap.size w w' := by
  by_cases h1 : v < 1
  · have hfin : varErr v f n = 3 := by simp [varErr, h1]
    rw [hfin]; clear hfin
    go_enter Tryz.func84, Tryz.ntmps84
    go_wp2_with fail
    go_ret
    exact ⟨rfl, below1 _ _⟩
  · by_cases h2 : 1000 < v
    · have hfin : varErr v f n = 3 := by simp [varErr, h2]
      rw [hfin]; clear hfin
      go_enter Tryz.func84, Tryz.ntmps84
      go_wp2_with fail
      go_ret
      exact ⟨rfl, below1 _ _⟩
    · by_cases h3 : n = 0
      · subst h3
        by_cases h4 : f = 0
        · subst h4
          have hfin : varErr v 0 0 = 0 := by simp [varErr]; omega
          rw [hfin]; clear hfin
          go_enter Tryz.func84, Tryz.ntmps84
          go_wp2_with fail
          go_ret
          exact ⟨rfl, below1 _ _⟩
        · have hfin : varErr v f 0 = 1 := by rw [varErr, if_neg (by omega), if_pos (Or.inr h4)]
          have h4' : (f != 0) = true := by simpa using h4
          rw [hfin]; clear hfin h4
          go_enter Tryz.func84, Tryz.ntmps84
          go_wp2_with fail
          go_ret
          exact ⟨rfl, below1 _ _⟩
      · have hfin : varErr v f n = 1 := by rw [varErr, if_neg (by omega), if_pos (Or.inl h3)]
        have h3' : ((n : Int) != 0) = true := by simpa using h3
        rw [hfin]; clear hfin
        go_enter Tryz.func84, Tryz.ntmps84
        go_wp2_with fail
        go_ret
        exact ⟨rfl, below1 _ _⟩

theorem below2 (w : World) (o1 o2 : Obj) : Below w.heap.size w ((w.alloc o1).alloc o2) := (below1 w o1).alloc (by simp) o2

theorem partErr_var {ar : List Int} {v f : Int} {n : Nat} (h : v ≠ 0) : partErr ar v f n = varErr v f n := by
  simp only [partErr, varErr, if_pos h]

set_option maxRecDepth 100000 in
set_option maxHeartbeats 400000 in
theorem checkPart_any (ar : List Int) (ga : Option Addr) (gcap : Nat) (v f : Int) (n : Nat) (a : Option Addr) (cap : Nat) (w : World) (hg : Ints w ar ga) :
    Calls Tryz.prog 73 #[.agg #[.slice ga ar.length gcap], .agg #[.int .i64 v, .int .i64 f, .slice a n cap]] w fun e w' => e = .returned (.int .i64 (partErr ar v f n)) ∧ Below w.heap.size w w' := by
  by_cases h1 : v = 0
  · subst h1
    by_cases h2 : f < 0
    · have hfin : partErr ar 0 f n = 5 := by simp [partErr, h2]
      rw [hfin]; clear hfin
      go_enter Tryz.func73, Tryz.ntmps73
      go_wp2_with fail
      go_ret
      exact ⟨rfl, below2 _ _ _⟩
    · by_cases h3 : (ar.length : Int) ≤ f
      · have hfin : partErr ar 0 f n = 5 := by simp [partErr, h3]
        rw [hfin]; clear hfin
        go_enter Tryz.func73, Tryz.ntmps73
        go_wp2_with fail
        go_ret
        exact ⟨rfl, below2 _ _ _⟩
      · obtain ⟨k, rfl⟩ := Int.eq_ofNat_of_zero_le (show 0 ≤ f by omega)
        have hk : k < ar.length := by omega
        obtain ⟨b, off, rfl, hc⟩ := Ints_some hg (by omega)
        have hck : w.cell? ⟨b, off + k, none⟩ = some (.int .i64 (ar.getD k 0)) := hc k hk
        have hbk := lt_of_cell hck
        clear hc
        have hfin : partErr ar 0 (k : Int) n = if (n : Int) ≠ ar.getD k 0 then 1 else 0 := by
          rw [partErr, if_neg (by simp), if_neg (by omega), Int.toNat_natCast]
        generalize ar.getD k 0 = m at *
        rw [hfin]
        clear hfin hg
        by_cases h4 : (n : Int) = m
        · subst h4
          rw [if_neg (by simp)]
          go_enter Tryz.func73, Tryz.ntmps73
          go_wp2_with fail
          go_quiet (fail)
          go_wp2_with fail
          go_ret
          exact ⟨rfl, (below2 _ _ _).trans ⟨rfl, rfl, rfl, Nat.le_refl _, fun _ _ => rfl⟩⟩
        · rw [if_pos h4]
          have h4' : ((n : Int) != m) = true := by simpa using h4
          go_enter Tryz.func73, Tryz.ntmps73
          go_wp2_with fail
          go_quiet (fail)
          go_wp2_with fail
          go_ret
          exact ⟨rfl, (below2 _ _ _).trans ⟨rfl, rfl, rfl, Nat.le_refl _, fun _ _ => rfl⟩⟩
  · rw [partErr_var h1]
    have h1' : (v != 0) = true := by simpa using h1
    clear h1
    go_enter Tryz.func73, Tryz.ntmps73
    go_wp2_with (go_at_call 84; refine (checkVar_any v f n a cap _).mono ?_; rintro e w' ⟨rfl, hbw⟩)
    go_ret
    exact ⟨rfl, (below2 _ _ _).trans (hbw.mono (by simp; omega))⟩

end Go.Proofs.YtbkedppkdhfpoaaGreatDoor

namespace Go.Proofs.YtbkedppkdhfpoaaGreatDoor
open Go.RowKit

theorem infoBuilder : (Tryz.prog.info? 72).map (·.size) = some 2 := by kernel_rfl
theorem liesBuilder : liesAt Tryz.prog Tryz.prog.depth 72 (2 / Tryz.prog.cellsOf 72) 0 72 1 = true := by kernel_rfl
/-- A block that is no row of bytes. -/
def NoBytes (w : World) (k : Nat) : Prop := ∀ cs fz, w.heap[k]? ≠ some (.cells cs 5 fz)
/-- Nothing but a builder, and rows of bytes, is written. -/
structure Wrt (b : Nat) (w w' : World) : Prop where
  size : w.heap.size ≤ w'.heap.size
  block : ∀ k, k < w.heap.size → k ≠ b → NoBytes w k → w'.heap[k]? = w.heap[k]?
theorem Wrt.refl (b : Nat) (w : World) : Wrt b w w := ⟨Nat.le_refl _, fun _ _ _ _ => rfl⟩
theorem Wrt.trans {b : Nat} {w w1 w2 : World} (h : Wrt b w w1) (h2 : Wrt b w1 w2) : Wrt b w w2 := by
  refine ⟨Nat.le_trans h.size h2.size, fun k hk hb hn => ?_⟩
  have e := h.block k hk hb hn
  rw [h2.block k (Nat.lt_of_lt_of_le hk h.size) hb (fun cs fz => by rw [e]; exact hn cs fz), e]
theorem Wrt.of_below {b : Nat} {w w' : World} (h : Below w.heap.size w w') : Wrt b w w' := ⟨h.size, fun k hk _ _ => h.block k hk⟩
set_option maxRecDepth 100000 in
set_option maxHeartbeats 1000000 in
theorem copyCheck_any (B b : Nat) (bs : List Value) (w : World) (h : Lib.IsBuilder 72 5 B b bs w) :
    Calls Tryz.prog 54 #[.pointer (some ⟨b, 0, none⟩)] w fun e w' => e = .returned (.tuple #[]) ∧ Lib.BuilderAt 72 5 B b (.pointer (some ⟨b, 0, none⟩)) bs w' ∧ (w' = w ∨ w' = w.setCell ⟨b, 0, none⟩ (.pointer (some ⟨b, 0, none⟩))) := by
  rcases h with h | h
  · have c0 := h.cell0
    have hsh := h.shape
    have hf0 := h.frozen0
    have H := hide h
    clear h
    obtain ⟨j, hj, hjs⟩ := Option.map_eq_some_iff.1 infoBuilder
    go_enter Tryz.func54, Tryz.ntmps54
    have k1 : (convert 69 98 (.pointer (some ⟨b, 0, none⟩))).run Tryz.prog w = .ok (.pointer (some ⟨b, 0, none⟩)) w := Lib.run_to_unsafe w ⟨b, 0, none⟩ Go.Proofs.Tryz.underlying69 Go.Proofs.Tryz.underlying98 hj (by rw [hjs]; decide) hsh (Nat.zero_lt_succ 1)
    have k2 : (convert 98 69 (.pointer (some ⟨b, 0, none⟩))).run Tryz.prog w = .ok (.pointer (some ⟨b, 0, none⟩)) w := Lib.run_from_unsafe w ⟨b, 0, none⟩ Go.Proofs.Tryz.underlying98 Go.Proofs.Tryz.underlying69 hj hsh liesBuilder
    have k3 : (callFunc 61 #[.pointer (some ⟨b, 0, none⟩)]).run Tryz.prog w = .ok (.value (.pointer (some ⟨b, 0, none⟩))) w := by rfl
    go_wp2_with fail
    go_end0
    exact ⟨rfl, H.out.used _, Or.inr rfl⟩
  · have c0 := h.cell0
    have H := hide h
    clear h
    obtain ⟨j, hj, hjs⟩ := Option.map_eq_some_iff.1 infoBuilder
    have k4 := Lib.run_neq_ptr_same (P := Tryz.prog) w ⟨b, 0, none⟩ Go.Proofs.Tryz.underlying69 hj
    go_enter Tryz.func54, Tryz.ntmps54
    go_wp2_with fail
    go_end0
    exact ⟨rfl, H.out, Or.inl rfl⟩
theorem infoByte : (Tryz.prog.info? 5).map (fun i => (i.zero, i.size, i.bytes)) = some (some (.int .u8 0), 1, 1) := by kernel_rfl
set_option maxRecDepth 100000 in
set_option maxHeartbeats 2000000 in
/-- What is written is behind what was there. -/
theorem writeString_any (B b : Nat) (bs : List Value) (s : ByteArray) (w : World) (h : Lib.IsBuilder 72 5 B b bs w) (hlen : bs.length + s.size ≤ 140737488355328) (hBw : B ≤ w.heap.size) :
    Calls Tryz.prog 42 #[.pointer (some ⟨b, 0, none⟩), .string s] w fun e w' => e = .returned (.tuple #[.int .i64 s.size, .nilIface]) ∧ Lib.BuilderAt 72 5 B b (.pointer (some ⟨b, 0, none⟩)) (bs ++ Lib.strCells s) w' ∧ Below B w w' ∧ Wrt b w w' := by
  obtain ⟨i0, hi, hz0, hz1, hz2⟩ := info_parts infoByte
  have HC := hide (copyCheck_any B b bs w h)
  clear h
  go_enter Tryz.func42, Tryz.ntmps42
  go_wp2_with fail
  refine HC.out.mono ?_
  rintro e w1 ⟨rfl, h1, hw1⟩
  have hW : Wrt b w w1 := by
    rcases hw1 with rfl | rfl
    · exact Wrt.refl _ _
    · exact ⟨by simp [World.setCell], fun k _ hb _ => Below.heap_setCell _ _ _ _ hb⟩
  have hb1 : Below B w w1 := by
    rcases hw1 with rfl | rfl
    · exact Below.refl _ _
    · exact (Below.refl B w).setCell (p := ⟨b, 0, none⟩) h1.1 _
  obtain ⟨hB, v, hbk, hown, hne⟩ := h1
  have c0 : w1.cell? ⟨b, 0, none⟩ = some (.pointer (some ⟨b, 0, none⟩)) := by rw [Lib.cell_of_heap hbk]; rfl
  have c1 : w1.cell? ⟨b, 1, none⟩ = some v := by rw [Lib.cell_of_heap hbk]; rfl
  have hz := hW.size
  clear HC hw1
  go_wp2_with (at_builtin; refine Lib.wpList_append_own_string _ rfl _ _ 70 9 rfl B 5 i0 Go.Proofs.Tryz.underlying70 Go.Proofs.Tryz.underlying9 hi hz0 hz1 hz2 _ _ _ rfl hown s rfl (by unfold maxLen; omega) (by omega) (by omega) ?_)
  intro v' w2 hown' hgrow _
  have hlt : b < w1.heap.size := lt_of_cell c0
  have hb2 : w2.heap[b]? = some (.cells #[.pointer (some ⟨b, 0, none⟩), v] 72 (0, 0)) := by
    rw [hgrow.block b hlt (fun e => hne e.symm)]
    exact hbk
  have d0 : w2.cell? ⟨b, 0, none⟩ = some (.pointer (some ⟨b, 0, none⟩)) := by rw [Lib.cell_of_heap hb2]; rfl
  have d1 : w2.cell? ⟨b, 1, none⟩ = some v := by rw [Lib.cell_of_heap hb2]; rfl
  have f1 : w2.frozen? ⟨b, 1, none⟩ = false := Lib.frozen_of_heap hb2 1
  obtain ⟨ao, n', cap, rfl⟩ : ∃ ao n' cap, v' = .slice ao n' cap := by
    rcases hown'.2 with ⟨hv, _⟩ | ⟨g, cap, cur, hv, _⟩
    · exact ⟨_, _, _, hv⟩
    · exact ⟨_, _, _, hv⟩
  have HF : Hid (Lib.BuilderAt 72 5 B b (.pointer (some ⟨b, 0, none⟩)) (bs ++ Lib.strCells s) (w2.setCell ⟨b, 1, none⟩ (.slice ao n' cap)) ∧ Below B w (w2.setCell ⟨b, 1, none⟩ (.slice ao n' cap)) ∧ Wrt b w (w2.setCell ⟨b, 1, none⟩ (.slice ao n' cap))) := by
    refine ⟨Lib.BuilderAt.put hB hb2 (bs' := bs ++ Lib.strCells s) (by simpa [Lib.strCells_length] using hown') (by decide), (hb1.grown hgrow (by omega) (fun k hk => (hown.lt k hk).1)).setCell (p := ⟨b, 1, none⟩) hB _, hW.trans ⟨by simp [World.setCell]; exact hgrow.size, fun k hk hb hn => ?_⟩⟩
    rw [Below.heap_setCell _ _ _ _ hb, hgrow.block k hk ?_]
    intro e
    rcases hown.2 with ⟨hv, _⟩ | ⟨g, cap, cur, hv, _, hg, _⟩
    · rw [hv] at e; cases e
    · rw [hv] at e
      cases e
      exact hn _ _ hg
  clear hown' hgrow hown hbk hb2
  go_wp2_with fail
  go_ret2
  exact ⟨rfl, HF.out.1, HF.out.2.1, HF.out.2.2⟩
end Go.Proofs.YtbkedppkdhfpoaaGreatDoor

namespace Go.Proofs.YtbkedppkdhfpoaaGreatDoor
open Go.RowKit

theorem szL_take {ts : List T} {k : Nat} {t : T} (ht : ts[k]? = some t) : T.sz.szL (ts.take (k + 1)) = T.sz.szL (ts.take k) + 1 + T.sz.szL t.args ∧ T.sz.szL (ts.take k) + 1 + T.sz.szL t.args ≤ T.sz.szL ts := by
  have hlt : k < ts.length := by
    rcases Nat.lt_or_ge k ts.length with h | h
    · exact h
    · rw [List.getElem?_eq_none h] at ht; cases ht
  have e : ts.take (k + 1) = ts.take k ++ [t] := by
    rw [List.take_add_one, ht]; rfl
  have e1 : T.sz.szL (ts.take (k + 1)) = T.sz.szL (ts.take k) + 1 + T.sz.szL t.args := by
    rw [e, T.szL_append, T.szL_cons, T.szL_nil, T.sz_eq]; omega
  refine ⟨e1, ?_⟩
  have e2 : T.sz.szL ts = T.sz.szL (ts.take (k + 1)) + T.sz.szL (ts.drop (k + 1)) := by
    rw [← T.szL_append, List.take_append_drop]
  omega

set_option maxRecDepth 100000 in
set_option maxHeartbeats 400000 in
theorem size_any (N : Nat) : ∀ (ts : List T) (limit : Int) (a : Option Addr) (cap : Nat) (w : World), T.sz.szL ts < N → 0 ≤ limit → limit ≤ 1000 → InL w ts a →
    Calls Tryz.prog 70 #[.int .i64 limit, .slice a ts.length cap] w fun e w' => e = .returned (.int .i64 (min (T.sz.szL ts : Int) (limit + 1))) ∧ Below w.heap.size w w' := by
  induction N with
  | zero => intro ts limit a cap w hN; omega
  | succ N ih =>
    intro ts limit a cap w hN hl0 hl1 IH
    have Hih := hide ih
    clear ih
    go_enter Tryz.func70, Tryz.ntmps70
    go_wp2_with fail
    go_loopw [5, 10] (fun n i wr => ∃ k : Nat, k ≤ ts.length ∧ i = .int .i64 k ∧ n = .int .i64 (T.sz.szL (ts.take k)) ∧ (T.sz.szL (ts.take k) : Int) ≤ limit ∧ Below w.heap.size w wr) (fun _ i _ => ts.length - (intOf i).toNat)
    case atStart => exact ⟨0, Nat.zero_le _, rfl, rfl, by simpa [T.szL_nil] using hl0, Below.refl _ _⟩
    case round =>
      obtain ⟨k, hk, rfl, rfl, hle, hb⟩ := hrel
      by_cases hlt : k < ts.length
      · have hin' := InP_below hb IH
        obtain ⟨b, off, rfl⟩ := InP_some IH (by omega)
        have hk3 : k ≤ 1000 := by have := T.length_le (ts.take k); rw [List.length_take_of_le (by omega)] at this; omega
        obtain ⟨t, ht⟩ : ∃ t, ts[k]? = some t := ⟨ts[k], List.getElem?_eq_getElem hlt⟩
        obtain ⟨a1, cap1, _, c0, c1, c2, hin1⟩ := InP_at hin' ht
        obtain ⟨hs1, hs2⟩ := szL_take ht
        have Hs1 := hide hs1
        clear hs1 ht
        by_cases hgo : (T.sz.szL (ts.take k) : Int) + 1 ≤ limit
        · by_cases hmore : limit < (T.sz.szL (ts.take k) : Int) + 1 + T.sz.szL t.args
          · go_wp2_with fail
            refine (Hih.out t.args _ _ _ _ (by omega) (by omega) (by omega) (InP_alloc _ hin1)).mono ?_
            rintro e w' ⟨rfl, hbw⟩
            have hm : min (T.sz.szL t.args : Int) (limit - ((T.sz.szL (ts.take k) : Int) + 1) + 1) = limit - T.sz.szL (ts.take k) := by omega
            rw [hm]
            go_wp2_with fail
            go_ret
            exact ⟨ret_int (by omega), (hb.alloc hb.size _).trans (hbw.mono (by simp; have := hb.size; omega))⟩
          · go_wp2_with fail
            refine (Hih.out t.args _ _ _ _ (by omega) (by omega) (by omega) (InP_alloc _ hin1)).mono ?_
            rintro e w' ⟨rfl, hbw⟩
            have hm : min (T.sz.szL t.args : Int) (limit - ((T.sz.szL (ts.take k) : Int) + 1) + 1) = T.sz.szL t.args := by omega
            rw [hm]
            go_wp2_with fail
            go_roundw
            case rel => exact ⟨k + 1, by omega, by go_num, by rw [Hs1.out]; go_num, by rw [Hs1.out]; omega, (hb.alloc hb.size _).trans (hbw.mono (by simp; have := hb.size; omega))⟩
            case measure => simp [intOf]; omega
        · go_wp2_with fail
          go_ret
          exact ⟨ret_int (by omega), hb.alloc hb.size _⟩
      · go_wp2_with fail
        go_ret
        exact ⟨ret_int (by rw [show k = ts.length from by omega, List.take_length] at hle ⊢; omega), hb⟩

end Go.Proofs.YtbkedppkdhfpoaaGreatDoor

namespace Go.Proofs.YtbkedppkdhfpoaaGreatDoor
open Go.RowKit

/-- Of the blocks that were there only x, and those that F tells of what x holds, may have been written. -/
structure Keeps (x : Nat) (F : Option Obj → Nat → Prop) (w w' : World) : Prop where
  os : w'.os = w.os
  tape : w'.tape = w.tape
  output : w'.output = w.output
  size : w.heap.size ≤ w'.heap.size
  block : ∀ k, k < w.heap.size → k ≠ x → ¬ F w.heap[x]? k → w'.heap[k]? = w.heap[k]?
  foot : ∀ k, F w'.heap[x]? k → F w.heap[x]? k ∨ (w.heap.size ≤ k ∧ k < w'.heap.size)

/-- x is a block; what F tells lies from B on. -/
structure Foot (x B : Nat) (F : Option Obj → Nat → Prop) (w : World) : Prop where
  hx : x < w.heap.size
  hB : B ≤ w.heap.size
  rng : ∀ k, F w.heap[x]? k → B ≤ k ∧ k < w.heap.size

theorem Keeps.refl (x : Nat) (F : Option Obj → Nat → Prop) (w : World) : Keeps x F w w := ⟨rfl, rfl, rfl, Nat.le_refl _, fun _ _ _ _ => rfl, fun _ h => Or.inl h⟩
theorem Keeps.trans {x : Nat} {F : Option Obj → Nat → Prop} {a b c : World} (h : Keeps x F a b) (k : Keeps x F b c) : Keeps x F a c := by
  refine ⟨k.os.trans h.os, k.tape.trans h.tape, k.output.trans h.output, Nat.le_trans h.size k.size, fun i hi hix hF => ?_, fun i hF => ?_⟩
  · have h1 := h.size
    rw [k.block i (by omega) hix (fun hF' => ?_)]
    · exact h.block i hi hix hF
    · rcases h.foot i hF' with h2 | h2
      · exact hF h2
      · omega
  · have h1 := h.size
    have h3 := k.size
    rcases k.foot i hF with h2 | h2
    · rcases h.foot i h2 with h4 | h4
      · exact Or.inl h4
      · exact Or.inr ⟨h4.1, by omega⟩
    · exact Or.inr ⟨by omega, h2.2⟩
theorem Keeps.alloc {x : Nat} {F : Option Obj → Nat → Prop} {a w : World} (h : Keeps x F a w) (hx : x < a.heap.size) (o : Obj) : Keeps x F a (w.alloc o) := by
  refine h.trans ⟨rfl, rfl, rfl, by simp, fun k hk _ _ => Below.heap_alloc _ _ _ hk, fun k hF => Or.inl ?_⟩
  have := h.size
  rwa [Below.heap_alloc _ _ _ (by omega)] at hF
theorem Foot.keeps {x B : Nat} {F : Option Obj → Nat → Prop} {w w' : World} (hf : Foot x B F w) (h : Keeps x F w w') : Foot x B F w' := by
  have h1 := h.size
  have h2 := hf.hB
  refine ⟨by have := hf.hx; omega, by omega, fun k hk => ?_⟩
  rcases h.foot k hk with h3 | h3
  · have := hf.rng k h3; omega
  · omega
theorem Foot.alloc {x B : Nat} {F : Option Obj → Nat → Prop} {w : World} (hf : Foot x B F w) (o : Obj) : Foot x B F (w.alloc o) :=
  hf.keeps ((Keeps.refl _ _ _).alloc hf.hx o)
theorem InP_keeps {x B : Nat} {F : Option Obj → Nat → Prop} {w w' : World} {ts : List T} {a : Option Addr} (hf : Foot x B F w) (h : Keeps x F w w') (hi : InP (fun k => k < B ∧ k ≠ x) w ts a) : InP (fun k => k < B ∧ k ≠ x) w' ts a :=
  InP_same (fun k hp hk => h.block k hk hp.2 (fun hF => by have := hf.rng k hF; omega)) hi

set_option maxRecDepth 100000 in
set_option maxHeartbeats 400000 in
theorem look_any {S : Type} (step : S → T → S × Bool) (K : Nat) (caps : Array Value) (x B : Nat) (F : Option Obj → Nat → Prop) (Inv : World → S → Prop)
    (eg : ∀ args w, (callFunc K args).run Tryz.prog w = .ok (.enter K args) w)
    (mu : S → Nat) (L : Nat) (hmu : ∀ s t, mu (step s t).1 ≤ mu s + 1)
    (ha : ∀ w s o, Foot x B F w → Inv w s → Inv (w.alloc o) s)
    (hc : ∀ w s (t : T) a cap, mu s < L → Foot x B F w → Inv w s → Calls Tryz.prog K (#[.agg #[.int .i64 t.v, .int .i64 t.f, .slice a t.args.length cap]] ++ caps) w fun e w' => e = .returned (.bool (step s t).2) ∧ Inv w' (step s t).1 ∧ Keeps x F w w')
    (N : Nat) : ∀ ts a cap w s, T.sz.szL ts < N → T.sz.szL ts ≤ 1000 → mu s + T.sz.szL ts ≤ L → Foot x B F w → InP (fun k => k < B ∧ k ≠ x) w ts a → Inv w s →
    Calls Tryz.prog 71 #[.func (.func K) #[] caps, .slice a ts.length cap] w fun e w' => e = .returned (.bool (lookT.lookL step s ts).2) ∧ Inv w' (lookT.lookL step s ts).1 ∧ Keeps x F w w' := by
  induction N with
  | zero => intro ts a cap w s hN; omega
  | succ N ih =>
    intro ts a cap w s hN h1000 hL hf hin hinv
    have Hih := hide ih
    have Hc := hide hc
    have Ha := hide ha
    clear ih hc ha
    go_enter Tryz.func71, Tryz.ntmps71
    go_wp2_with fail
    go_loopw [9] (fun i wr => ∃ k : Nat, ∃ sk : S, k ≤ ts.length ∧ i = .int .i64 k ∧ Inv wr sk ∧ Hid (lookT.lookL step s (ts.take k) = (sk, true)) ∧ Keeps x F w wr) (fun i _ => ts.length - (intOf i).toNat)
    case atStart => exact ⟨0, s, Nat.zero_le _, rfl, hinv, rfl, Keeps.refl _ _ _⟩
    case round =>
      obtain ⟨k, sk, hk, rfl, hsk, HL, hkeep⟩ := hrel
      by_cases hlt : k < ts.length
      · have hin' := InP_keeps hf hkeep hin
        have hf' := hf.keeps hkeep
        obtain ⟨b, off, rfl⟩ := InP_some hin (by omega)
        obtain ⟨t, ht⟩ : ∃ t, ts[k]? = some t := ⟨ts[k], List.getElem?_eq_getElem hlt⟩
        obtain ⟨a1, cap1, hpb, c0, c1, c2, hin1⟩ := InP_at hin' ht
        obtain ⟨hs1, hs2⟩ := szL_take ht
        have Hst := hide (fun s2 => lookL_step (step := step) (s := s) (s2 := s2) ht HL.out)
        have HT := hide (lookT_eq step sk t)
        have hfx := hf'.hx
        have hmk : mu sk ≤ mu s + T.sz.szL (ts.take k) := by have := (look_mu hmu _).2 (ts.take k) s (Nat.le_refl _); rw [HL.out] at this; exact this
        have Hm := hide ((look_mu hmu _).2 t.args sk (Nat.le_refl _))
        have hk3 : k ≤ 1000 := by have := T.length_le ts; omega
        clear ht
        go_wp2_with fail
        refine (Hih.out t.args _ _ _ sk (by omega) (by omega) (by omega) (hf'.alloc _) (InP_alloc _ hin1) (Ha.out _ _ _ hf' hsk)).mono ?_
        rintro e w' ⟨rfl, hinv1, hkeep1⟩
        have hf1 := (hf'.alloc _).keeps hkeep1
        have hbl := hkeep1.block wr.heap.size (by simp) (by omega) (fun hF => by rw [Below.heap_alloc _ _ _ hf'.hx] at hF; have := hf'.rng _ hF; omega)
        have hsz1 := hkeep1.size
        have hsz0 := hkeep.size
        have hcell : ∀ j, w'.cell? ⟨wr.heap.size, j, none⟩ = #[Value.int IntKind.i64 t.v, Value.int IntKind.i64 t.f, Value.slice a1 t.args.length cap1][j]? := fun j => by
          rw [World.cell?_of_block (w := wr.alloc _) (a := ⟨wr.heap.size, j, none⟩) hbl]
          exact World.cell?_alloc_mark _ _ _ _ _
        have d0 := hcell 0
        have d1 := hcell 1
        have d2 := hcell 2
        simp only [List.getElem?_toArray, List.getElem?_cons_zero, List.getElem?_cons_succ] at d0 d1 d2
        have hk1 : Keeps x F w w' := ((hkeep.alloc hf.hx _).trans hkeep1)
        clear hbl hcell hkeep1 hkeep hin1 hin' hin c0 c1 c2
        have hm2 : mu (lookT.lookL step sk t.args).1 < L := by have := Hm.out; omega
        clear Hm
        generalize hr : lookT.lookL step sk t.args = r at *
        obtain ⟨s1, b1⟩ := r
        have Hr := hide hr
        clear hr
        simp only at hinv1 hm2
        cases b1 with
        | false =>
          have hT : lookT step sk t = (s1, false) := by rw [HT.out]; rfl
          have hfin := (Hst.out s1).2 hT
          have Hfin := hide hfin
          clear hfin hT HT Hst
          go_wp2_with fail
          go_ret
          rw [Hfin.out]
          exact ⟨rfl, hinv1, hk1⟩
        | true =>
          have hT : lookT step sk t = step s1 t := by rw [HT.out]; rfl
          have HT1 := hide hT
          clear hT HT
          go_wp2_with fail
          refine (Hc.out w' s1 t a1 cap1 hm2 hf1 hinv1).mono ?_
          rintro e w2 ⟨rfl, hinv2, hkeep2⟩
          have hk2 := hk1.trans hkeep2
          clear hkeep2 hk1 hinv1 d0 d1 d2
          generalize hr2 : step s1 t = r2 at *
          obtain ⟨s2, b2⟩ := r2
          have Hst2 := Hst.out s2
          rw [HT1.out] at Hst2
          have Hst2 := hide Hst2
          clear hr2 Hst HT1
          simp only at hinv2
          cases b2 with
          | false =>
            have hfin := hide (Hst2.out.2 rfl)
            go_wp2_with fail
            go_ret
            rw [hfin.out]
            exact ⟨rfl, hinv2, hk2⟩
          | true =>
            have hgo := hide (Hst2.out.1 rfl)
            clear Hst2
            go_wp2_with fail
            go_roundw
            case rel => exact ⟨k + 1, s2, by omega, by go_num, hinv2, hgo, hk2⟩
            case measure => simp [intOf]; omega
      · go_wp2_with fail
        go_ret
        have hk2 : k = ts.length := by omega
        subst hk2
        rw [List.take_length] at HL
        rw [HL.out]
        exact ⟨rfl, hsk, hkeep⟩

end Go.Proofs.YtbkedppkdhfpoaaGreatDoor

namespace Go.Proofs.YtbkedppkdhfpoaaGreatDoor
open Go.RowKit

theorem Keeps.of_below {x : Nat} {F : Option Obj → Nat → Prop} {w w' : World} (hx : x < w.heap.size) (h : Below w.heap.size w w') : Keeps x F w w' :=
  ⟨h.os, h.tape, h.output, h.size, fun k hk _ _ => h.block k hk, fun k hF => Or.inl (by rwa [h.block x hx] at hF)⟩
def noFoot : Option Obj → Nat → Prop := fun _ _ => False
theorem Keeps.setCell {x : Nat} {a w : World} (h : Keeps x noFoot a w) (j : Nat) (v : Value) : Keeps x noFoot a (w.setCell ⟨x, j, none⟩ v) :=
  h.trans ⟨rfl, rfl, rfl, by simp [World.setCell], fun k _ hk _ => Below.heap_setCell _ _ _ _ hk, fun _ hF => hF.elim⟩
theorem Foot.of (x B : Nat) (w : World) (hx : x < w.heap.size) (hB : B ≤ w.heap.size) : Foot x B noFoot w := ⟨hx, hB, fun _ h => h.elim⟩

/-- The numbers lie elsewhere than in block x. -/
def IntsOff (x : Nat) (w : World) (zs : List Int) (a : Option Addr) : Prop :=
  zs = [] ∨ ∃ b off, a = some ⟨b, off, none⟩ ∧ b ≠ x ∧ ∀ i, i < zs.length → w.cell? ⟨b, off + i, none⟩ = some (.int .i64 (zs.getD i 0))
theorem IntsOff.ints {x : Nat} {w : World} {zs : List Int} {a : Option Addr} (h : IntsOff x w zs a) : Ints w zs a := by
  rcases h with h | ⟨b, off, h1, _, h3⟩
  · exact Or.inl h
  · exact Or.inr ⟨b, off, h1, h3⟩
theorem IntsOff.keeps {x : Nat} {w w' : World} {zs : List Int} {a : Option Addr} (h : IntsOff x w zs a) (hk : Keeps x noFoot w w') : IntsOff x w' zs a := by
  rcases h with h | ⟨b, off, h1, h2, h3⟩
  · exact Or.inl h
  · exact Or.inr ⟨b, off, h1, h2, fun i hi => by
      rw [World.cell?_of_block (w := w) (a := ⟨b, off + i, none⟩) (hk.block b (lt_of_cell (h3 i hi)) h2 (fun h => h))]; exact h3 i hi⟩

/-- What the look at each part holds: the error so far, in the variable; the signature, in its own. -/
structure ErrAt (ar : List Int) (x xg : Nat) (ga : Option Addr) (gcap : Nat) (w : World) (e : Int) : Prop where
  ne : xg ≠ x
  ce : w.cell? ⟨x, 0, none⟩ = some (.int .i64 e)
  fe : w.frozen? ⟨x, 0, none⟩ = false
  cg : w.cell? ⟨xg, 0, none⟩ = some (.slice ga ar.length gcap)
  ig : IntsOff x w ar ga

theorem ErrAt.below {ar : List Int} {x xg : Nat} {ga : Option Addr} {gcap : Nat} {w w' : World} {e : Int} (h : ErrAt ar x xg ga gcap w e) (hb : Below w.heap.size w w') : ErrAt ar x xg ga gcap w' e := by
  have hx := lt_of_cell h.ce
  refine ⟨h.ne, ?_, ?_, ?_, h.ig.keeps (Keeps.of_below hx hb)⟩
  · rw [hb.cell (p := ⟨x, 0, none⟩) hx]; exact h.ce
  · rw [hb.frozen (p := ⟨x, 0, none⟩) hx]; exact h.fe
  · rw [hb.cell (p := ⟨xg, 0, none⟩) (lt_of_cell h.cg)]; exact h.cg

theorem ErrAt.set {ar : List Int} {x xg : Nat} {ga : Option Addr} {gcap : Nat} {w : World} {e : Int} (h : ErrAt ar x xg ga gcap w e) (e' : Int) : ErrAt ar x xg ga gcap (w.setCell ⟨x, 0, none⟩ (.int .i64 e')) e' := by
  refine ⟨h.ne, ?_, ?_, ?_, h.ig.keeps ((Keeps.refl _ _ _).setCell _ _)⟩
  · exact World.cell?_setCell_same _ _ _ h.ce
  · rw [World.frozen?_setCell]; exact h.fe
  · rw [World.cell?_setCell_other _ _ _ _ (fun h' => h.ne (by simp at h'; exact h'.symm))]; exact h.cg

def partStep (ar : List Int) : Int → T → Int × Bool := fun _ t => (partErr ar t.v t.f t.args.length, partErr ar t.v t.f t.args.length == 0)

set_option maxRecDepth 100000 in
set_option maxHeartbeats 400000 in
theorem checkTermC_any (ar : List Int) (x xg : Nat) (ga : Option Addr) (gcap : Nat) (w : World) (e0 : Int) (t : T) (a : Option Addr) (cap : Nat) (h : ErrAt ar x xg ga gcap w e0) :
    Calls Tryz.prog 72 #[.agg #[.int .i64 t.v, .int .i64 t.f, .slice a t.args.length cap], .pointer (some ⟨xg, 0, none⟩), .pointer (some ⟨x, 0, none⟩)] w fun e w' =>
      e = .returned (.bool (partStep ar e0 t).2) ∧ ErrAt ar x xg ga gcap w' (partStep ar e0 t).1 ∧ Keeps x noFoot w w' := by
  have hx := lt_of_cell h.ce
  have hxg := lt_of_cell h.cg
  have cg := h.cg
  unfold partStep
  obtain ⟨r, hr⟩ : ∃ r, partErr ar t.v t.f t.args.length = r := ⟨_, rfl⟩
  rw [hr]
  have Hr := hide hr
  clear hr
  go_enter Tryz.func72, Tryz.ntmps72
  go_wp2_with fail
  refine (checkPart_any ar ga gcap t.v t.f t.args.length a cap _ (Ints_alloc _ h.ig.ints)).mono ?_
  rw [Hr.out]
  rintro e w1 ⟨rfl, hbw⟩
  have h1 := h.below ((below1 _ _).trans (hbw.mono (by simp)))
  have hk1 : Keeps x noFoot w w1 := Keeps.of_below hx ((below1 _ _).trans (hbw.mono (by simp)))
  have ce := h1.ce
  have fe := h1.fe
  have h2 := h1.set r
  have hk2 := hk1.setCell 0 (.int .i64 r)
  have H2 := hide h2
  have HK2 := hide hk2
  have hce2 := h2.ce
  clear h2 hk2 hk1 hbw h1
  go_wp2_with fail
  go_ret
  exact ⟨rfl, H2, HK2⟩

theorem eg72 (args : Array Value) (w : World) : (callFunc 72 args).run Tryz.prog w = .ok (.enter 72 args) w := by kernel_rfl

/-- What is wrong with a term: too great; then the first part that is wrong. -/
def termErr (ar : List Int) (t : T) : Int := if 120 < t.sz then 2 else (lookT.lookL (partStep ar) 0 [t]).1

theorem InP_one {p : Nat → Prop} {w : World} {t : T} {b : Nat} {a : Option Addr} {cap : Nat} (hp : p b) (h : InP p w t.args a) (c0 : w.cell? ⟨b, 0, none⟩ = some (.int .i64 t.v)) (c1 : w.cell? ⟨b, 1, none⟩ = some (.int .i64 t.f))
    (c2 : w.cell? ⟨b, 2, none⟩ = some (.slice a t.args.length cap)) : InP p w [t] (some ⟨b, 0, none⟩) :=
  InP_cons.2 ⟨b, 0, _, rfl, hp, c0, c1, c2, In_iff.2 ⟨a, cap, rfl, h⟩, InP_nil⟩

/-- A term laid into a new block. -/
theorem InP_new1 {p : Nat → Prop} {w : World} {t : T} {a : Option Addr} {cap n : Nat} (e : TypeId) (hn : n = w.heap.size) (hp : p w.heap.size) (h : InP p w t.args a) :
    InP p (w.alloc (.cells #[.int .i64 t.v, .int .i64 t.f, .slice a t.args.length cap] e)) [t] (some ⟨n, 0, none⟩) := by
  subst hn
  exact InP_one hp (InP_alloc _ h) (World.cell?_alloc_mark _ _ _ _ _) (World.cell?_alloc_mark _ _ _ _ _) (World.cell?_alloc_mark _ _ _ _ _)

theorem bcell {W w1 : World} (hb : Below W.heap.size W w1) : (∀ b o, b < W.heap.size → w1.cell? ⟨b, o, none⟩ = W.cell? ⟨b, o, none⟩) ∧ (∀ b o, b < W.heap.size → w1.frozen? ⟨b, o, none⟩ = W.frozen? ⟨b, o, none⟩) :=
  ⟨fun b o h => hb.cell (p := ⟨b, o, none⟩) h, fun b o h => hb.frozen (p := ⟨b, o, none⟩) h⟩

theorem cell_alloc_lt {w : World} {o : Obj} {b j : Nat} (h : b < w.heap.size) : (w.alloc o).cell? ⟨b, j, none⟩ = w.cell? ⟨b, j, none⟩ := (below1 w o).cell (p := ⟨b, j, none⟩) h

theorem cell_new {w : World} {C : Array Value} {e : TypeId} {fr : Nat × Nat} {n : Nat} (j : Nat) (hn : n = w.heap.size) : (w.alloc (.cells C e fr)).cell? ⟨n, j, none⟩ = C[j]? := by
  subst hn; exact World.cell?_alloc_mark _ _ _ _ _

theorem Below.of_keeps {x B : Nat} {W w' : World} (h : Keeps x noFoot W w') (hx : B ≤ x) (hB : B ≤ W.heap.size) : Below B W w' :=
  ⟨h.os, h.tape, h.output, h.size, fun k hk => h.block k (by omega) (by omega) (fun h => h)⟩

theorem ErrAt.start {ar : List Int} {w : World} {xg : Nat} {ga : Option Addr} {gcap : Nat} (e : TypeId) (o : Obj) (cg : w.cell? ⟨xg, 0, none⟩ = some (.slice ga ar.length gcap)) (hg : Ints w ar ga) :
    ErrAt ar w.heap.size xg ga gcap ((w.alloc (.cells #[.int .i64 0] e)).alloc o) 0 := by
  have hlt := lt_of_cell cg
  have h1 : ErrAt ar w.heap.size xg ga gcap (w.alloc (.cells #[.int .i64 0] e)) 0 := by
    refine ⟨by omega, World.cell?_alloc_mark _ _ _ _ _, ?_, ?_, ?_⟩
    · simp
    · rw [(below1 w _).cell (p := ⟨xg, 0, none⟩) hlt]; exact cg
    · rcases hg with h | ⟨b, off, rfl, h⟩
      · exact Or.inl h
      · by_cases hz : ar = []
        · exact Or.inl hz
        · have hb := lt_of_cell (h 0 (List.length_pos_iff.2 hz))
          exact Or.inr ⟨b, off, rfl, by omega, fun i hi => by rw [(below1 w _).cell (p := ⟨b, off + i, none⟩) (lt_of_cell (h i hi))]; exact h i hi⟩
  exact h1.below (below1 _ _)

theorem look_check (ar : List Int) (x xg : Nat) (ga : Option Addr) (gcap B : Nat) (ts : List T) (a : Option Addr) (cap : Nat) (w : World) (h1000 : T.sz.szL ts ≤ 1000) (hf : Foot x B noFoot w) (hin : InP (fun k => k < B ∧ k ≠ x) w ts a)
    (hst : ErrAt ar x xg ga gcap w 0) :
    Calls Tryz.prog 71 #[.func (.func 72) #[] #[.pointer (some ⟨xg, 0, none⟩), .pointer (some ⟨x, 0, none⟩)], .slice a ts.length cap] w fun e w' =>
      e = .returned (.bool (lookT.lookL (partStep ar) 0 ts).2) ∧ ErrAt ar x xg ga gcap w' (lookT.lookL (partStep ar) 0 ts).1 ∧ Keeps x noFoot w w' :=
  look_any (partStep ar) 72 #[.pointer (some ⟨xg, 0, none⟩), .pointer (some ⟨x, 0, none⟩)] x B noFoot (ErrAt ar x xg ga gcap) eg72 (fun _ => 0) 1001 (fun _ _ => Nat.zero_le _) (fun _ _ _ _ h => h.below (below1 _ _))
    (fun w' s t' a' cap' _ _ h => checkTermC_any ar x xg ga gcap w' s t' a' cap' h) (T.sz.szL ts + 1) ts a cap w 0 (by omega) h1000 (by simp; omega) hf hin hst

set_option maxRecDepth 100000 in
set_option maxHeartbeats 400000 in
theorem checkTerm_any (ar : List Int) (ga : Option Addr) (gcap : Nat) (t : T) (a : Option Addr) (cap : Nat) (w : World) (hg : Ints w ar ga) (ht : InL w t.args a) :
    Calls Tryz.prog 59 #[.agg #[.slice ga ar.length gcap], .agg #[.int .i64 t.v, .int .i64 t.f, .slice a t.args.length cap]] w fun e w' => e = .returned (.int .i64 (termErr ar t)) ∧ Below w.heap.size w w' := by
  have hmf : ∀ (fn : Fn) (first cap : Array Value) (w : World), (Instr.makeFunc fn first cap).run Tryz.prog w = .ok (.func fn first cap) w := fun _ _ _ _ => rfl
  have hs1 : T.sz.szL [t] = t.sz := by rw [T.szL_cons, T.szL_nil]; omega
  have Hs1 := hide hs1
  clear hs1
  go_enter Tryz.func59, Tryz.ntmps59
  go_wp2_with fail
  refine (size_any (t.sz + 1) [t] 120 _ 1 _ (by rw [Hs1.out]; omega) (by omega) (by omega) (InP_new1 _ (by simp) trivial (InP_alloc _ (InP_alloc _ ht)))).mono ?_
  rintro e w1 ⟨rfl, hb1⟩
  rw [Hs1.out]
  have hbw : Below w.heap.size w w1 := (((below1 _ _).alloc (by simp) _).alloc (by simp; omega) _).trans (hb1.mono (by simp; omega))
  by_cases hbig : 120 < t.sz
  · have hm : min (t.sz : Int) (120 + 1) = 121 := by omega
    rw [hm]
    have hfin : termErr ar t = 2 := by rw [termErr, if_pos hbig]
    have Hfin := hide hfin
    clear hfin hm
    go_wp2_with fail
    go_ret
    exact ⟨by rw [Hfin.out]; rfl, hbw⟩
  · have hm : min (t.sz : Int) (120 + 1) = t.sz := by omega
    rw [hm]
    have hfin : termErr ar t = (lookT.lookL (partStep ar) 0 [t]).1 := by rw [termErr, if_neg hbig]
    have Hfin := hide hfin
    clear hfin hm
    obtain ⟨hc1, hf1⟩ := bcell hb1
    have hz1 : w.heap.size + 3 ≤ w1.heap.size := by have := hb1.size; simp at this; omega
    have cg : w1.cell? ⟨w.heap.size, 0, none⟩ = some (.slice ga ar.length gcap) := by
      rw [hc1 _ _ (by simp; omega), cell_alloc_lt (by simp; omega), cell_alloc_lt (by simp), World.cell?_alloc_mark]; rfl
    have hd : ∀ j, w1.cell? ⟨w.heap.size + 1, j, none⟩ = #[Value.int .i64 t.v, .int .i64 t.f, .slice a t.args.length cap][j]? := fun j => by
      rw [hc1 _ _ (by simp), cell_alloc_lt (by simp), cell_new _ (by simp)]
    have d0 := hd 0
    have d1 := hd 1
    have d2 := hd 2
    simp only [List.getElem?_toArray, List.getElem?_cons_zero, List.getElem?_cons_succ] at d0 d1 d2
    clear hd hc1 hf1
    have hz2 : w.heap.size + 1 < w1.heap.size := by omega
    have hin1 := InP_lt (InP_below hbw ht)
    have hin2 : ∀ e1 e2, InP (fun k => k < w1.heap.size + 2 ∧ k ≠ w1.heap.size) ((w1.alloc (.cells #[.int .i64 0] e1)).alloc (.cells #[.int .i64 t.v, .int .i64 t.f, .slice a t.args.length cap] e2)) [t] (some ⟨w1.heap.size + 1, 0, none⟩) :=
      fun e1 e2 => InP_new1 e2 (by simp) (by constructor <;> simp) (InP_alloc _ (InP_imp (fun k h => by omega) hin1))
    have hst : ∀ e1 e2, ErrAt ar w1.heap.size w.heap.size ga gcap ((w1.alloc (.cells #[.int .i64 0] e1)).alloc (.cells #[.int .i64 t.v, .int .i64 t.f, .slice a t.args.length cap] e2)) 0 :=
      fun e1 e2 => ErrAt.start e1 _ cg (Ints_below hbw hg)
    have hft : ∀ o1 o2, Foot w1.heap.size (w1.heap.size + 2) noFoot ((w1.alloc o1).alloc o2) := fun o1 o2 => Foot.of _ _ _ (by simp; omega) (by simp)
    have Hin2 := hide hin2
    have Hst := hide hst
    have Hft := hide hft
    clear hin1 hin2 hst hft
    go_wp2_with fail
    refine (look_check ar _ _ ga gcap (w1.heap.size + 2) [t] _ 1 _ (by rw [Hs1.out]; omega) (Hft.out _ _) (Hin2.out _ _) (Hst.out _ _)).mono ?_
    rintro e w2 ⟨rfl, herr, hkeep⟩
    have ce := herr.ce
    rw [← Hfin.out] at ce
    have hb2 := Below.of_keeps (B := w.heap.size) hkeep (by omega) (by simp; omega)
    have hsz2 := hkeep.size
    simp at hsz2
    clear herr hkeep cg
    go_wp2_with fail
    go_ret
    exact ⟨rfl, ((hbw.alloc (by omega) _).alloc (by simp; omega) _).trans hb2⟩

def termsErr (ar : List Int) : List T → Int
  | [] => 0
  | t :: ts => if termErr ar t = 0 then termsErr ar ts else termErr ar t
/-- What is wrong with a signature, then with some terms. -/
def allErr (ar : List Int) (ts : List T) : Int := if sigErr ar = 0 then termsErr ar ts else sigErr ar

theorem termsErr_append (ar : List Int) (a b : List T) : termsErr ar (a ++ b) = if termsErr ar a = 0 then termsErr ar b else termsErr ar a := by
  induction a with
  | nil => simp [termsErr]
  | cons t ts ih =>
    rw [List.cons_append, termsErr, termsErr]
    by_cases h : termErr ar t = 0
    · rw [if_pos h, if_pos h, ih]
    · rw [if_neg h, if_neg h, if_neg h]
theorem termsErr_step {ar : List Int} {ts : List T} {k : Nat} {t : T} (ht : ts[k]? = some t) (h : termsErr ar (ts.take k) = 0) :
    (termErr ar t = 0 → termsErr ar (ts.take (k + 1)) = 0) ∧ (termErr ar t ≠ 0 → termsErr ar ts = termErr ar t) := by
  have hlt : k < ts.length := by
    rcases Nat.lt_or_ge k ts.length with h | h
    · exact h
    · rw [List.getElem?_eq_none h] at ht; cases ht
  constructor
  · intro h2
    rw [List.take_add_one, ht, termsErr_append, if_pos h]
    simp [termsErr, h2]
  · intro h2
    have e : ts = ts.take k ++ t :: ts.drop (k + 1) := by
      rw [List.getElem?_eq_getElem hlt] at ht
      simp at ht
      rw [← ht, List.getElem_cons_drop, List.take_append_drop]
    rw [e, termsErr_append, if_pos h, termsErr, if_neg h2]

set_option maxRecDepth 100000 in
set_option maxHeartbeats 400000 in
theorem check_any (ar : List Int) (ga : Option Addr) (gcap : Nat) (ts : List T) (a : Option Addr) (cap : Nat) (w : World) (hg : Ints w ar ga) (hin : InL w ts a) (h1000 : ts.length ≤ 1000) :
    Calls Tryz.prog 52 #[.agg #[.slice ga ar.length gcap], .slice a ts.length cap] w fun e w' => e = .returned (.int .i64 (allErr ar ts)) ∧ Below w.heap.size w w' := by
  go_enter Tryz.func52, Tryz.ntmps52
  go_wp2_with fail
  refine (signature_any ar ga gcap _ (Ints_alloc _ hg)).mono ?_
  rintro e w1 ⟨rfl, hb1⟩
  have hz1 : w.heap.size < w1.heap.size := by have := hb1.size; simp at this; omega
  have hbw : Below w.heap.size w w1 := (below1 _ _).trans (hb1.mono (by simp))
  have cg : w1.cell? ⟨w.heap.size, 0, none⟩ = some (.slice ga ar.length gcap) := by
    rw [hb1.cell (p := ⟨w.heap.size, 0, none⟩) (by simp), cell_new _ rfl]; rfl
  by_cases hs : sigErr ar = 0
  · have hfin : allErr ar ts = termsErr ar ts := by rw [allErr, if_pos hs]
    have Hfin := hide hfin
    clear hfin
    rw [hs]
    clear hb1
    go_wp2_with fail
    go_loopw [7, 8, 16] (fun _ _ i wr => ∃ k : Nat, k ≤ ts.length ∧ i = .int .i64 k ∧ Hid (termsErr ar (ts.take k) = 0) ∧ Below w1.heap.size w1 wr) (fun _ _ i _ => ts.length - (intOf i).toNat)
    case atStart => exact ⟨0, Nat.zero_le _, rfl, rfl, Below.refl _ _⟩
    case round =>
      obtain ⟨k, hk, rfl, HL, hb⟩ := hrel
      have hzr := hb.size
      by_cases hlt : k < ts.length
      · have hin' := InP_below hb (InP_below hbw hin)
        have hg' := Ints_below hb (Ints_below hbw hg)
        obtain ⟨b, off, rfl⟩ := InP_some hin (by omega)
        obtain ⟨t, ht⟩ : ∃ t, ts[k]? = some t := ⟨ts[k], List.getElem?_eq_getElem hlt⟩
        obtain ⟨a1, cap1, _, c0, c1, c2, hin1⟩ := InP_at hin' ht
        have Hst := hide (termsErr_step ht HL.out)
        have cg' : wr.cell? ⟨w.heap.size, 0, none⟩ = some (.slice ga ar.length gcap) := by rw [hb.cell (p := ⟨w.heap.size, 0, none⟩) hz1]; exact cg
        have hzr' : w.heap.size < wr.heap.size := by omega
        clear ht
        go_wp2_with fail
        refine (checkTerm_any ar ga gcap t a1 cap1 _ (Ints_alloc _ hg') (InP_alloc _ hin1)).mono ?_
        rintro e w2 ⟨rfl, hb2⟩
        have hb3 : Below w1.heap.size w1 w2 := (hb.alloc hb.size _).trans (hb2.mono (by simp; omega))
        by_cases ht0 : termErr ar t = 0
        · have hgo := hide (Hst.out.1 ht0)
          rw [ht0]
          clear Hst hb2
          go_wp2_with fail
          go_roundw
          case rel => exact ⟨k + 1, by omega, by go_num, hgo, hb3⟩
          case measure => simp [intOf]; omega
        · have hgo := hide (Hst.out.2 ht0)
          have ht1 : (termErr ar t != 0) = true := by simpa using ht0
          clear Hst hb2 ht0
          go_wp2_with fail
          go_ret
          exact ⟨ret_int (by rw [Hfin.out, hgo.out]), hbw.trans (hb3.mono (by omega))⟩
      · go_wp2_with fail
        go_ret
        have hk2 : k = ts.length := by omega
        subst hk2
        rw [List.take_length] at HL
        exact ⟨ret_int (by rw [Hfin.out, HL.out]), hbw.trans (hb.mono (by omega))⟩
  · have hfin : allErr ar ts = sigErr ar := by rw [allErr, if_neg hs]
    have Hfin := hide hfin
    have hs1 : (sigErr ar != 0) = true := by simpa using hs
    clear hfin hs hb1
    go_wp2_with fail
    go_ret
    exact ⟨ret_int Hfin.out.symm, hbw⟩

set_option maxRecDepth 100000 in
set_option maxHeartbeats 400000 in
theorem Check_any (ar : List Int) (ga : Option Addr) (gcap : Nat) (t : T) (a : Option Addr) (cap : Nat) (w : World) (hg : Ints w ar ga) (hin : InL w t.args a) :
    Calls Tryz.prog 38 #[.agg #[.slice ga ar.length gcap], .agg #[.int .i64 t.v, .int .i64 t.f, .slice a t.args.length cap]] w fun e w' => e = .returned (.int .i64 (allErr ar [t])) ∧ Below w.heap.size w w' := by
  have Hg := hide (fun o1 o2 o3 => Ints_alloc o3 (Ints_alloc o2 (Ints_alloc o1 hg)))
  have Hin := hide (fun o1 o2 e => InP_new1 (n := w.heap.size + 1 + 1) (cap := cap) e (by simp) trivial (InP_alloc o2 (InP_alloc o1 hin)))
  clear hg hin
  go_enter Tryz.func38, Tryz.ntmps38
  go_wp2_with fail
  refine (check_any ar ga gcap [t] _ 1 _ (Hg.out _ _ _) (Hin.out _ _ _) (by simp)).mono ?_
  rintro e w1 ⟨rfl, hb1⟩
  go_wp2_with fail
  go_ret
  exact ⟨rfl, (((below1 _ _).alloc (by simp) _).alloc (by simp; omega) _).trans (hb1.mono (by simp; omega))⟩

end Go.Proofs.YtbkedppkdhfpoaaGreatDoor

namespace Go.Proofs.YtbkedppkdhfpoaaGreatDoor
open Go.RowKit

/-- A block of three cells, which may be written. -/
structure Three (w : World) (b : Nat) (v0 v1 v2 : Value) : Prop where
  c0 : w.cell? ⟨b, 0, none⟩ = some v0
  c1 : w.cell? ⟨b, 1, none⟩ = some v1
  c2 : w.cell? ⟨b, 2, none⟩ = some v2
  f0 : w.frozen? ⟨b, 0, none⟩ = false
  f1 : w.frozen? ⟨b, 1, none⟩ = false
  f2 : w.frozen? ⟨b, 2, none⟩ = false
theorem Three.new {w : World} {v0 v1 v2 : Value} {n : Nat} (e : TypeId) (hn : n = w.heap.size) : Three (w.alloc (.cells #[v0, v1, v2] e)) n v0 v1 v2 := by
  subst hn
  exact ⟨World.cell?_alloc_mark _ _ _ _ _, World.cell?_alloc_mark _ _ _ _ _, World.cell?_alloc_mark _ _ _ _ _, by simp, by simp, by simp⟩
theorem Three.same {w w' : World} {b : Nat} {v0 v1 v2 : Value} (h : Three w b v0 v1 v2) (hs : w'.heap[b]? = w.heap[b]?) : Three w' b v0 v1 v2 := by
  obtain ⟨c0, c1, c2, f0, f1, f2⟩ := h
  refine ⟨?_, ?_, ?_, ?_, ?_, ?_⟩
  · rw [World.cell?_of_block (w := w) (a := ⟨b, 0, none⟩) hs]; exact c0
  · rw [World.cell?_of_block (w := w) (a := ⟨b, 1, none⟩) hs]; exact c1
  · rw [World.cell?_of_block (w := w) (a := ⟨b, 2, none⟩) hs]; exact c2
  · rw [World.frozen?_of_block (w := w) (a := ⟨b, 0, none⟩) hs]; exact f0
  · rw [World.frozen?_of_block (w := w) (a := ⟨b, 1, none⟩) hs]; exact f1
  · rw [World.frozen?_of_block (w := w) (a := ⟨b, 2, none⟩) hs]; exact f2
theorem Three.lt {w : World} {b : Nat} {v0 v1 v2 : Value} (h : Three w b v0 v1 v2) : b < w.heap.size := lt_of_cell h.c0
theorem Three.below {w w' : World} {b : Nat} {v0 v1 v2 : Value} (h : Three w b v0 v1 v2) (hb : Below w.heap.size w w') : Three w' b v0 v1 v2 := h.same (hb.block b h.lt)
theorem Three.alloc {w : World} {b : Nat} {v0 v1 v2 : Value} (h : Three w b v0 v1 v2) (o : Obj) : Three (w.alloc o) b v0 v1 v2 := h.below (below1 _ _)

/-- Three cells stored. -/
abbrev set3 (w : World) (b off : Nat) (u0 u1 u2 : Value) : World := ((w.setCell ⟨b, off, none⟩ u0).setCell ⟨b, off + 1, none⟩ u1).setCell ⟨b, off + 2, none⟩ u2
theorem Three.set {w : World} {b : Nat} {v0 v1 v2 : Value} (h : Three w b v0 v1 v2) (u0 u1 u2 : Value) : Three (set3 w b 0 u0 u1 u2) b u0 u1 u2 := by
  obtain ⟨c0, c1, c2, f0, f1, f2⟩ := h
  have e0 : (w.setCell ⟨b, 0, none⟩ u0).cell? ⟨b, 0, none⟩ = some u0 := World.cell?_setCell_same _ _ _ c0
  have e1 : (w.setCell ⟨b, 0, none⟩ u0).cell? ⟨b, 1, none⟩ = some v1 := by rw [World.cell?_setCell_other _ _ _ _ (by simp)]; exact c1
  have e2 : (w.setCell ⟨b, 0, none⟩ u0).cell? ⟨b, 2, none⟩ = some v2 := by rw [World.cell?_setCell_other _ _ _ _ (by simp)]; exact c2
  have g1 : ((w.setCell ⟨b, 0, none⟩ u0).setCell ⟨b, 1, none⟩ u1).cell? ⟨b, 1, none⟩ = some u1 := World.cell?_setCell_same _ _ _ e1
  have g0 : ((w.setCell ⟨b, 0, none⟩ u0).setCell ⟨b, 1, none⟩ u1).cell? ⟨b, 0, none⟩ = some u0 := by rw [World.cell?_setCell_other _ _ _ _ (by simp)]; exact e0
  have g2 : ((w.setCell ⟨b, 0, none⟩ u0).setCell ⟨b, 1, none⟩ u1).cell? ⟨b, 2, none⟩ = some v2 := by rw [World.cell?_setCell_other _ _ _ _ (by simp)]; exact e2
  refine ⟨?_, ?_, World.cell?_setCell_same _ _ _ g2, ?_, ?_, ?_⟩
  · rw [World.cell?_setCell_other _ _ _ _ (by simp)]; exact g0
  · rw [World.cell?_setCell_other _ _ _ _ (by simp)]; exact g1
  · rw [World.frozen?_setCell, World.frozen?_setCell, World.frozen?_setCell]; exact f0
  · rw [World.frozen?_setCell, World.frozen?_setCell, World.frozen?_setCell]; exact f1
  · rw [World.frozen?_setCell, World.frozen?_setCell, World.frozen?_setCell]; exact f2
end Go.Proofs.YtbkedppkdhfpoaaGreatDoor

namespace Go.Proofs.YtbkedppkdhfpoaaGreatDoor
open Go.RowKit

theorem Tryz.underlying25 : Tryz.prog.underlying 25 = some (.slice 27) := by kernel_rfl
theorem Tryz.info27 : (Tryz.prog.info? 27).map (fun i => (i.zero, i.size, i.bytes)) = some (some (.agg #[.int .i64 0, .int .i64 0, .slice none 0 0]), 3, 40) := by kernel_rfl

theorem below_undrew {w w2 : World} (h : Below w.drew.heap.size w.drew w2) : Below w.heap.size w w2 := ⟨h.os, h.tape, h.output, h.size, h.block⟩
theorem InP_heap {p : Nat → Prop} {w w' : World} {ts : List T} {a : Option Addr} (hw : w'.heap = w.heap) (h : InP p w ts a) : InP p w' ts a :=
  InP_same (fun _ _ _ => by rw [hw]) h

end Go.Proofs.YtbkedppkdhfpoaaGreatDoor
