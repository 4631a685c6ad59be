/- A list of terms of the call's own, and what lies behind each of them. What stands fast within one round of the document's own order: what the round reads, and where it lies. A list of bindings of the call's own. A list of literals of the call's own; literals appended to it. Literals that are needed: without those that can't be so, and those that one ahead is, too. Texts: terms as a text, the sign of a literal, terms checked. The program's own check of bindings. Does a clause hold, by which things its variables are: the program's closures. Does a clause hold: the program's Holds. Texts: a clause checked, a term as a text. Texts: two of them joined. Texts: a row of texts joined. Texts: a clause as a text. -/
import Derived.BigQuiet
import Derived.Deep.AppendLies
import Derived.Deep.CutBlock
import Derived.Deep.DeepCutAuto
import Derived.Deep.DrawnRows
import Derived.Deep.RegionHeld3
import Derived.Deep.RegionLaw
import Derived.Laws.AppendOwnNone
import Derived.Lib.SlicesCompact
import Derived.Maps.AppendAt
import Derived.Maps.OwnOps
import Derived.Maps.OwnSet
import Derived.Test.YtbkedppkdhfpoaaDoorJoined2
namespace Go.Proofs.YtbkedppkdhfpoaaDoor
open Go.RowKit

/-- Three cells a term, and its arguments. -/
def Kids (p : Nat → Prop) (w : World) : List T → List Value → Prop
  | [], cs => cs = []
  | t :: ts, cs => ∃ a cap rest, cs = .int .i64 t.v :: .int .i64 t.f :: .slice a t.args.length cap :: rest ∧ InP p w t.args a ∧ Kids p w ts rest
theorem Kids_append {p : Nat → Prop} {w : World} {ts us : List T} : ∀ {cs ds : List Value}, Kids p w ts cs → Kids p w us ds → Kids p w (ts ++ us) (cs ++ ds) := by
  induction ts with
  | nil => intro cs ds h1 h2; rw [show cs = [] from h1]; exact h2
  | cons t ts ih =>
    intro cs ds h1 h2
    obtain ⟨a, cap, rest, rfl, h0, h⟩ := h1
    exact ⟨a, cap, rest ++ ds, rfl, h0, ih h h2⟩
theorem Kids_mono {p q : Nat → Prop} {w w' : World} {ts : List T} (hs : ∀ k, p k → k < w.heap.size → q k ∧ w'.heap[k]? = w.heap[k]?) : ∀ {cs : List Value}, Kids p w ts cs → Kids q w' ts cs := by
  induction ts with
  | nil => intro cs h; exact h
  | cons t ts ih =>
    intro cs h
    obtain ⟨a, cap, rest, rfl, h0, h⟩ := h
    exact ⟨a, cap, rest, rfl, InP_mono (fun b o v hp hv => ⟨(hs b hp (lt_of_cell hv)).1, by rw [World.cell?_of_block (w := w) (a := ⟨b, o, none⟩) (hs b hp (lt_of_cell hv)).2]; exact hv⟩) _ _ _ (Nat.le_refl _) h0, ih h⟩

/-- A list of the call's own that holds these terms; nothing that lies behind them lies in the list's own block. -/
def Outs (q : Nat → Prop) (base : Nat) (w : World) (l : Value) (ts : List T) : Prop :=
  ∃ xs, w.ownsRow base 38 3 l ts.length xs ∧ Kids (fun k => (q k ∨ base ≤ k) ∧ l.ownBlock ≠ some k) w ts xs

theorem Outs_nil {q : Nat → Prop} {base : Nat} {w : World} : Outs q base w (.slice none 0 0) [] := ⟨[], ⟨rfl, Or.inl ⟨rfl, rfl⟩⟩, rfl⟩
theorem Outs_same {q : Nat → Prop} {base : Nat} {w w' : World} {l : Value} {ts : List T} (h : Outs q base w l ts) (hs : ∀ k, (q k ∨ base ≤ k) → k < w.heap.size → w'.heap[k]? = w.heap[k]?) : Outs q base w' l ts := by
  obtain ⟨xs, h1, h2⟩ := h
  exact ⟨xs, own_same h1 (fun g hg => hs g (Or.inr (own_lt h1 g hg).1) (own_lt h1 g hg).2), Kids_mono (fun k hk hlt => ⟨hk, hs k hk.1 hlt⟩) h2⟩
theorem Outs_below {q : Nat → Prop} {base : Nat} {w w' : World} {l : Value} {ts : List T} (h : Outs q base w l ts) (hb : Below w.heap.size w w') : Outs q base w' l ts := Outs_same h (fun k _ hk => hb.block k hk)
theorem Outs_step {q : Nat → Prop} {base : Nat} {w w' : World} {l : Value} {ts : List T} {c : T} {xs : List Value} {a : Option Addr} {cap g cap2 : Nat} (hk : Kids (fun k => (q k ∨ base ≤ k) ∧ l.ownBlock ≠ some k) w ts xs)
    (hc : InP (fun k => (q k ∨ base ≤ k) ∧ l.ownBlock ≠ some k) w c.args a)
    (hown : w'.ownsRow base 38 3 (.slice (some ⟨g, 0, none⟩) (ts.length + 1) cap2) (ts.length + 1) (xs ++ [.int .i64 c.v, .int .i64 c.f, .slice a c.args.length cap])) (hg : w.grownBy w' l.ownBlock) (hat : l.ownBlock = some g ∨ g = w.heap.size) :
    Outs q base w' (.slice (some ⟨g, 0, none⟩) (ts.length + 1) cap2) (ts ++ [c]) := by
  refine ⟨_, by rw [List.length_append]; exact hown, Kids_mono (p := fun k => (q k ∨ base ≤ k) ∧ l.ownBlock ≠ some k) (w := w) (fun k hp hlt => ⟨⟨hp.1, ?_⟩, hg.block k hlt (fun e => hp.2 e.symm)⟩) (Kids_append hk ⟨a, cap, [], rfl, hc, rfl⟩)⟩
  rcases hat with hat | hat
  · rw [show (Value.slice (some ⟨g, 0, none⟩) (ts.length + 1) cap2).ownBlock = some g from rfl, ← hat]; exact hp.2
  · show some g ≠ some k
    intro e; cases e; omega
theorem Kids_in {p : Nat → Prop} {w : World} {g : Nat} (hpg : p g) {ts : List T} : ∀ {off : Nat} {cs : List Value}, Kids p w ts cs → (∀ j u, cs[j]? = some u → w.cell? ⟨g, off + j, none⟩ = some u) → InP p w ts (some ⟨g, off, none⟩) := by
  induction ts with
  | nil => intro off cs _ _; exact InP_nil
  | cons t ts ih =>
    intro off cs h hc
    obtain ⟨a, cap, rest, rfl, h0, h⟩ := h
    refine InP_cons.2 ⟨g, off, .slice a t.args.length cap, rfl, hpg, hc 0 _ rfl, hc 1 _ rfl, hc 2 _ rfl, In_iff.2 ⟨a, cap, rfl, h0⟩, ih h fun j u hu => ?_⟩
    rw [show off + 3 + j = off + (j + 3) from by omega]
    exact hc (j + 3) u (by simpa using hu)
theorem Outs_end {q : Nat → Prop} {base : Nat} {w : World} {l : Value} {ts : List T} (h : Outs q base w l ts) : ∃ a cap, l = .slice a ts.length cap ∧ InP (fun k => q k ∨ base ≤ k) w ts a := by
  obtain ⟨xs, h1, h2⟩ := h
  by_cases h0 : 0 < ts.length
  · obtain ⟨g, cap, rfl, hb, hlt, hcell⟩ := own_cells h1 h0
    exact ⟨_, cap, rfl, Kids_in (Or.inr hb) (Kids_mono (fun k hk _ => ⟨hk.1, rfl⟩) h2) (fun j u hu => by rw [Nat.zero_add]; exact hcell j u hu)⟩
  · obtain ⟨a, c, rfl⟩ := own_shape h1
    have : ts = [] := List.length_eq_zero_iff.1 (by omega)
    subst this
    exact ⟨a, c, rfl, InP_nil⟩

end Go.Proofs.YtbkedppkdhfpoaaDoor

namespace Go.Proofs.YtbkedppkdhfpoaaDoor
open Go.RowKit

theorem cell_below {w w' : World} {b o : Nat} {v : Value} (hb : Below w.heap.size w w') (h : w.cell? ⟨b, o, none⟩ = some v) : w'.cell? ⟨b, o, none⟩ = some v := by
  rw [hb.cell (p := ⟨b, o, none⟩) (lt_of_cell h)]; exact h
end Go.Proofs.YtbkedppkdhfpoaaDoor

namespace Go.Proofs.YtbkedppkdhfpoaaDoor
open Go.RowKit

theorem own_cellsN {w : World} {base n : Nat} {e : TypeId} {sz : Nat} {v : Value} {xs : List Value} (h : w.ownsRow base e sz v n xs) (hn : 0 < n) : ∃ g cap, v = .slice (some ⟨g, 0, none⟩) n cap ∧ base ≤ g ∧ g < w.heap.size ∧ ∀ j u, xs[j]? = some u → w.cell? ⟨g, j, none⟩ = some u := by
  rcases h.2 with ⟨_, h0⟩ | ⟨g, cap, cur, rfl, hb, hg, hc, hm, hs, ht⟩
  · omega
  refine ⟨g, cap, rfl, hb, ?_, fun j u hu => ?_⟩
  · rcases Nat.lt_or_ge g w.heap.size with h | h
    · exact h
    · rw [Array.getElem?_eq_none h] at hg; cases hg
  · have hj : j < xs.length := by
      rcases Nat.lt_or_ge j xs.length with h | h
      · exact h
      · rw [List.getElem?_eq_none h] at hu; cases hu
    have e1 : cur[j]? = some u := by
      have h2 : (cur.toList.take (n * sz))[j]? = some u := by rw [ht]; exact hu
      rw [List.getElem?_take_of_lt (by have := h.1; omega)] at h2
      simpa using h2
    simp [World.cell?, hg, e1]
end Go.Proofs.YtbkedppkdhfpoaaDoor

namespace Go.Proofs.YtbkedppkdhfpoaaDoor
open Go.RowKit

/-- Seven cells a literal, and its terms behind them, where p says. -/
def LitsQ (p : Nat → Prop) (w : World) : List Lit → Option Addr → Prop
  | [], _ => True
  | x :: c, a => ∃ b off a1 c1 a2 c2, a = some ⟨b, off, none⟩ ∧ p b ∧ w.cell? ⟨b, off, none⟩ = some (.bool x.1) ∧ w.cell? ⟨b, off + 1, none⟩ = some (.int .i64 x.2.1.v) ∧ w.cell? ⟨b, off + 2, none⟩ = some (.int .i64 x.2.1.f) ∧ w.cell? ⟨b, off + 3, none⟩ = some (.slice a1 x.2.1.args.length c1) ∧
      w.cell? ⟨b, off + 4, none⟩ = some (.int .i64 x.2.2.v) ∧ w.cell? ⟨b, off + 5, none⟩ = some (.int .i64 x.2.2.f) ∧ w.cell? ⟨b, off + 6, none⟩ = some (.slice a2 x.2.2.args.length c2) ∧ InP p w x.2.1.args a1 ∧ InP p w x.2.2.args a2 ∧ LitsQ p w c (some ⟨b, off + 7, none⟩)
theorem LitsQ_lits {p : Nat → Prop} {w : World} : ∀ {c : List Lit} {a : Option Addr}, LitsQ p w c a → LitsP w c a := by
  intro c
  induction c with
  | nil => intro a _; trivial
  | cons x c ih =>
    intro a h
    obtain ⟨b, off, a1, c1, a2, c2, rfl, _, h0, h1, h2, h3, h4, h5, h6, i1, i2, hr⟩ := h
    exact ⟨b, off, a1, c1, a2, c2, rfl, h0, h1, h2, h3, h4, h5, h6, InP_imp (fun _ _ => trivial) i1, InP_imp (fun _ _ => trivial) i2, ih hr⟩
theorem LitsQ_mono {p q : Nat → Prop} {w w' : World} (hs : ∀ k, p k → k < w.heap.size → q k ∧ w'.heap[k]? = w.heap[k]?) : ∀ {c : List Lit} {a : Option Addr}, LitsQ p w c a → LitsQ q w' c a := by
  intro c
  induction c with
  | nil => intro a _; trivial
  | cons x c ih =>
    intro a h
    obtain ⟨b, off, a1, c1, a2, c2, rfl, hp, h0, h1, h2, h3, h4, h5, h6, i1, i2, hr⟩ := h
    have hI : ∀ {ts : List T} {y : Option Addr}, InP p w ts y → InP q w' ts y := fun hi => InP_mono (fun b o v hp hv => ⟨(hs b hp (lt_of_cell hv)).1, by rw [World.cell?_of_block (w := w) (a := ⟨b, o, none⟩) (hs b hp (lt_of_cell hv)).2]; exact hv⟩) _ _ _ (Nat.le_refl _) hi
    have hC : ∀ {o : Nat} {v : Value}, w.cell? ⟨b, o, none⟩ = some v → w'.cell? ⟨b, o, none⟩ = some v := fun {o v} hv => by rw [World.cell?_of_block (w := w) (a := ⟨b, o, none⟩) (hs b hp (lt_of_cell hv)).2]; exact hv
    exact ⟨b, off, a1, c1, a2, c2, rfl, (hs b hp (lt_of_cell h0)).1, hC h0, hC h1, hC h2, hC h3, hC h4, hC h5, hC h6, hI i1, hI i2, ih hr⟩
theorem LitsQ_below {p : Nat → Prop} {w w' : World} (hb : Below w.heap.size w w') {c : List Lit} {a : Option Addr} (h : LitsQ p w c a) : LitsQ p w' c a := LitsQ_mono (fun k hp hk => ⟨hp, hb.block k hk⟩) h
theorem LitsQ_imp {p q : Nat → Prop} {w : World} (hpq : ∀ k, p k → q k) {c : List Lit} {a : Option Addr} (h : LitsQ p w c a) : LitsQ q w c a := LitsQ_mono (fun k hp _ => ⟨hpq k hp, rfl⟩) h
theorem LitsP_lt {w : World} : ∀ {c : List Lit} {a : Option Addr}, LitsP w c a → LitsQ (fun k => k < w.heap.size) w c a := by
  intro c
  induction c with
  | nil => intro a _; trivial
  | cons x c ih =>
    intro a h
    obtain ⟨b, off, a1, c1, a2, c2, rfl, h0, h1, h2, h3, h4, h5, h6, i1, i2, hr⟩ := h
    exact ⟨b, off, a1, c1, a2, c2, rfl, lt_of_cell h0, h0, h1, h2, h3, h4, h5, h6, InP_imp (fun _ h => h.2) (InP_lt i1), InP_imp (fun _ h => h.2) (InP_lt i2), ih hr⟩
theorem LitsQ_at {p : Nat → Prop} {w : World} : ∀ {c : List Lit} {b off k : Nat} {x : Lit}, LitsQ p w c (some ⟨b, off, none⟩) → c[k]? = some x →
    ∃ a1 c1 a2 c2, p b ∧ w.cell? ⟨b, off + k * 7, none⟩ = some (.bool x.1) ∧ w.cell? ⟨b, off + k * 7 + 1, none⟩ = some (.int .i64 x.2.1.v) ∧ w.cell? ⟨b, off + k * 7 + 2, none⟩ = some (.int .i64 x.2.1.f) ∧ w.cell? ⟨b, off + k * 7 + 3, none⟩ = some (.slice a1 x.2.1.args.length c1) ∧
      w.cell? ⟨b, off + k * 7 + 4, none⟩ = some (.int .i64 x.2.2.v) ∧ w.cell? ⟨b, off + k * 7 + 5, none⟩ = some (.int .i64 x.2.2.f) ∧ w.cell? ⟨b, off + k * 7 + 6, none⟩ = some (.slice a2 x.2.2.args.length c2) ∧ InP p w x.2.1.args a1 ∧ InP p w x.2.2.args a2 := by
  intro c
  induction c with
  | nil => intro b off k x _ h; simp at h
  | cons y c ih =>
    intro b off k x h hk
    obtain ⟨b', off', a1, c1, a2, c2, hb, hp, h0, h1, h2, h3, h4, h5, h6, i1, i2, hr⟩ := h
    simp only [Option.some.injEq, Addr.mk.injEq] at hb
    obtain ⟨rfl, rfl, _⟩ := hb
    cases k with
    | zero =>
      simp at hk; subst hk
      exact ⟨a1, c1, a2, c2, hp, by simpa using h0, by simpa using h1, by simpa using h2, by simpa using h3, by simpa using h4, by simpa using h5, by simpa using h6, i1, i2⟩
    | succ k =>
      have h9 := ih hr (by simpa using hk)
      rw [show off + (k + 1) * 7 = off + 7 + k * 7 by omega]
      exact h9

/-- The cells of literals, and what lies behind them. -/
def KidsL (p : Nat → Prop) (w : World) : List Lit → List Value → Prop
  | [], cs => cs = []
  | x :: c, cs => ∃ a1 c1 a2 c2 rest, cs = .bool x.1 :: .int .i64 x.2.1.v :: .int .i64 x.2.1.f :: .slice a1 x.2.1.args.length c1 :: .int .i64 x.2.2.v :: .int .i64 x.2.2.f :: .slice a2 x.2.2.args.length c2 :: rest ∧ InP p w x.2.1.args a1 ∧ InP p w x.2.2.args a2 ∧ KidsL p w c rest
theorem KidsL_append {p : Nat → Prop} {w : World} {c d : List Lit} : ∀ {cs ds : List Value}, KidsL p w c cs → KidsL p w d ds → KidsL p w (c ++ d) (cs ++ ds) := by
  induction c with
  | nil => intro cs ds h1 h2; rw [show cs = [] from h1]; exact h2
  | cons x c ih =>
    intro cs ds h1 h2
    obtain ⟨a1, c1, a2, c2, rest, rfl, h0, h0', h⟩ := h1
    exact ⟨a1, c1, a2, c2, rest ++ ds, rfl, h0, h0', ih h h2⟩
theorem KidsL_mono {p q : Nat → Prop} {w w' : World} {c : List Lit} (hs : ∀ k, p k → k < w.heap.size → q k ∧ w'.heap[k]? = w.heap[k]?) : ∀ {cs : List Value}, KidsL p w c cs → KidsL q w' c cs := by
  induction c with
  | nil => intro cs h; exact h
  | cons x c ih =>
    intro cs h
    obtain ⟨a1, c1, a2, c2, rest, rfl, h0, h0', h⟩ := h
    have hI : ∀ {ts : List T} {y : Option Addr}, InP p w ts y → InP q w' ts y := fun hi => InP_mono (fun b o v hp hv => ⟨(hs b hp (lt_of_cell hv)).1, by rw [World.cell?_of_block (w := w) (a := ⟨b, o, none⟩) (hs b hp (lt_of_cell hv)).2]; exact hv⟩) _ _ _ (Nat.le_refl _) hi
    exact ⟨a1, c1, a2, c2, rest, rfl, hI h0, hI h0', ih h⟩
theorem KidsL_in {p : Nat → Prop} {w : World} {g : Nat} (hpg : p g) {c : List Lit} : ∀ {off : Nat} {cs : List Value}, KidsL p w c cs → (∀ j u, cs[j]? = some u → w.cell? ⟨g, off + j, none⟩ = some u) → LitsQ p w c (some ⟨g, off, none⟩) := by
  induction c with
  | nil => intro off cs _ _; trivial
  | cons x c ih =>
    intro off cs h hc
    obtain ⟨a1, c1, a2, c2, rest, rfl, h0, h0', h⟩ := h
    refine ⟨g, off, a1, c1, a2, c2, rfl, hpg, hc 0 _ rfl, hc 1 _ rfl, hc 2 _ rfl, hc 3 _ rfl, hc 4 _ rfl, hc 5 _ rfl, hc 6 _ rfl, h0, h0', ih h fun j u hu => ?_⟩
    rw [show off + 7 + j = off + (j + 7) from by omega]
    exact hc (j + 7) u (by simpa using hu)
/-- A list of the call's own that holds these literals; nothing that lies behind them lies in the list's own block. -/
def OutsL (q : Nat → Prop) (base : Nat) (w : World) (l : Value) (c : List Lit) : Prop :=
  ∃ xs, w.ownsRow base 42 7 l c.length xs ∧ KidsL (fun k => (q k ∨ base ≤ k) ∧ l.ownBlock ≠ some k) w c xs
theorem OutsL_nil {q : Nat → Prop} {base : Nat} {w : World} : OutsL q base w (.slice none 0 0) [] := ⟨[], ⟨rfl, Or.inl ⟨rfl, rfl⟩⟩, rfl⟩
theorem OutsL_same {q : Nat → Prop} {base : Nat} {w w' : World} {l : Value} {c : List Lit} (h : OutsL q base w l c) (hs : ∀ k, (q k ∨ base ≤ k) → k < w.heap.size → w'.heap[k]? = w.heap[k]?) : OutsL q base w' l c := by
  obtain ⟨xs, h1, h2⟩ := h
  exact ⟨xs, own_same h1 (fun g hg => hs g (Or.inr (own_lt h1 g hg).1) (own_lt h1 g hg).2), KidsL_mono (fun k hk hlt => ⟨hk, hs k hk.1 hlt⟩) h2⟩
theorem OutsL_below {q : Nat → Prop} {base : Nat} {w w' : World} {l : Value} {c : List Lit} (h : OutsL q base w l c) (hb : Below w.heap.size w w') : OutsL q base w' l c := OutsL_same h (fun k _ hk => hb.block k hk)
theorem OutsL_step {q : Nat → Prop} {base : Nat} {w w' : World} {l : Value} {c : List Lit} {x : Lit} {xs : List Value} {a1 : Option Addr} {c1 : Nat} {a2 : Option Addr} {c2 g cap2 : Nat} (hk : KidsL (fun k => (q k ∨ base ≤ k) ∧ l.ownBlock ≠ some k) w c xs)
    (hc : InP (fun k => (q k ∨ base ≤ k) ∧ l.ownBlock ≠ some k) w x.2.1.args a1) (hc2 : InP (fun k => (q k ∨ base ≤ k) ∧ l.ownBlock ≠ some k) w x.2.2.args a2)
    (hown : w'.ownsRow base 42 7 (.slice (some ⟨g, 0, none⟩) (c.length + 1) cap2) (c.length + 1) (xs ++ [.bool x.1, .int .i64 x.2.1.v, .int .i64 x.2.1.f, .slice a1 x.2.1.args.length c1, .int .i64 x.2.2.v, .int .i64 x.2.2.f, .slice a2 x.2.2.args.length c2])) (hg : w.grownBy w' l.ownBlock) (hat : l.ownBlock = some g ∨ g = w.heap.size) :
    OutsL q base w' (.slice (some ⟨g, 0, none⟩) (c.length + 1) cap2) (c ++ [x]) := by
  refine ⟨_, by rw [List.length_append]; exact hown, KidsL_mono (p := fun k => (q k ∨ base ≤ k) ∧ l.ownBlock ≠ some k) (w := w) (fun k hp hlt => ⟨⟨hp.1, ?_⟩, hg.block k hlt (fun e => hp.2 e.symm)⟩) (KidsL_append hk ⟨a1, c1, a2, c2, [], rfl, hc, hc2, rfl⟩)⟩
  rcases hat with hat | hat
  · rw [show (Value.slice (some ⟨g, 0, none⟩) (c.length + 1) cap2).ownBlock = some g from rfl, ← hat]; exact hp.2
  · show some g ≠ some k
    intro e; cases e; omega
theorem OutsL_end {q : Nat → Prop} {base : Nat} {w : World} {l : Value} {c : List Lit} (h : OutsL q base w l c) : ∃ a cap, l = .slice a c.length cap ∧ LitsQ (fun k => q k ∨ base ≤ k) w c a := by
  obtain ⟨xs, h1, h2⟩ := h
  by_cases h0 : 0 < c.length
  · obtain ⟨g, cap, rfl, hb, hlt, hcell⟩ := own_cellsN h1 h0
    exact ⟨_, cap, rfl, KidsL_in (Or.inr hb) (KidsL_mono (fun k hk _ => ⟨hk.1, rfl⟩) h2) (fun j u hu => by rw [Nat.zero_add]; exact hcell j u hu)⟩
  · obtain ⟨a, c', rfl⟩ := own_shape h1
    have : c = [] := List.length_eq_zero_iff.1 (by omega)
    subst this
    exact ⟨a, c', rfl, trivial⟩

theorem Tryd.info42 : (Tryd.prog.info? 42).map (fun i => (i.zero, i.size, i.bytes)) = some (some (.agg #[.bool false, .int .i64 0, .int .i64 0, .slice none 0 0, .int .i64 0, .int .i64 0, .slice none 0 0]), 7, 88) := by kernel_rfl
theorem seven_new {w : World} {v0 v1 v2 v3 v4 v5 v6 : Value} {e : TypeId} {n : Nat} (hn : n = w.heap.size) : ∀ (j : Nat) (u : Value), [v0, v1, v2, v3, v4, v5, v6][j]? = some u →
    (w.alloc (.cells #[v0, v1, v2, v3, v4, v5, v6] e)).cell? ⟨n, 0 + j, none⟩ = some u := by
  intro j u hu
  rw [Nat.zero_add, cell_new j hn]
  simpa using hu
end Go.Proofs.YtbkedppkdhfpoaaDoor

namespace Go.Proofs.YtbkedppkdhfpoaaDoor
open Go.RowKit

/-- Seven cells of a literal. -/
structure L7 (w : World) (b o : Nat) (x : Lit) (a1 : Option Addr) (c1 : Nat) (a2 : Option Addr) (c2 : Nat) : Prop where
  e0 : w.cell? ⟨b, o, none⟩ = some (.bool x.1)
  e1 : w.cell? ⟨b, o + 1, none⟩ = some (.int .i64 x.2.1.v)
  e2 : w.cell? ⟨b, o + 2, none⟩ = some (.int .i64 x.2.1.f)
  e3 : w.cell? ⟨b, o + 3, none⟩ = some (.slice a1 x.2.1.args.length c1)
  e4 : w.cell? ⟨b, o + 4, none⟩ = some (.int .i64 x.2.2.v)
  e5 : w.cell? ⟨b, o + 5, none⟩ = some (.int .i64 x.2.2.f)
  e6 : w.cell? ⟨b, o + 6, none⟩ = some (.slice a2 x.2.2.args.length c2)
theorem L7.below {w w' : World} {b o : Nat} {x : Lit} {a1 : Option Addr} {c1 : Nat} {a2 : Option Addr} {c2 : Nat} (h : L7 w b o x a1 c1 a2 c2) (hb : Below w.heap.size w w') : L7 w' b o x a1 c1 a2 c2 :=
  ⟨cellB hb h.e0, cellB hb h.e1, cellB hb h.e2, cellB hb h.e3, cellB hb h.e4, cellB hb h.e5, cellB hb h.e6⟩
theorem L7.new {w : World} {x : Lit} {a1 : Option Addr} {c1 : Nat} {a2 : Option Addr} {c2 n : Nat} (e : TypeId) (hn : n = w.heap.size) : L7 (w.alloc (.cells #[.bool x.1, .int .i64 x.2.1.v, .int .i64 x.2.1.f, .slice a1 x.2.1.args.length c1, .int .i64 x.2.2.v, .int .i64 x.2.2.f, .slice a2 x.2.2.args.length c2] e)) n 0 x a1 c1 a2 c2 :=
  ⟨cell_new 0 hn, cell_new 1 hn, cell_new 2 hn, cell_new 3 hn, cell_new 4 hn, cell_new 5 hn, cell_new 6 hn⟩
abbrev litV (x : Lit) (a1 : Option Addr) (c1 : Nat) (a2 : Option Addr) (c2 : Nat) : Value := .agg #[.bool x.1, .int .i64 x.2.1.v, .int .i64 x.2.1.f, .slice a1 x.2.1.args.length c1, .int .i64 x.2.2.v, .int .i64 x.2.2.f, .slice a2 x.2.2.args.length c2]
/-- Its terms are not too great. -/
def LitSz (x : Lit) : Prop := x.2.1.sz ≤ 1000 ∧ x.2.2.sz ≤ 1000

attribute [local go_sem ↓] Go.wp_at_zero Go.wp_at_succ
end Go.Proofs.YtbkedppkdhfpoaaDoor

namespace Go.Proofs.YtbkedppkdhfpoaaDoor
open Go.RowKit

theorem tab_lt {w : World} (h : Tab w) : ∀ g, Tryd.prog.globalNamed "internal/strconv.uint64pow10" = some g → g < w.heap.size := by
  intro g hg
  rw [Tab, Lib.TabIs, World.var?, hg] at h
  simp only [Option.bind_some] at h
  rcases Nat.lt_or_ge g w.heap.size with h1 | h1
  · exact h1
  · rw [Array.getElem?_eq_none h1] at h; cases h
theorem Tab_below {w w' : World} (hb : Below w.heap.size w w') (h : Tab w) : Tab w' := tab_below hb (tab_lt h) h
attribute [local go_sem ↓] Go.wp_at_zero Go.wp_at_succ
set_option maxRecDepth 100000 in
set_option maxHeartbeats 1000000 in
theorem written_any (ar : List Int) (har : ar.length ≤ 12) (ts : List T) (a : Option Addr) (cap : Nat) (w : World) (hsz : T.sz.szL ts ≤ 1000) (hok : ∀ t, t ∈ ts → okP ar t) (htab : Tab w) (hin : InL w ts a) :
    Calls Tryd.prog 14 #[.slice a ts.length cap] w fun e w' => e = .returned (.string ⟨(textT.textL ts).toArray⟩) ∧ Below w.heap.size w w' := by
  obtain ⟨W1, hW1⟩ : ∃ W1, W1 = w.alloc (.cells #[.pointer none, .slice none 0 0] 62) := ⟨_, rfl⟩
  have hbW : Below w.heap.size w W1 := by rw [hW1]; exact below1 _ _
  have hz1 : W1.heap.size = w.heap.size + 1 := by rw [hW1]; simp
  have his : IsB w.heap.size w.heap.size [] W1 := by
    refine Or.inl ⟨Nat.le_refl _, .slice none 0 0, ?_, ⟨rfl, Or.inl ⟨rfl, rfl⟩⟩, by simp [Value.ownBlock]⟩
    rw [hW1]; exact heap_alloc_new _ _
  have HWr := hide (write_any ar har w.heap.size w.heap.size (tab_lt htab) (T.sz.szL ts + 1) ts a cap [] W1 (Nat.lt_succ_self _) hsz hok (by simp; omega) (by omega) his (Tab_below hbW htab) (InP_below hbW (InP_imp (fun k h => h.2) (InP_lt hin))))
  have HW1 := hide hW1
  have HbW := hide hbW
  clear hW1 hbW his htab hin hok
  go_enter Tryd.func14, Tryd.ntmps14
  go_wp2_with fail
  rw [← HW1.out]
  refine HWr.out.mono ?_
  rintro e w2 ⟨rfl, his2, hb2, _⟩
  have HS := hide (Go.Proofs.Tryd.Builder_String_any w.heap.size w.heap.size (textT.textL ts) w2 his2 (by have := hb2.size; omega))
  have Hb2 := hide (HbW.out.trans hb2)
  clear his2 hb2 HWr
  go_wp2_with fail
  refine HS.out.mono ?_
  rintro e w3 ⟨rfl, hb3⟩
  have Hb3 := hide (Hb2.out.trans hb3)
  clear hb3 HS
  go_wp2_with fail
  go_ret
  exact ⟨rfl, Hb3.out⟩
/-- The sign of a literal. -/
def signL (y : Bool) : List UInt8 := if y then [32, 61, 32] else [32, 33, 61, 32]
set_option maxRecDepth 100000 in
set_option maxHeartbeats 1000000 in
theorem sign_any (x : Lit) (a1 : Option Addr) (c1 : Nat) (a2 : Option Addr) (c2 : Nat) (w : World) :
    Calls Tryd.prog 15 #[litV x a1 c1 a2 c2] w fun e w' => e = .returned (.string ⟨(signL x.1).toArray⟩) ∧ Below w.heap.size w w' := by
  cases hx : x.1 with
  | true =>
    go_enter Tryd.func15, Tryd.ntmps15
    go_wp2_with fail
    go_ret
    exact ⟨rfl, below1 _ _⟩
  | false =>
    go_enter Tryd.func15, Tryd.ntmps15
    go_wp2_with fail
    go_ret
    exact ⟨rfl, below1 _ _⟩
/-- What check tells of terms. -/
def tErr (ar : List Int) : List T → Int
  | [] => 0
  | t :: ts => if allErr ar [t] = 0 then tErr ar ts else allErr ar [t]
theorem tErr_drop {ar : List Int} {ts : List T} {k : Nat} {t : T} (h : ts[k]? = some t) : tErr ar (ts.drop k) = if allErr ar [t] = 0 then tErr ar (ts.drop (k + 1)) else allErr ar [t] := by
  have hlt := (List.getElem?_eq_some_iff.1 h).1
  rw [List.drop_eq_getElem_cons hlt, (List.getElem?_eq_some_iff.1 h).2, tErr]
set_option maxRecDepth 100000 in
set_option maxHeartbeats 1000000 in
theorem tcheck_any (ar : List Int) (ga : Option Addr) (gcap : Nat) (ts : List T) (a : Option Addr) (cap : Nat) (w : World) (hl : ts.length ≤ 1000) (hg : Ints w ar ga) (hin : InL w ts a) :
    Calls Tryd.prog 24 #[.agg #[.slice ga ar.length gcap], .slice a ts.length cap] w fun e w' => e = .returned (.int .i64 (tErr ar ts)) ∧ Below w.heap.size w w' := by
  obtain ⟨W1, hW1⟩ : ∃ W1, W1 = w.alloc (.cells #[.slice ga ar.length gcap] 24) := ⟨_, rfl⟩
  have hbW : Below w.heap.size w W1 := by rw [hW1]; exact below1 _ _
  have hz1 : W1.heap.size = w.heap.size + 1 := by rw [hW1]; simp
  have hcg : W1.cell? ⟨w.heap.size, 0, none⟩ = some (.slice ga ar.length gcap) := by rw [hW1]; exact cell_new 0 rfl
  obtain ⟨Z, hZ⟩ : ∃ Z, Z = tErr ar ts := ⟨_, rfl⟩
  rw [← hZ]
  have HZ := hide hZ
  have HW1 := hide hW1
  have HbW := hide hbW
  have Hcg := hide hcg
  have Hg := hide hg
  have Hin := hide hin
  clear hZ hW1 hbW hcg hg hin
  go_enter Tryd.func24, Tryd.ntmps24
  go_upto_region 1 with fail
  rw [← HW1.out]
  go_wp2_with fail
  go_loopw [10] (fun i wr => ∃ k : Nat, k ≤ ts.length ∧ i = .int .i64 k ∧ Hid (Z = tErr ar (ts.drop k)) ∧ Hid (Below W1.heap.size W1 wr)) (fun i _ => ts.length - (intOf i).toNat)
  case atStart => exact ⟨0, Nat.zero_le _, rfl, by rw [List.drop_zero]; exact HZ, Below.refl _ _⟩
  case round =>
    obtain ⟨k, hk, rfl, Hk, Hbr⟩ := hrel
    have Hbw := hide (HbW.out.trans (Hbr.out.mono (by omega)))
    have g0 := cell_below Hbr.out Hcg.out
    by_cases hlt : k < ts.length
    · obtain ⟨b, off, rfl⟩ := InP_some Hin.out (by omega)
      obtain ⟨x, hx⟩ : ∃ x, ts[k]? = some x := ⟨ts[k], List.getElem?_eq_getElem hlt⟩
      obtain ⟨a1, cap1, _, k0, k1, k2, hinx⟩ := InP_at (InP_below Hbw.out Hin.out) hx
      obtain ⟨W2, hW2⟩ : ∃ W2, W2 = wr.alloc (.cells #[.int .i64 x.v, .int .i64 x.f, .slice a1 x.args.length cap1] 38) := ⟨_, rfl⟩
      have hb2 : Below wr.heap.size wr W2 := by rw [hW2]; exact below1 _ _
      have HC := hide (Check_any ar ga gcap x a1 cap1 W2 (Ints_below hb2 (Ints_below Hbw.out Hg.out)) (InP_below hb2 hinx))
      have g2 : (wr.alloc (.cells #[.int .i64 x.v, .int .i64 x.f, .slice a1 x.args.length cap1] 38)).cell? ⟨w.heap.size, 0, none⟩ = some (.slice ga ar.length gcap) := by rw [← hW2]; exact cell_below hb2 g0
      have HW2 := hide hW2
      have Hb2 := hide (Hbr.out.trans (hb2.mono Hbr.out.size))
      have Hst := hide (tErr_drop (ar := ar) hx)
      have hkI : (k : Int) < ts.length := by omega
      have hk0 : (0 : Int) ≤ k := by omega
      obtain ⟨F, hF⟩ : ∃ F, F = allErr ar [x] := ⟨_, rfl⟩
      rw [← hF] at HC Hst
      clear hx hinx hW2 hb2 hF
      go_wp2_with fail
      rw [← HW2.out]
      refine HC.out.mono ?_
      rintro e w3 ⟨rfl, hb3⟩
      have Hb3 := hide (Hb2.out.trans (hb3.mono Hb2.out.size))
      clear hb3 HC
      by_cases hF : F = 0
      · have Hn : Hid (Z = tErr ar (ts.drop (k + 1))) := by show _ = _; rw [Hk.out, Hst.out, if_pos hF]
        subst hF
        clear Hst Hk
        go_wp2_with fail
        go_roundw
        case rel => exact ⟨k + 1, by omega, by go_num, Hn, Hb3⟩
        case measure => simp [intOf]; omega
      · have hF' : (F != 0) = true := by simpa using hF
        obtain rfl : Z = F := by rw [Hk.out, Hst.out, if_neg hF]
        have Hf := hide (HbW.out.trans (Hb3.out.mono (by omega)))
        clear Hst Hk hF
        go_wp2_with fail
        go_ret
        exact ⟨rfl, Hf.out⟩
    · have hk2 : k = ts.length := by omega
      subst hk2
      obtain rfl : Z = 0 := by rw [Hk.out, List.drop_length]; rfl
      have hkI : ¬ (ts.length : Int) < ts.length := by omega
      clear Hk
      go_wp2_with fail
      go_ret
      exact ⟨rfl, Hbw.out⟩
end Go.Proofs.YtbkedppkdhfpoaaDoor

namespace Go.Proofs.YtbkedppkdhfpoaaDoor
open Go.RowKit

theorem all_one {ar : List Int} (h : sigErr ar = 0) (t : T) : allErr ar [t] = termErr ar t := by
  rw [allErr, if_pos h, termsErr]
  by_cases h1 : termErr ar t = 0
  · rw [if_pos h1, h1]; rfl
  · rw [if_neg h1]

end Go.Proofs.YtbkedppkdhfpoaaDoor

namespace Go.Proofs.YtbkedppkdhfpoaaDoor
open Go.RowKit

/-- Literals that are right. -/
def LitsOk (ar : List Int) (c : List Lit) : Prop := ∀ x, x ∈ c → (x.2.1.sz ≤ 120 ∧ okP ar x.2.1) ∧ (x.2.2.sz ≤ 120 ∧ okP ar x.2.2)
theorem litsErr_ok {ar : List Int} : ∀ {c : List Lit}, litsErr ar c = 0 → LitsOk ar c := by
  intro c
  induction c with
  | nil => intro _ x hx; cases hx
  | cons y c ih =>
    intro h x hx
    rw [litsErr] at h
    by_cases h1 : termErr ar y.2.1 = 0
    · rw [if_pos h1] at h
      by_cases h2 : termErr ar y.2.2 = 0
      · rw [if_pos h2] at h
        rcases List.mem_cons.1 hx with rfl | hx
        · exact ⟨termErr_iff.1 h1, termErr_iff.1 h2⟩
        · exact ih h x hx
      · rw [if_neg h2] at h; exact absurd h h2
    · rw [if_neg h1] at h; exact absurd h h1

attribute [local go_sem ↓] Go.wp_at_zero Go.wp_at_succ
end Go.Proofs.YtbkedppkdhfpoaaDoor

namespace Go.Proofs.YtbkedppkdhfpoaaDoor
open Go.RowKit

theorem clauses_ok {ar : List Int} {c : List Lit} (h : clausesErr ar [c] = 0) : sigErr ar = 0 ∧ c.length ≤ 8 ∧ LitsOk ar c := by
  rw [clausesErr] at h
  by_cases h1 : sigErr ar = 0
  · rw [if_pos h1, if_neg (by simp), clErr] at h
    by_cases h2 : clauseErr ar c = 0
    · rw [clauseErr] at h2
      by_cases h3 : 8 < c.length
      · rw [if_pos h3] at h2; cases h2
      · rw [if_neg h3] at h2
        exact ⟨h1, by omega, litsErr_ok h2⟩
    · rw [if_neg h2] at h; exact absurd h h2
  · rw [if_neg h1] at h; exact absurd h h1
end Go.Proofs.YtbkedppkdhfpoaaDoor

namespace Go.Proofs.YtbkedppkdhfpoaaDoor
open Go.RowKit

theorem sig_len {ar : List Int} (h : sigErr ar = 0) : ar.length ≤ 12 := by
  rw [sigErr] at h
  split at h
  · cases h
  · omega
theorem tErr_two {ar : List Int} (hs : sigErr ar = 0) (s t : T) : tErr ar [s, t] = if termErr ar s = 0 then termErr ar t else termErr ar s := by
  rw [tErr, tErr, tErr, all_one hs, all_one hs]
  split
  · split
    · rename_i h; exact h.symm
    · rfl
  · rfl
theorem lits_drop2 {ar : List Int} (hs : sigErr ar = 0) {c : List Lit} {k : Nat} {x : Lit} (h : c[k]? = some x) : litsErr ar (c.drop k) = if tErr ar [x.2.1, x.2.2] = 0 then litsErr ar (c.drop (k + 1)) else tErr ar [x.2.1, x.2.2] := by
  rw [litsErr_drop h, tErr_two hs]
  by_cases h1 : termErr ar x.2.1 = 0
  · rw [if_pos h1, if_pos h1]
  · rw [if_neg h1, if_neg h1, if_neg h1]
theorem one_err {ar : List Int} (c : List Lit) : clausesErr ar [c] = if sigErr ar = 0 then clauseErr ar c else sigErr ar := by
  rw [clausesErr]
  split
  · rw [if_neg (by simp), clErr]
    split
    · rename_i h; rw [h]; rfl
    · rfl
  · rfl
theorem InP_two {p : Nat → Prop} {w : World} {t u : T} {a a2 : Option Addr} {cap cap2 n : Nat} (e : TypeId) (hn : n = w.heap.size) (hp : p w.heap.size) (h : InP p w t.args a) (h2 : InP p w u.args a2) :
    InP p (w.alloc (.cells #[.int .i64 t.v, .int .i64 t.f, .slice a t.args.length cap, .int .i64 u.v, .int .i64 u.f, .slice a2 u.args.length cap2] e)) [t, u] (some ⟨n, 0, none⟩) := by
  subst hn
  exact InP_cons.2 ⟨_, 0, _, rfl, hp, cell_new 0 rfl, cell_new 1 rfl, cell_new 2 rfl, In_iff.2 ⟨a, cap, rfl, InP_alloc _ h⟩, InP_cons.2 ⟨_, 3, _, rfl, hp, cell_new 3 rfl, cell_new 4 rfl, cell_new 5 rfl, In_iff.2 ⟨a2, cap2, rfl, InP_alloc _ h2⟩, InP_nil⟩⟩
attribute [local go_sem ↓] Go.wp_at_zero Go.wp_at_succ
set_option maxRecDepth 100000 in
set_option maxHeartbeats 2000000 in
theorem checkClause_any (ar : List Int) (ga : Option Addr) (gcap : Nat) (c : List Lit) (ca : Option Addr) (cc : Nat) (w : World) (hl : c.length ≤ 9223372036854775807) (hg : Ints w ar ga) (hc : LitsP w c ca) :
    Calls Tryd.prog 13 #[.agg #[.slice ga ar.length gcap], .slice ca c.length cc] w fun e w' => e = .returned (.int .i64 (clausesErr ar [c])) ∧ Below w.heap.size w w' := by
  obtain ⟨W1, hW1⟩ : ∃ W1, W1 = w.alloc (.cells #[.slice ga ar.length gcap] 24) := ⟨_, rfl⟩
  have hbW : Below w.heap.size w W1 := by rw [hW1]; exact below1 _ _
  have hz1 : W1.heap.size = w.heap.size + 1 := by rw [hW1]; simp
  have hcg : W1.cell? ⟨w.heap.size, 0, none⟩ = some (.slice ga ar.length gcap) := by rw [hW1]; exact cell_new 0 rfl
  obtain ⟨Z, hZ⟩ : ∃ Z, Z = clausesErr ar [c] := ⟨_, rfl⟩
  rw [← hZ]
  rw [one_err] at hZ
  have HS := hide (signature_any ar ga gcap W1 (Ints_below hbW hg))
  have HW1 := hide hW1
  have HbW := hide hbW
  have Hcg := hide hcg
  have Hg := hide hg
  have Hc := hide hc
  have HZ := hide hZ
  have Hld := hide (fun (hs : sigErr ar = 0) (k : Nat) (x : Lit) (h : c[k]? = some x) => lits_drop2 hs h)
  obtain ⟨S, hS⟩ : ∃ S, S = sigErr ar := ⟨_, rfl⟩
  rw [← hS] at HS HZ Hld
  have g0 := hcg
  clear hZ hW1 hbW hcg hg hc hS
  go_enter Tryd.func13, Tryd.ntmps13
  go_upto_region 1 with fail
  rw [← HW1.out]
  go_wp2_with fail
  refine HS.out.mono ?_
  rintro e w1 ⟨rfl, hb1⟩
  have Hb1 := hide hb1
  have Hbw1 := hide (HbW.out.trans (hb1.mono (by omega)))
  clear hb1 HS g0
  by_cases hs : S = 0
  · have HZ1 : Hid (Z = clauseErr ar c) := by show _ = _; rw [HZ.out, if_pos hs]
    have Hld1 := hide (fun k x h => Hld.out hs k x h)
    subst hs
    clear HZ Hld
    by_cases h8 : 8 < c.length
    · obtain rfl : Z = 2 := by rw [HZ1.out, clauseErr, if_pos h8]
      have e8 : (8 : Int) < c.length := by omega
      clear HZ1 h8
      go_wp2_with fail
      go_ret
      exact ⟨rfl, Hbw1.out⟩
    · have HZ2 : Hid (Z = litsErr ar c) := by show _ = _; rw [HZ1.out, clauseErr, if_neg h8]
      have e8 : ¬ (8 : Int) < c.length := by omega
      clear HZ1
      go_wp2_with fail
      go_loopw [19] (fun i wr => ∃ k : Nat, k ≤ c.length ∧ i = .int .i64 k ∧ Hid (Z = litsErr ar (c.drop k)) ∧ Hid (Below W1.heap.size W1 wr)) (fun i _ => c.length - (intOf i).toNat)
      case atStart => exact ⟨0, Nat.zero_le _, rfl, by rw [List.drop_zero]; exact HZ2, Hb1⟩
      case round =>
        obtain ⟨k, hk, rfl, Hk, Hbr⟩ := hrel
        have Hbw := hide (HbW.out.trans (Hbr.out.mono (by omega)))
        have hzr := Hbr.out.size
        by_cases hlt : k < c.length
        · obtain ⟨b, off, rfl⟩ := LitsP_some Hc.out (by omega)
          obtain ⟨x, hx⟩ : ∃ x, c[k]? = some x := ⟨c[k], List.getElem?_eq_getElem hlt⟩
          obtain ⟨a1, c1, a2, c2, k0, k1, k2, k3, k4, k5, k6, hi1, hi2⟩ := LitsP_at (LitsP_below Hbw.out Hc.out) hx
          obtain ⟨W2, hW2⟩ : ∃ W2, W2 = (wr.alloc (.cells #[.bool x.1, .int .i64 x.2.1.v, .int .i64 x.2.1.f, .slice a1 x.2.1.args.length c1, .int .i64 x.2.2.v, .int .i64 x.2.2.f, .slice a2 x.2.2.args.length c2] 42)).alloc (.cells #[.int .i64 x.2.1.v, .int .i64 x.2.1.f, .slice a1 x.2.1.args.length c1, .int .i64 x.2.2.v, .int .i64 x.2.2.f, .slice a2 x.2.2.args.length c2] 38) := ⟨_, rfl⟩
          have hb2 : Below wr.heap.size wr W2 := by rw [hW2]; exact below2 _ _ _
          have g2 : (wr.alloc (.cells #[.bool x.1, .int .i64 x.2.1.v, .int .i64 x.2.1.f, .slice a1 x.2.1.args.length c1, .int .i64 x.2.2.v, .int .i64 x.2.2.f, .slice a2 x.2.2.args.length c2] 42)).cell? ⟨w.heap.size, 0, none⟩ = some (.slice ga ar.length gcap) := by rw [cell_alloc_lt (by omega)]; exact cell_below Hbr.out Hcg.out
          have hin2 : InL W2 [x.2.1, x.2.2] (some ⟨wr.heap.size + 1, 0, none⟩) := by
            rw [hW2]
            exact InP_two _ (by simp) trivial (InP_below (below1 _ _) hi1) (InP_below (below1 _ _) hi2)
          have HC := hide (show Calls Tryd.prog 24 #[.agg #[.slice ga ar.length gcap], .slice (some ⟨wr.heap.size + 1, 0, none⟩) 2 2] W2 _ from tcheck_any ar ga gcap [x.2.1, x.2.2] (some ⟨wr.heap.size + 1, 0, none⟩) 2 W2 (by simp) (Ints_below hb2 (Ints_below Hbw.out Hg.out)) hin2)
          have HW2 := hide hW2
          have Hb2 := hide (Hbr.out.trans (hb2.mono Hbr.out.size))
          have Hst := hide (Hld1.out k x hx)
          have hkI : (k : Int) < c.length := by omega
          have hk0 : (0 : Int) ≤ k := by omega
          obtain ⟨F, hF⟩ : ∃ F, F = tErr ar [x.2.1, x.2.2] := ⟨_, rfl⟩
          rw [← hF] at HC Hst
          clear hx hi1 hi2 hW2 hb2 hF hin2
          go_wp2_with fail
          rw [← HW2.out]
          refine HC.out.mono ?_
          rintro e w3 ⟨rfl, hb3⟩
          have Hb3 := hide (Hb2.out.trans (hb3.mono Hb2.out.size))
          clear hb3 HC
          by_cases hF : F = 0
          · have Hn : Hid (Z = litsErr ar (c.drop (k + 1))) := by show _ = _; rw [Hk.out, Hst.out, if_pos hF]
            subst hF
            clear Hst Hk
            go_wp2_with fail
            go_roundw
            case rel => exact ⟨k + 1, by omega, by go_num, Hn, Hb3⟩
            case measure => simp [intOf]; omega
          · have hF' : (F != 0) = true := by simpa using hF
            obtain rfl : Z = F := by rw [Hk.out, Hst.out, if_neg hF]
            have Hf := hide (HbW.out.trans (Hb3.out.mono (by omega)))
            clear Hst Hk hF
            go_wp2_with fail
            go_ret
            exact ⟨rfl, Hf.out⟩
        · have hk2 : k = c.length := by omega
          subst hk2
          obtain rfl : Z = 0 := by rw [Hk.out, List.drop_length]; rfl
          have hkI : ¬ (c.length : Int) < c.length := by omega
          clear Hk
          go_wp2_with fail
          go_ret
          exact ⟨rfl, Hbw.out⟩
  · have hs' : (S != 0) = true := by simpa using hs
    obtain rfl : Z = S := by rw [HZ.out, if_neg hs]
    clear HZ hs Hld
    go_wp2_with fail
    go_ret
    exact ⟨rfl, Hbw1.out⟩
set_option maxRecDepth 100000 in
set_option maxHeartbeats 1000000 in
/-- A term as a text, or an error. -/
theorem tTerm_any (ar : List Int) (ga : Option Addr) (gcap : Nat) (t : T) (a : Option Addr) (cap : Nat) (w : World) (hg : Ints w ar ga) (htab : Tab w) (hin : InL w t.args a) :
    Calls Tryd.prog 12 #[.agg #[.slice ga ar.length gcap], .agg #[.int .i64 t.v, .int .i64 t.f, .slice a t.args.length cap]] w fun e w' => e = .returned (.tuple #[.string ⟨(if allErr ar [t] = 0 then textT t else []).toArray⟩, .int .i64 (allErr ar [t])]) ∧ Below w.heap.size w w' := by
  obtain ⟨W1, hW1⟩ : ∃ W1, W1 = (w.alloc (.cells #[.slice ga ar.length gcap] 24)).alloc (.cells #[.int .i64 t.v, .int .i64 t.f, .slice a t.args.length cap] 38) := ⟨_, rfl⟩
  have hbW : Below w.heap.size w W1 := by rw [hW1]; exact below2 _ _ _
  have hz1 : W1.heap.size = w.heap.size + 2 := by rw [hW1]; simp
  have hcg : W1.cell? ⟨w.heap.size, 0, none⟩ = some (.slice ga ar.length gcap) := by rw [hW1, cell_alloc_lt (by simp)]; exact cell_new 0 rfl
  have h3 : Three W1 (w.heap.size + 1) (.int .i64 t.v) (.int .i64 t.f) (.slice a t.args.length cap) := by rw [hW1]; exact Three.new _ (by simp)
  have HL := hide (fun (w' : World) (hb : Below W1.heap.size W1 w') => And.intro (cell_below hb hcg) (h3.below hb))
  have hin1 : ∀ (w' : World) (hb : Below W1.heap.size W1 w'), InL (w'.alloc (.cells #[.int .i64 t.v, .int .i64 t.f, .slice a t.args.length cap] 38)) [t] (some ⟨w'.heap.size, 0, none⟩) := fun w' hb => InP_new1 _ rfl trivial (InP_below hb (InP_below hbW hin))
  have HC := hide (show Calls Tryd.prog 24 #[.agg #[.slice ga ar.length gcap], .slice (some ⟨W1.heap.size, 0, none⟩) 1 1] (W1.alloc (.cells #[.int .i64 t.v, .int .i64 t.f, .slice a t.args.length cap] 38)) _ from tcheck_any ar ga gcap [t] (some ⟨W1.heap.size, 0, none⟩) 1 _ (by simp) (Ints_below (below1 _ _) (Ints_below hbW hg)) (hin1 W1 (Below.refl _ _)))
  have HWr := hide (fun (h0 : allErr ar [t] = 0) (w' : World) (hb : Below W1.heap.size W1 w') => (show Calls Tryd.prog 14 #[.slice (some ⟨w'.heap.size, 0, none⟩) 1 1] (w'.alloc (.cells #[.int .i64 t.v, .int .i64 t.f, .slice a t.args.length cap] 38)) _ from written_any ar (sig_len (allErr_iff.1 h0).1) [t] (some ⟨w'.heap.size, 0, none⟩) 1 _ (by rw [T.szL_cons]; show t.sz + 0 ≤ 1000; have := ((allErr_iff.1 h0).2 t (by simp)).1; omega) (fun s hs => by rw [List.mem_singleton.1 hs]; exact ((allErr_iff.1 h0).2 t (by simp)).2) (Tab_below (below1 _ _) (Tab_below hb (Tab_below hbW htab))) (hin1 w' hb)))
  have e1 : tErr ar [t] = allErr ar [t] := by
    rw [tErr, tErr]; split
    · rename_i h; exact h.symm
    · rfl
  have e2 : textT.textL [t] = textT t := by rw [textT.textL, textT.textC, List.append_nil]
  rw [e1] at HC
  simp only [e2] at HWr
  have HW1 := hide hW1
  have HbW := hide hbW
  obtain ⟨E, hE⟩ : ∃ E, E = allErr ar [t] := ⟨_, rfl⟩
  obtain ⟨X, hX⟩ : ∃ X, X = textT t := ⟨_, rfl⟩
  rw [← hE] at HC HWr ⊢
  simp only [← hX] at HWr
  rw [← hX]
  obtain ⟨Y, hY⟩ : ∃ Y, Y = (if E = 0 then X else []) := ⟨_, rfl⟩
  rw [← hY]
  have HY := hide hY
  obtain ⟨g0, t0, t1, t2, _, _, _⟩ := HL.out W1 (Below.refl _ _)
  have Hz1 := hide hz1
  clear hW1 hbW hcg h3 hin1 hin htab hg e1 e2 hE hX hz1 hY
  go_enter Tryd.func12, Tryd.ntmps12
  go_upto_region 1 with fail
  rw [← HW1.out]
  go_wp2_with fail
  refine HC.out.mono ?_
  rintro e w2 ⟨rfl, hb2⟩
  have Hb2 : Hid (Below W1.heap.size W1 w2) := (below1 W1 _).trans (hb2.mono (by simp))
  clear hb2 HC g0 t0 t1 t2
  obtain ⟨g0, t0, t1, t2, _, _, _⟩ := HL.out w2 Hb2.out
  by_cases h0 : E = 0
  · have HWr1 := hide (HWr.out h0 w2 Hb2.out)
    obtain rfl : Y = X := by rw [HY.out, if_pos h0]
    subst h0
    clear HWr HY
    go_wp2_with fail
    refine HWr1.out.mono ?_
    rintro e w3 ⟨rfl, hb3⟩
    have Hf := hide (HbW.out.trans ((Hb2.out.trans (((below1 w2 _).trans (hb3.mono (by simp))).mono Hb2.out.size)).mono (by have := Hz1.out; omega)))
    clear hb3 HWr1
    go_wp2_with fail
    go_ret2
    exact ⟨rfl, Hf.out⟩
  · have h0' : (E != 0) = true := by simpa using h0
    have Hf := hide (HbW.out.trans (Hb2.out.mono (by have := Hz1.out; omega)))
    obtain rfl : Y = [] := by rw [HY.out, if_neg h0]
    clear h0 HWr HY
    go_wp2_with fail
    go_ret2
    exact ⟨rfl, Hf.out⟩
end Go.Proofs.YtbkedppkdhfpoaaDoor

namespace Go.Proofs.YtbkedppkdhfpoaaDoor
open Go.RowKit

theorem bytes_append (a b : List UInt8) : (⟨a.toArray⟩ : ByteArray) ++ ⟨b.toArray⟩ = ⟨(a ++ b).toArray⟩ := by
  apply ByteArray.ext
  rw [ByteArray.data_append]
  simp
theorem str_add (a b : List UInt8) (h : a.length + b.length ≤ 1000000000) (w : World) : (binOp .add 9 (.string ⟨a.toArray⟩) (.string ⟨b.toArray⟩)).run Tryd.prog w = .ok (.string ⟨(a ++ b).toArray⟩) w := by
  have hs : ¬ (((⟨a.toArray⟩ : ByteArray).size + (⟨b.toArray⟩ : ByteArray).size : Nat) : Int) > IntKind.i64.max := by
    show ¬ ((a.toArray.size + b.toArray.size : Nat) : Int) > _
    simp only [List.size_toArray]
    have : IntKind.i64.max = 9223372036854775807 := by decide
    omega
  simp only [binOp, Op.stringOp]
  rw [← bytes_append, if_neg hs]
  rfl
end Go.Proofs.YtbkedppkdhfpoaaDoor

namespace Go.Proofs.YtbkedppkdhfpoaaDoor
open Go.RowKit

/-- A literal's text. -/
def litL (x : Lit) : List UInt8 := textT x.2.1 ++ signL x.1 ++ textT x.2.2
/-- A clause's text. -/
def clauseL (c : List Lit) : List UInt8 := if c.isEmpty then [36, 102, 97, 108, 115, 101] else Lib.join (c.map litL) [32, 124, 32]
/-- Strings of a list. -/
def strV (l : List UInt8) : Value := .string ⟨l.toArray⟩
theorem litL_len {ar : List Int} (har : ar.length ≤ 12) {x : Lit} (h : (x.2.1.sz ≤ 120 ∧ okP ar x.2.1) ∧ (x.2.2.sz ≤ 120 ∧ okP ar x.2.2)) : (litL x).length ≤ 241444 := by
  have hla := (term_len har _).1 x.2.1 (Nat.le_refl _) h.1.2
  have hlb := (term_len har _).1 x.2.2 (Nat.le_refl _) h.2.2
  have hls : (signL x.1).length ≤ 4 := by rw [signL]; split <;> simp
  have hsA := h.1.1
  have hsB := h.2.1
  rw [litL, List.length_append, List.length_append]
  omega
theorem joinTail_len (sep : List UInt8) (B : Nat) (l : List (List UInt8)) (h : ∀ x ∈ l, x.length ≤ B) : (Lib.joinTail sep l).length ≤ l.length * (sep.length + B) := by
  induction l with
  | nil => exact Nat.zero_le _
  | cons x r ih =>
    have h1 := ih (fun y hy => h y (List.mem_cons_of_mem _ hy))
    have h2 := h x List.mem_cons_self
    have e : Lib.joinTail sep (x :: r) = (sep ++ x) ++ Lib.joinTail sep r := rfl
    rw [e, List.length_append, List.length_append, List.length_cons, Nat.add_mul]
    omega
theorem join_len (sep : List UInt8) (B : Nat) (l : List (List UInt8)) (h : ∀ x ∈ l, x.length ≤ B) : (Lib.join l sep).length ≤ l.length * (sep.length + B) := by
  cases l with
  | nil => exact Nat.zero_le _
  | cons x r =>
    have h1 := joinTail_len sep B r (fun y hy => h y (List.mem_cons_of_mem _ hy))
    have h2 := h x List.mem_cons_self
    rw [Lib.join_cons, List.length_append, List.length_cons, Nat.add_mul]
    omega
theorem join_own {ar : List Int} (har : ar.length ≤ 12) {c : List Lit} (hlo : LitsOk ar c) (h8 : c.length ≤ 8) (hpos : 0 < c.length) {w : World} {base : Nat} {v : Value} (h : w.ownsRow base 9 1 v c.length (c.map (fun x => strV (litL x)))) :
    Calls Tryd.prog 16 #[v, .string ⟨#[32, 124, 32]⟩] w fun e w' => e = .returned (.string ⟨(Lib.join (c.map litL) [32, 124, 32]).toArray⟩) ∧ Below w.heap.size w w' := by
  have hcell := fun g hg => h.cells (g := g) hg
  obtain ⟨h1, ⟨rfl, h0⟩ | ⟨g, cap, cur, rfl, hb, hh, hn, hm, hsz, ht⟩⟩ := h
  · omega
  have e1 : (c.map (fun x => (⟨(litL x).toArray⟩ : ByteArray))).map (·.data.toList) = c.map litL := by
    rw [List.map_map]
    rfl
  have hlen : (Lib.join (c.map litL) [32, 124, 32]).length ≤ 140737488355328 := by
    have h2 := join_len [32, 124, 32] 241444 (c.map litL) (fun y hy => by
      obtain ⟨x, hx, rfl⟩ := List.mem_map.1 hy
      exact litL_len har (hlo x hx))
    rw [List.length_map] at h2
    have h3 : c.length * ([32, 124, 32].length + 241444) ≤ 8 * ([32, 124, 32].length + 241444) := Nat.mul_le_mul_right _ h8
    have h4 : 8 * (([32, 124, 32] : List UInt8).length + 241444) ≤ 140737488355328 := by decide
    exact Nat.le_trans h2 (Nat.le_trans h3 h4)
  have hj := Tryd.strings_Join g 0 cap (c.map (fun x => (⟨(litL x).toArray⟩ : ByteArray))) ⟨#[32, 124, 32]⟩ w (fun j x hx => by
      have h2 := hcell g rfl j (.string x) (by
        rw [List.getElem?_map] at hx ⊢
        obtain ⟨y, hy, rfl⟩ := Option.map_eq_some_iff.1 hx
        rw [hy]
        rfl)
      cases j with
        | zero => exact h2
        | succ j => simpa [Addr.add] using h2) (Array.getElem?_eq_some_iff.1 hh).1 (by rw [List.length_map]; omega) (by rw [List.length_map]; omega) (by rw [e1]; exact hlen)
  rw [e1, List.length_map] at hj
  exact hj
end Go.Proofs.YtbkedppkdhfpoaaDoor

namespace Go.Proofs.YtbkedppkdhfpoaaDoor
open Go.RowKit

theorem Tryd.info9 : (Tryd.prog.info? 9).map (fun i => (i.zero, i.size, i.bytes)) = some (some (.string ⟨#[]⟩), 1, 16) := by kernel_rfl
theorem in_one {w : World} {t : T} {a : Option Addr} {cap n : Nat} {e : TypeId} (hn : n = w.heap.size) (h : InL w t.args a) : InL (w.alloc (.cells #[.int .i64 t.v, .int .i64 t.f, .slice a t.args.length cap] e)) [t] (some ⟨n, 0, none⟩) := InP_new1 e hn trivial h
theorem in_two {w : World} {t : T} {a : Option Addr} {cap n : Nat} {e : TypeId} {o : Obj} (hn : n = w.heap.size) (h : InL w t.args a) : InL ((w.alloc (.cells #[.int .i64 t.v, .int .i64 t.f, .slice a t.args.length cap] e)).alloc o) [t] (some ⟨n, 0, none⟩) := InP_below (below1 _ _) (in_one hn h)
theorem in_drew {w : World} {ts : List T} {a : Option Addr} (h : InL w ts a) : InL w.drew ts a := InP_below ((Below.refl _ _).drew) h
theorem appD {w2 wr W3 Y wD : World} {own : Option Nat} (h3 : Below w2.heap.size w2 W3) (hz : W3.heap.size = wr.heap.size + 1) (ho : ∀ j, own = some j → w2.heap.size ≤ j ∧ j < wr.heap.size) (hgr : Y.grownBy wD own) (hY : Below W3.heap.size W3 Y) :
    Below w2.heap.size w2 wD ∧ ∀ j v, W3.cell? ⟨wr.heap.size, j, none⟩ = some v → wD.cell? ⟨wr.heap.size, j, none⟩ = some v := by
  have hs := hY.size
  refine ⟨(h3.trans (hY.mono h3.size)).grown hgr (Nat.le_trans h3.size hs) (fun j hj => (ho j hj).1), fun j v hv => ?_⟩
  rw [World.cell?_of_block (w := Y) (a := ⟨wr.heap.size, j, none⟩) (hgr.block wr.heap.size (by omega) (fun e => by have := (ho _ e.symm).2; omega))]
  exact cell_below hY hv
theorem written_one {ar : List Int} (har : ar.length ≤ 12) {t : T} (ht : t.sz ≤ 120 ∧ okP ar t) (n : Nat) (w : World) (htab : Tab w) (hin : InL w [t] (some ⟨n, 0, none⟩)) :
    Calls Tryd.prog 14 #[.slice (some ⟨n, 0, none⟩) 1 1] w fun e w' => e = .returned (.string ⟨(textT t).toArray⟩) ∧ Below w.heap.size w w' := by
  have e2 : textT.textL [t] = textT t := by rw [textT.textL, textT.textC, List.append_nil]
  have h := written_any ar har [t] (some ⟨n, 0, none⟩) 1 w (by rw [T.szL_cons]; show t.sz + 0 ≤ 1000; omega) (fun s hs => by rw [List.mem_singleton.1 hs]; exact ht.2) htab hin
  rw [e2] at h
  exact h
attribute [local go_sem ↓] Go.wp_at_zero Go.wp_at_succ
set_option maxRecDepth 100000 in
set_option maxHeartbeats 4000000 in
theorem tClause_any (ar : List Int) (ga : Option Addr) (gcap : Nat) (c : List Lit) (ca : Option Addr) (cc : Nat) (w : World) (hl : c.length ≤ 9223372036854775807) (hg : Ints w ar ga) (htab : Tab w) (hc : LitsP w c ca) :
    Calls Tryd.prog 5 #[.agg #[.slice ga ar.length gcap], .slice ca c.length cc] w fun e w' => e = .returned (.tuple #[.string ⟨(if clausesErr ar [c] = 0 then clauseL c else []).toArray⟩, .int .i64 (clausesErr ar [c])]) ∧ Below w.heap.size w w' := by
  obtain ⟨W1, hW1⟩ : ∃ W1, W1 = w.alloc (.cells #[.slice ga ar.length gcap] 24) := ⟨_, rfl⟩
  have hbW : Below w.heap.size w W1 := by rw [hW1]; exact below1 _ _
  have hz1 : W1.heap.size = w.heap.size + 1 := by rw [hW1]; simp
  have hcg : W1.cell? ⟨w.heap.size, 0, none⟩ = some (.slice ga ar.length gcap) := by rw [hW1]; exact cell_new 0 rfl
  have HC := hide (checkClause_any ar ga gcap c ca cc W1 hl (Ints_below hbW hg) (LitsP_below hbW hc))
  have Hok := hide (fun (h : clausesErr ar [c] = 0) => clauses_ok h)
  obtain ⟨E, hE⟩ : ∃ E, E = clausesErr ar [c] := ⟨_, rfl⟩
  obtain ⟨Y, hY⟩ : ∃ Y, Y = (if clausesErr ar [c] = 0 then clauseL c else []) := ⟨_, rfl⟩
  rw [← hY, ← hE]
  rw [← hE] at HC Hok hY
  have HY := hide hY
  have HW1 := hide hW1
  have HbW := hide hbW
  have Hz1 := hide hz1
  have Htab := hide (Tab_below hbW htab)
  have Hc := hide (LitsP_lt (LitsP_below hbW hc))
  have g0 := hcg
  clear hE hY hW1 hbW hz1 htab hc hg hcg
  go_enter Tryd.func5, Tryd.ntmps5
  go_upto_region 1 with fail
  rw [← HW1.out]
  go_wp2_with fail
  refine HC.out.mono ?_
  rintro e w2 ⟨rfl, hb2⟩
  have Hb2 := hide hb2
  have Hf2 := hide (HbW.out.trans (hb2.mono (by have := Hz1.out; omega)))
  clear hb2 HC g0
  by_cases h0 : E = 0
  · obtain ⟨hs, h8, hlo⟩ := Hok.out h0
    have har := sig_len hs
    have HY1 : Hid (Y = clauseL c) := by show _ = _; rw [HY.out, if_pos h0]
    subst h0
    have Hlo := hide hlo
    clear HY Hok hlo hs
    cases hcn : c with
    | nil =>
      obtain rfl : Y = [36, 102, 97, 108, 115, 101] := by rw [HY1.out, hcn]; rfl
      subst hcn
      clear HY1
      go_wp2_with fail
      go_ret2
      exact ⟨rfl, Hf2.out⟩
    | cons c0 cr =>
      have hne : ((c.length : Int) == 0) = false := by rw [beq_eq_false_iff_ne, hcn, List.length_cons]; omega
      have HJn : Hid (Y = Lib.join (c.map litL) [32, 124, 32]) := by show _ = _; rw [HY1.out, clauseL, hcn]; rfl
      have hpos : 0 < c.length := by rw [hcn]; simp
      rw [← hcn]
      clear hcn HY1
      obtain ⟨ti, hi, hzz⟩ := Option.map_eq_some_iff.1 Tryd.info9
      simp only [Prod.mk.injEq] at hzz
      obtain ⟨hz0, hz1, hz2⟩ := hzz
      go_wp2_with fail
      go_loopw [7, 21] (fun lv i wr => ∃ k : Nat, k ≤ c.length ∧ i = .int .i64 k ∧ Hid (wr.ownsRow w2.heap.size 9 1 lv k ((c.take k).map (fun x => strV (litL x)))) ∧ Hid (Below w2.heap.size w2 wr)) (fun _ i _ => c.length - (intOf i).toNat)
      case atStart => exact ⟨0, Nat.zero_le _, rfl, ⟨rfl, Or.inl ⟨rfl, rfl⟩⟩, Below.refl _ _⟩
      case round =>
        obtain ⟨k, hk, rfl, Hown, Hb⟩ := hrel
        have hzr := Hb.out.size
        obtain ⟨la, lc, rfl⟩ := own_shape Hown.out
        by_cases hlt : k < c.length
        · obtain ⟨b, off, rfl⟩ := LitsP_some (LitsQ_lits Hc.out) (by omega)
          obtain ⟨x, hx⟩ : ∃ x, c[k]? = some x := ⟨c[k], List.getElem?_eq_getElem hlt⟩
          have HbR := hide (Hb2.out.trans (Hb.out.mono Hb2.out.size))
          obtain ⟨a1, c1, a2, c2, k0, k1, k2, k3, k4, k5, k6, hi1, hi2⟩ := LitsP_at (LitsP_below HbR.out (LitsQ_lits Hc.out)) hx
          have hxo := Hlo.out x (List.mem_of_getElem? hx)
          obtain ⟨W3, hW3⟩ : ∃ W3, W3 = wr.alloc (.cells #[.bool x.1, .int .i64 x.2.1.v, .int .i64 x.2.1.f, .slice a1 x.2.1.args.length c1, .int .i64 x.2.2.v, .int .i64 x.2.2.f, .slice a2 x.2.2.args.length c2] 42) := ⟨_, rfl⟩
          have hb3 : Below wr.heap.size wr W3 := by rw [hW3]; exact below1 _ _
          have hz3 : W3.heap.size = wr.heap.size + 1 := by rw [hW3]; simp
          have h7 : L7 W3 wr.heap.size 0 x a1 c1 a2 c2 := by rw [hW3]; exact L7.new _ rfl
          have HTY := hide (fun (Y : World) (hb : Below W3.heap.size W3 Y) => Tab_below hb (Tab_below hb3 (Tab_below HbR.out Htab.out)))
          have Hi1 := hide (fun (Y : World) (hb : Below W3.heap.size W3 Y) => (show InL Y x.2.1.args a1 from InP_below hb (InP_below hb3 hi1)))
          have Hi2 := hide (fun (Y : World) (hb : Below W3.heap.size W3 Y) => (show InL Y x.2.2.args a2 from InP_below hb (InP_below hb3 hi2)))
          have HA := hide (fun (Y : World) (n : Nat) (hb : Below W3.heap.size W3 Y) (hin : InL Y [x.2.1] (some ⟨n, 0, none⟩)) => written_one har hxo.1 n Y (HTY.out Y hb) hin)
          have HB := hide (fun (Y : World) (n : Nat) (hb : Below W3.heap.size W3 Y) (hin : InL Y [x.2.2] (some ⟨n, 0, none⟩)) => written_one har hxo.2 n Y (HTY.out Y hb) hin)
          have HSg := hide (fun (Y : World) => sign_any x a1 c1 a2 c2 Y)
          have hla := (term_len har _).1 x.2.1 (Nat.le_refl _) hxo.1.2
          have hlb := (term_len har _).1 x.2.2 (Nat.le_refl _) hxo.2.2
          have hls : (signL x.1).length ≤ 4 := by rw [signL]; split <;> simp
          have hsA := hxo.1.1
          have hsB := hxo.2.1
          have hadd1 : ¬ 9223372036854775807 < (textT x.2.1).length + (signL x.1).length := by omega
          have hadd2 : ¬ 9223372036854775807 < (textT x.2.1).length + (signL x.1).length + (textT x.2.2).length := by omega
          have HO := hide (fun (Y : World) (hb : Below W3.heap.size W3 Y) => own_same (own_same Hown.out (fun g hg => hb3.block g (own_lt Hown.out g hg).2)) (w' := Y) (fun g hg => hb.block g (by have := (own_lt Hown.out g hg).2; omega)))
          have Hst : Hid ((c.take (k + 1)).map (fun x => strV (litL x)) = (c.take k).map (fun x => strV (litL x)) ++ [strV (litL x)]) := by show _ = _; rw [List.take_add_one, hx, List.map_append]; rfl
          have hS := hide (fun (w' : World) (hb : Below W3.heap.size W3 w') => (show w'.cell? ⟨wr.heap.size, 0, none⟩ = some (.bool x.1) ∧ w'.cell? ⟨wr.heap.size, 1, none⟩ = some (.int .i64 x.2.1.v) ∧ w'.cell? ⟨wr.heap.size, 2, none⟩ = some (.int .i64 x.2.1.f) ∧ w'.cell? ⟨wr.heap.size, 3, none⟩ = some (.slice a1 x.2.1.args.length c1) ∧ w'.cell? ⟨wr.heap.size, 4, none⟩ = some (.int .i64 x.2.2.v) ∧ w'.cell? ⟨wr.heap.size, 5, none⟩ = some (.int .i64 x.2.2.f) ∧ w'.cell? ⟨wr.heap.size, 6, none⟩ = some (.slice a2 x.2.2.args.length c2) from by
            obtain ⟨u0, u1, u2, u3, u4, u5, u6⟩ := h7.below hb
            simp only [Nat.zero_add] at u1 u2 u3 u4 u5 u6
            exact ⟨u0, u1, u2, u3, u4, u5, u6⟩))
          have HbW3 := hide (Hb.out.trans (hb3.mono hzr))
          have HW3 := hide hW3
          have Hz3 := hide hz3
          have hkI : (k : Int) < c.length := by omega
          have hk0 : (0 : Int) ≤ k := by omega
          obtain ⟨p0, p1, p2, p3, p4, p5, p6⟩ := hS.out W3 (Below.refl _ _)
          have Hp := hide (hS.out W3 (Below.refl _ _))
          clear hx hxo hi1 hi2 hW3 hb3 h7 hz3
          go_wp2_with fail
          rw [← HW3.out]
          go_region_held3 (fun w' => w'.cell? ⟨wr.heap.size, 0, none⟩ = some (.bool x.1) ∧ w'.cell? ⟨wr.heap.size, 1, none⟩ = some (.int .i64 x.2.1.v) ∧ w'.cell? ⟨wr.heap.size, 2, none⟩ = some (.int .i64 x.2.1.f) ∧ w'.cell? ⟨wr.heap.size, 3, none⟩ = some (.slice a1 x.2.1.args.length c1) ∧ w'.cell? ⟨wr.heap.size, 4, none⟩ = some (.int .i64 x.2.2.v) ∧ w'.cell? ⟨wr.heap.size, 5, none⟩ = some (.int .i64 x.2.2.f) ∧ w'.cell? ⟨wr.heap.size, 6, none⟩ = some (.slice a2 x.2.2.args.length c2)) ((first | (with_reducible exact ⟨HcD.out _ _ Hp.out.1, HcD.out _ _ Hp.out.2.1, HcD.out _ _ Hp.out.2.2.1, HcD.out _ _ Hp.out.2.2.2.1, HcD.out _ _ Hp.out.2.2.2.2.1, HcD.out _ _ Hp.out.2.2.2.2.2.1, HcD.out _ _ Hp.out.2.2.2.2.2.2⟩) | (refine hS.out _ ?_; (repeat' (first | with_reducible exact HxC.out | with_reducible exact HxB.out | with_reducible exact HxA.out | with_reducible exact Below.refl _ _ | (with_reducible refine Below.drew ?_) | (refine Below.alloc ?_ ?_ _; rotate_left; focus (first | omega | (simp; omega) | (simp; done))))); done) | go_keep)) ((first
            | (go_at_call 14
               with_reducible refine (HA.out _ _ ?_ ?_).mono ?_
               · (repeat' (first | with_reducible exact HxC.out | with_reducible exact HxB.out | with_reducible exact HxA.out | with_reducible exact Below.refl _ _ | (with_reducible refine Below.drew ?_) | (refine Below.alloc ?_ ?_ _; rotate_left; focus (first | omega | (simp; omega) | (simp; done)))))
               · (repeat (first | (with_reducible refine in_drew ?_) | (with_reducible refine InP_below HY2.out ?_) | (with_reducible refine InP_below HY1.out ?_))); first | (with_reducible refine in_one ?_ (Hi1.out _ ?_); (focus (first | rfl | (simp; done))); (repeat' (first | with_reducible exact HxC.out | with_reducible exact HxB.out | with_reducible exact HxA.out | with_reducible exact Below.refl _ _ | (with_reducible refine Below.drew ?_) | (refine Below.alloc ?_ ?_ _; rotate_left; focus (first | omega | (simp; omega) | (simp; done))))); done) | (with_reducible refine in_two ?_ (Hi1.out _ ?_); (focus (first | rfl | (simp; done))); (repeat' (first | with_reducible exact HxC.out | with_reducible exact HxB.out | with_reducible exact HxA.out | with_reducible exact Below.refl _ _ | (with_reducible refine Below.drew ?_) | (refine Below.alloc ?_ ?_ _; rotate_left; focus (first | omega | (simp; omega) | (simp; done))))); done) | fail
               rintro e xA ⟨rfl, hbA⟩
               have HY1 := hide hbA
               have HxA : Hid (Below W3.heap.size W3 xA) := by
                 refine Below.trans (b := _) ?_ (hbA.mono ?_)
                 · (repeat' (first | with_reducible exact HxC.out | with_reducible exact HxB.out | with_reducible exact HxA.out | with_reducible exact Below.refl _ _ | (with_reducible refine Below.drew ?_) | (refine Below.alloc ?_ ?_ _; rotate_left; focus (first | omega | (simp; omega) | (simp; done)))))
                 · first | omega | (simp; omega) | (simp; done)
               have hzA := HxA.out.size
               clear hbA)
            | (go_at_call 15
               with_reducible refine (HSg.out _).mono ?_
               rintro e xB ⟨rfl, hbB⟩
               have HY2 := hide hbB
               have HxB : Hid (Below W3.heap.size W3 xB) := by
                 refine Below.trans (b := _) ?_ (hbB.mono ?_)
                 · (repeat' (first | with_reducible exact HxC.out | with_reducible exact HxB.out | with_reducible exact HxA.out | with_reducible exact Below.refl _ _ | (with_reducible refine Below.drew ?_) | (refine Below.alloc ?_ ?_ _; rotate_left; focus (first | omega | (simp; omega) | (simp; done)))))
                 · first | omega | (simp; omega) | (simp; done)
               have hzB := HxB.out.size
               clear hbB)
            | (go_at_call 14
               with_reducible refine (HB.out _ _ ?_ ?_).mono ?_
               · (repeat' (first | with_reducible exact HxC.out | with_reducible exact HxB.out | with_reducible exact HxA.out | with_reducible exact Below.refl _ _ | (with_reducible refine Below.drew ?_) | (refine Below.alloc ?_ ?_ _; rotate_left; focus (first | omega | (simp; omega) | (simp; done)))))
               · (repeat (first | (with_reducible refine in_drew ?_) | (with_reducible refine InP_below HY2.out ?_) | (with_reducible refine InP_below HY1.out ?_))); first | (with_reducible refine in_one ?_ (Hi2.out _ ?_); (focus (first | rfl | (simp; done))); (repeat' (first | with_reducible exact HxC.out | with_reducible exact HxB.out | with_reducible exact HxA.out | with_reducible exact Below.refl _ _ | (with_reducible refine Below.drew ?_) | (refine Below.alloc ?_ ?_ _; rotate_left; focus (first | omega | (simp; omega) | (simp; done))))); done) | (with_reducible refine in_two ?_ (Hi2.out _ ?_); (focus (first | rfl | (simp; done))); (repeat' (first | with_reducible exact HxC.out | with_reducible exact HxB.out | with_reducible exact HxA.out | with_reducible exact Below.refl _ _ | (with_reducible refine Below.drew ?_) | (refine Below.alloc ?_ ?_ _; rotate_left; focus (first | omega | (simp; omega) | (simp; done))))); done) | fail
               rintro e xC ⟨rfl, hbC⟩
               have HxC : Hid (Below W3.heap.size W3 xC) := by
                 refine Below.trans (b := _) ?_ (hbC.mono ?_)
                 · (repeat' (first | with_reducible exact HxC.out | with_reducible exact HxB.out | with_reducible exact HxA.out | with_reducible exact Below.refl _ _ | (with_reducible refine Below.drew ?_) | (refine Below.alloc ?_ ?_ _; rotate_left; focus (first | omega | (simp; omega) | (simp; done)))))
                 · first | omega | (simp; omega) | (simp; done)
               have hzC := HxC.out.size
               clear hbC)
            | (refine step_append_lies _ rfl (.tmp 25) (.tmp 38) 47 rfl w2.heap.size 9 ti (.string ⟨#[]⟩) 1 16 Tryd.underlying47 hi hz0 hz1 hz2 rfl (by decide) (.slice la k lc) k ((c.take k).map (fun x => strV (litL x))) rfl (HO.out _ (by (repeat' (first | with_reducible exact HxC.out | (with_reducible refine Below.drew ?_) | (refine Below.alloc ?_ ?_ _; rotate_left; focus (first | omega | (simp; omega) | (simp; done))))))) ⟨xC.heap.size, 0, none⟩ 1 1 [.string ⟨(textT x.2.1 ++ signL x.1 ++ textT x.2.2).toArray⟩] rfl rfl (World.news_of_block (heap_alloc_new xC _)) (by simp [Value.oneCell']) (by decide) (by unfold maxLen; omega) (by omega) (by have := Hz3.out; simp; omega) _ rfl ?_
               intro g capg wD hownD hgrD hatD hltD
               have HoD : Hid (wD.ownsRow w2.heap.size 9 1 (.slice (some ⟨g, 0, none⟩) (k + 1) capg) (k + 1) ((c.take (k + 1)).map (fun x => strV (litL x)))) := by
                 unfold Hid
                 rw [Hst.out]
                 exact hownD
               have hYC : Hid (Below w2.heap.size w2 wD ∧ ∀ j v, W3.cell? ⟨wr.heap.size, j, none⟩ = some v → wD.cell? ⟨wr.heap.size, j, none⟩ = some v) := by
                 unfold Hid
                 refine appD HbW3.out Hz3.out (fun j hj => own_lt Hown.out j hj) hgrD ?_
                 (repeat' (first | with_reducible exact HxC.out | (with_reducible refine Below.drew ?_) | (refine Below.alloc ?_ ?_ _; rotate_left; focus (first | omega | (simp; omega) | (simp; done)))))
               have HfD := hide hYC.out.1
               have HcD := hide hYC.out.2
               clear hownD hgrD hatD)
            | fail))
          all_goals (
            go_wp2_with fail
            go_roundw
            case rel => exact ⟨k + 1, by omega, by go_num, HoD, HfD⟩
            case measure => simp [intOf]; omega)
        · obtain rfl : k = c.length := by omega
          rw [List.take_length] at Hown
          have HJ := hide (join_own har Hlo.out h8 hpos Hown.out)
          have Hfr := hide (Hf2.out.trans (Hb.out.mono Hf2.out.size))
          rw [← HJn.out] at HJ
          have hkI : ¬ ((c.length : Int) < c.length) := by omega
          go_wp2_with fail
          refine HJ.out.mono ?_
          rintro e w4 ⟨rfl, hb4⟩
          have Hb4 := hide (Hfr.out.trans (hb4.mono Hfr.out.size))
          clear hb4
          go_wp2_with fail
          go_ret2
          exact ⟨rfl, Hb4.out⟩
  · have h0' : (E != 0) = true := by simpa using h0
    obtain rfl : Y = [] := by rw [HY.out, if_neg h0]
    clear h0 HY Hok
    go_wp2_with fail
    go_ret2
    exact ⟨rfl, Hf2.out⟩
end Go.Proofs.YtbkedppkdhfpoaaDoor
