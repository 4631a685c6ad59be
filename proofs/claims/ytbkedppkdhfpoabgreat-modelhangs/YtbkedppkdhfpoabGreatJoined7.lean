/- The document's ArgsOf. What stands fast within one round of the document's own order: what the round reads, and where it lies. How bindings lie in memory; which one a variable has. A list of bindings of the call's own. A list of literals of the call's own; literals appended to it. Literals that are needed: without those that can't be so, and those that one ahead is, too. -/
import Derived.Deep.AppendLies
import Derived.Deep.DeepCutAuto
import Derived.Deep.RegionHeld3
import Derived.Laws.AppendOwnNone
import Derived.Maps.AppendAt
import Derived.Test.YtbkedppkdhfpoabGreatJoined6
namespace Go.Proofs.YtbkedppkdhfpoabGreat
open Go.RowKit

theorem Tryz.underlying41 : Tryz.prog.underlying 41 = some (.slice 22) := by kernel_rfl
end Go.Proofs.YtbkedppkdhfpoabGreat

namespace Go.Proofs.YtbkedppkdhfpoabGreat
open Go.RowKit

theorem cell_below {w w' : World} {b o : Nat} {v : Value} (hb : Below w.heap.size w w') (h : w.cell? ⟨b, o, none⟩ = some v) : w'.cell? ⟨b, o, none⟩ = some v := by
  rw [hb.cell (p := ⟨b, o, none⟩) (lt_of_cell h)]; exact h
end Go.Proofs.YtbkedppkdhfpoabGreat

namespace Go.Proofs.YtbkedppkdhfpoabGreat
open Go.RowKit

/-- Bindings lie one behind the other from an address on, four cells each, in blocks of which p holds. -/
def Binds (p : Nat → Prop) (w : World) : List (Int × T) → Option Addr → Prop
  | [], _ => True
  | x :: bs, a => ∃ b off a1 cap, a = some ⟨b, off, none⟩ ∧ p b ∧ w.cell? ⟨b, off, none⟩ = some (.int .i64 x.1) ∧ w.cell? ⟨b, off + 1, none⟩ = some (.int .i64 x.2.v) ∧ w.cell? ⟨b, off + 2, none⟩ = some (.int .i64 x.2.f) ∧ w.cell? ⟨b, off + 3, none⟩ = some (.slice a1 x.2.args.length cap) ∧ InP p w x.2.args a1 ∧ Binds p w bs (some ⟨b, off + 4, none⟩)
theorem Binds_some {p : Nat → Prop} {w : World} {bs : List (Int × T)} {a : Option Addr} (h : Binds p w bs a) (hp : 0 < bs.length) : ∃ b off, a = some ⟨b, off, none⟩ := by
  cases bs with
  | nil => simp at hp
  | cons x bs => obtain ⟨b, off, _, _, rfl, _⟩ := h; exact ⟨b, off, rfl⟩
theorem Binds_mono {p q : Nat → Prop} {w w' : World} (hs : ∀ b o v, p b → w.cell? ⟨b, o, none⟩ = some v → q b ∧ w'.cell? ⟨b, o, none⟩ = some v) : ∀ {bs : List (Int × T)} {a : Option Addr}, Binds p w bs a → Binds q w' bs a := by
  intro bs
  induction bs with
  | nil => intro a _; trivial
  | cons x bs ih =>
    intro a h
    obtain ⟨b, off, a1, cap, rfl, hp, h0, h1, h2, h3, hin, hr⟩ := h
    exact ⟨b, off, a1, cap, rfl, (hs _ _ _ hp h0).1, (hs _ _ _ hp h0).2, (hs _ _ _ hp h1).2, (hs _ _ _ hp h2).2, (hs _ _ _ hp h3).2, InP_mono hs _ _ _ (Nat.le_refl _) hin, ih hr⟩
theorem Binds_below {p : Nat → Prop} {w w' : World} {bs : List (Int × T)} {a : Option Addr} (hb : Below w.heap.size w w') (h : Binds p w bs a) : Binds p w' bs a :=
  Binds_mono (fun _ _ _ hp hv => ⟨hp, cell_below hb hv⟩) h
theorem Binds_imp {p q : Nat → Prop} {w : World} {bs : List (Int × T)} {a : Option Addr} (hpq : ∀ k, p k → q k) (h : Binds p w bs a) : Binds q w bs a :=
  Binds_mono (fun _ _ _ hp hv => ⟨hpq _ hp, hv⟩) h
theorem Binds_lt {p : Nat → Prop} {w : World} {bs : List (Int × T)} {a : Option Addr} (h : Binds p w bs a) : Binds (fun k => p k ∧ k < w.heap.size) w bs a :=
  Binds_mono (fun _ _ _ hp hv => ⟨⟨hp, lt_of_cell hv⟩, hv⟩) h
/-- The binding at index k: its four cells. -/
theorem Binds_at {p : Nat → Prop} {w : World} : ∀ {bs : List (Int × T)} {b off k : Nat} {x : Int × T}, Binds p w bs (some ⟨b, off, none⟩) → bs[k]? = some x →
    ∃ a cap, p b ∧ w.cell? ⟨b, off + k * 4, none⟩ = some (.int .i64 x.1) ∧ w.cell? ⟨b, off + k * 4 + 1, none⟩ = some (.int .i64 x.2.v) ∧ w.cell? ⟨b, off + k * 4 + 2, none⟩ = some (.int .i64 x.2.f) ∧ w.cell? ⟨b, off + k * 4 + 3, none⟩ = some (.slice a x.2.args.length cap) ∧ InP p w x.2.args a := by
  intro bs
  induction bs with
  | nil => intro b off k x _ h; simp at h
  | cons y bs ih =>
    intro b off k x h hk
    obtain ⟨b', off', a1, cap, hb, hp, h0, h1, h2, h3, hin, hr⟩ := h
    simp only [Option.some.injEq, Addr.mk.injEq] at hb
    obtain ⟨rfl, rfl, _⟩ := hb
    cases k with
    | zero =>
      simp at hk; subst hk
      exact ⟨a1, cap, hp, by simpa using h0, by simpa using h1, by simpa using h2, by simpa using h3, hin⟩
    | succ k =>
      simp at hk
      obtain ⟨a, c, _, g0, g1, g2, g3, gl⟩ := ih hr hk
      have e : off + (k + 1) * 4 = off + 4 + k * 4 := by omega
      exact ⟨a, c, hp, by rw [e]; exact g0, by rw [e]; exact g1, by rw [e]; exact g2, by rw [e]; exact g3, gl⟩

theorem Tryz.underlying91 : Tryz.prog.underlying 91 = some (.slice 93) := by kernel_rfl
end Go.Proofs.YtbkedppkdhfpoabGreat

namespace Go.Proofs.YtbkedppkdhfpoabGreat
open Go.RowKit

/-- Four cells a binding, and what lies behind it. -/
def KidsB (p : Nat → Prop) (w : World) : List (Int × T) → List Value → Prop
  | [], cs => cs = []
  | x :: bs, cs => ∃ a cap rest, cs = .int .i64 x.1 :: .int .i64 x.2.v :: .int .i64 x.2.f :: .slice a x.2.args.length cap :: rest ∧ InP p w x.2.args a ∧ KidsB p w bs rest
theorem KidsB_append {p : Nat → Prop} {w : World} {bs us : List (Int × T)} : ∀ {cs ds : List Value}, KidsB p w bs cs → KidsB p w us ds → KidsB p w (bs ++ us) (cs ++ ds) := by
  induction bs with
  | nil => intro cs ds h1 h2; rw [show cs = [] from h1]; exact h2
  | cons x bs ih =>
    intro cs ds h1 h2
    obtain ⟨a, cap, rest, rfl, h0, h⟩ := h1
    exact ⟨a, cap, rest ++ ds, rfl, h0, ih h h2⟩
theorem KidsB_mono {p q : Nat → Prop} {w w' : World} {bs : List (Int × T)} (hs : ∀ k, p k → k < w.heap.size → q k ∧ w'.heap[k]? = w.heap[k]?) : ∀ {cs : List Value}, KidsB p w bs cs → KidsB q w' bs cs := by
  induction bs with
  | nil => intro cs h; exact h
  | cons x bs ih =>
    intro cs h
    obtain ⟨a, cap, rest, rfl, h0, h⟩ := h
    exact ⟨a, cap, rest, rfl, InP_mono (fun b o v hp hv => ⟨(hs b hp (lt_of_cell hv)).1, by rw [World.cell?_of_block (w := w) (a := ⟨b, o, none⟩) (hs b hp (lt_of_cell hv)).2]; exact hv⟩) _ _ _ (Nat.le_refl _) h0, ih h⟩
theorem KidsB_in {p : Nat → Prop} {w : World} {g : Nat} (hpg : p g) {bs : List (Int × T)} : ∀ {off : Nat} {cs : List Value}, KidsB p w bs cs → (∀ j u, cs[j]? = some u → w.cell? ⟨g, off + j, none⟩ = some u) → Binds p w bs (some ⟨g, off, none⟩) := by
  induction bs with
  | nil => intro off cs _ _; trivial
  | cons x bs ih =>
    intro off cs h hc
    obtain ⟨a, cap, rest, rfl, h0, h⟩ := h
    refine ⟨g, off, a, cap, rfl, hpg, hc 0 _ rfl, hc 1 _ rfl, hc 2 _ rfl, hc 3 _ rfl, h0, ih h fun j u hu => ?_⟩
    rw [show off + 4 + j = off + (j + 4) from by omega]
    exact hc (j + 4) u (by simpa using hu)
/-- A list of the call's own that holds these bindings; nothing that lies behind them lies in the list's own block. -/
def OutsB (q : Nat → Prop) (base : Nat) (w : World) (l : Value) (bs : List (Int × T)) : Prop :=
  ∃ xs, w.ownsRow base 93 4 l bs.length xs ∧ KidsB (fun k => (q k ∨ base ≤ k) ∧ l.ownBlock ≠ some k) w bs xs
theorem OutsB_nil {q : Nat → Prop} {base : Nat} {w : World} : OutsB q base w (.slice none 0 0) [] := ⟨[], ⟨rfl, Or.inl ⟨rfl, rfl⟩⟩, rfl⟩
theorem OutsB_same {q : Nat → Prop} {base : Nat} {w w' : World} {l : Value} {bs : List (Int × T)} (h : OutsB q base w l bs) (hs : ∀ k, (q k ∨ base ≤ k) → k < w.heap.size → w'.heap[k]? = w.heap[k]?) : OutsB q base w' l bs := by
  obtain ⟨xs, h1, h2⟩ := h
  exact ⟨xs, own_same h1 (fun g hg => hs g (Or.inr (own_lt h1 g hg).1) (own_lt h1 g hg).2), KidsB_mono (fun k hk hlt => ⟨hk, hs k hk.1 hlt⟩) h2⟩
theorem OutsB_below {q : Nat → Prop} {base : Nat} {w w' : World} {l : Value} {bs : List (Int × T)} (h : OutsB q base w l bs) (hb : Below w.heap.size w w') : OutsB q base w' l bs := OutsB_same h (fun k _ hk => hb.block k hk)
theorem OutsB_step {q : Nat → Prop} {base : Nat} {w w' : World} {l : Value} {bs : List (Int × T)} {x : Int × T} {xs : List Value} {a : Option Addr} {cap g cap2 : Nat} (hk : KidsB (fun k => (q k ∨ base ≤ k) ∧ l.ownBlock ≠ some k) w bs xs)
    (hc : InP (fun k => (q k ∨ base ≤ k) ∧ l.ownBlock ≠ some k) w x.2.args a)
    (hown : w'.ownsRow base 93 4 (.slice (some ⟨g, 0, none⟩) (bs.length + 1) cap2) (bs.length + 1) (xs ++ [.int .i64 x.1, .int .i64 x.2.v, .int .i64 x.2.f, .slice a x.2.args.length cap])) (hg : w.grownBy w' l.ownBlock) (hat : l.ownBlock = some g ∨ g = w.heap.size) :
    OutsB q base w' (.slice (some ⟨g, 0, none⟩) (bs.length + 1) cap2) (bs ++ [x]) := by
  refine ⟨_, by rw [List.length_append]; exact hown, KidsB_mono (p := fun k => (q k ∨ base ≤ k) ∧ l.ownBlock ≠ some k) (w := w) (fun k hp hlt => ⟨⟨hp.1, ?_⟩, hg.block k hlt (fun e => hp.2 e.symm)⟩) (KidsB_append hk ⟨a, cap, [], rfl, hc, rfl⟩)⟩
  rcases hat with hat | hat
  · rw [show (Value.slice (some ⟨g, 0, none⟩) (bs.length + 1) cap2).ownBlock = some g from rfl, ← hat]; exact hp.2
  · show some g ≠ some k
    intro e; cases e; omega
theorem own_cellsN {w : World} {base n : Nat} {e : TypeId} {sz : Nat} {v : Value} {xs : List Value} (h : w.ownsRow base e sz v n xs) (hn : 0 < n) : ∃ g cap, v = .slice (some ⟨g, 0, none⟩) n cap ∧ base ≤ g ∧ g < w.heap.size ∧ ∀ j u, xs[j]? = some u → w.cell? ⟨g, j, none⟩ = some u := by
  rcases h.2 with ⟨_, h0⟩ | ⟨g, cap, cur, rfl, hb, hg, hc, hm, hs, ht⟩
  · omega
  refine ⟨g, cap, rfl, hb, ?_, fun j u hu => ?_⟩
  · rcases Nat.lt_or_ge g w.heap.size with h | h
    · exact h
    · rw [Array.getElem?_eq_none h] at hg; cases hg
  · have hj : j < xs.length := by
      rcases Nat.lt_or_ge j xs.length with h | h
      · exact h
      · rw [List.getElem?_eq_none h] at hu; cases hu
    have e1 : cur[j]? = some u := by
      have h2 : (cur.toList.take (n * sz))[j]? = some u := by rw [ht]; exact hu
      rw [List.getElem?_take_of_lt (by have := h.1; omega)] at h2
      simpa using h2
    simp [World.cell?, hg, e1]
theorem OutsB_end {q : Nat → Prop} {base : Nat} {w : World} {l : Value} {bs : List (Int × T)} (h : OutsB q base w l bs) : ∃ a cap, l = .slice a bs.length cap ∧ Binds (fun k => q k ∨ base ≤ k) w bs a := by
  obtain ⟨xs, h1, h2⟩ := h
  by_cases h0 : 0 < bs.length
  · obtain ⟨g, cap, rfl, hb, hlt, hcell⟩ := own_cellsN h1 h0
    exact ⟨_, cap, rfl, KidsB_in (Or.inr hb) (KidsB_mono (fun k hk _ => ⟨hk.1, rfl⟩) h2) (fun j u hu => by rw [Nat.zero_add]; exact hcell j u hu)⟩
  · obtain ⟨a, c, rfl⟩ := own_shape h1
    have : bs = [] := List.length_eq_zero_iff.1 (by omega)
    subst this
    exact ⟨a, c, rfl, trivial⟩

theorem Tryz.info93 : (Tryz.prog.info? 93).map (fun i => (i.zero, i.size, i.bytes)) = some (some (.agg #[.int .i64 0, .int .i64 0, .int .i64 0, .slice none 0 0]), 4, 48) := by kernel_rfl
def row4 (n : Nat) : Array Value := madeCells #[.int .i64 0, .int .i64 0, .int .i64 0, .slice none 0 0] (n * 4)
theorem run_make4 (n : Nat) (hn : n ≤ 1000000) (w : World) : (Instr.makeSlice 91 (.int .i64 0) (.int .i64 (n : Int))).run Tryz.prog w = .ok (.slice (some ⟨w.heap.size, 0, none⟩) 0 n) (w.alloc (.cells (row4 n) 93)) := by
  obtain ⟨i, hi, hzz⟩ := Option.map_eq_some_iff.1 Tryz.info93
  simp only [Prod.mk.injEq] at hzz
  obtain ⟨hz, hs, hb⟩ := hzz
  have hr := run_make (P := Tryz.prog) w 91 93 i _ Tryz.underlying91 hi hz .i64 .i64 0 n (by omega) (by omega) (by rw [hb]; omega) (by omega)
  simp only [Int.toNat_natCast, hs, Int.toNat_zero] at hr
  exact hr
theorem OutsB_made {q : Nat → Prop} {base n : Nat} {w : World} (hb : base ≤ w.heap.size) (hn : n ≤ 1000000) : OutsB q base (w.alloc (.cells (row4 n) 93)) (.slice (some ⟨w.heap.size, 0, none⟩) 0 n) [] :=
  ⟨[], ⟨rfl, Or.inr ⟨w.heap.size, n, row4 n, rfl, hb, heap_alloc_new w _, Nat.zero_le _, by unfold maxLen; omega, by rw [row4, size_madeCells], by simp⟩⟩, rfl⟩
theorem four_new {w : World} {v a b : Int} {s : Value} {e : TypeId} {n : Nat} (hn : n = w.heap.size) : ∀ (j : Nat) (u : Value), [Value.int .i64 v, .int .i64 a, .int .i64 b, s][j]? = some u →
    (w.alloc (.cells #[.int .i64 v, .int .i64 a, .int .i64 b, s] e)).cell? ((⟨n, 0, none⟩ : Addr).add j) = some u := by
  intro j u hu
  have e1 : (⟨n, 0, none⟩ : Addr).add j = ⟨n, j, none⟩ := by simp [Addr.add]; omega
  rw [e1, cell_new j hn]
  simpa using hu

end Go.Proofs.YtbkedppkdhfpoabGreat

namespace Go.Proofs.YtbkedppkdhfpoabGreat
open Go.RowKit

/-- Seven cells a literal, and its terms behind them, where p says. -/
def LitsQ (p : Nat → Prop) (w : World) : List Lit → Option Addr → Prop
  | [], _ => True
  | x :: c, a => ∃ b off a1 c1 a2 c2, a = some ⟨b, off, none⟩ ∧ p b ∧ w.cell? ⟨b, off, none⟩ = some (.bool x.1) ∧ w.cell? ⟨b, off + 1, none⟩ = some (.int .i64 x.2.1.v) ∧ w.cell? ⟨b, off + 2, none⟩ = some (.int .i64 x.2.1.f) ∧ w.cell? ⟨b, off + 3, none⟩ = some (.slice a1 x.2.1.args.length c1) ∧
      w.cell? ⟨b, off + 4, none⟩ = some (.int .i64 x.2.2.v) ∧ w.cell? ⟨b, off + 5, none⟩ = some (.int .i64 x.2.2.f) ∧ w.cell? ⟨b, off + 6, none⟩ = some (.slice a2 x.2.2.args.length c2) ∧ InP p w x.2.1.args a1 ∧ InP p w x.2.2.args a2 ∧ LitsQ p w c (some ⟨b, off + 7, none⟩)
theorem LitsQ_lits {p : Nat → Prop} {w : World} : ∀ {c : List Lit} {a : Option Addr}, LitsQ p w c a → LitsP w c a := by
  intro c
  induction c with
  | nil => intro a _; trivial
  | cons x c ih =>
    intro a h
    obtain ⟨b, off, a1, c1, a2, c2, rfl, _, h0, h1, h2, h3, h4, h5, h6, i1, i2, hr⟩ := h
    exact ⟨b, off, a1, c1, a2, c2, rfl, h0, h1, h2, h3, h4, h5, h6, InP_imp (fun _ _ => trivial) i1, InP_imp (fun _ _ => trivial) i2, ih hr⟩
theorem LitsQ_mono {p q : Nat → Prop} {w w' : World} (hs : ∀ k, p k → k < w.heap.size → q k ∧ w'.heap[k]? = w.heap[k]?) : ∀ {c : List Lit} {a : Option Addr}, LitsQ p w c a → LitsQ q w' c a := by
  intro c
  induction c with
  | nil => intro a _; trivial
  | cons x c ih =>
    intro a h
    obtain ⟨b, off, a1, c1, a2, c2, rfl, hp, h0, h1, h2, h3, h4, h5, h6, i1, i2, hr⟩ := h
    have hI : ∀ {ts : List T} {y : Option Addr}, InP p w ts y → InP q w' ts y := fun hi => InP_mono (fun b o v hp hv => ⟨(hs b hp (lt_of_cell hv)).1, by rw [World.cell?_of_block (w := w) (a := ⟨b, o, none⟩) (hs b hp (lt_of_cell hv)).2]; exact hv⟩) _ _ _ (Nat.le_refl _) hi
    have hC : ∀ {o : Nat} {v : Value}, w.cell? ⟨b, o, none⟩ = some v → w'.cell? ⟨b, o, none⟩ = some v := fun {o v} hv => by rw [World.cell?_of_block (w := w) (a := ⟨b, o, none⟩) (hs b hp (lt_of_cell hv)).2]; exact hv
    exact ⟨b, off, a1, c1, a2, c2, rfl, (hs b hp (lt_of_cell h0)).1, hC h0, hC h1, hC h2, hC h3, hC h4, hC h5, hC h6, hI i1, hI i2, ih hr⟩
theorem LitsQ_below {p : Nat → Prop} {w w' : World} (hb : Below w.heap.size w w') {c : List Lit} {a : Option Addr} (h : LitsQ p w c a) : LitsQ p w' c a := LitsQ_mono (fun k hp hk => ⟨hp, hb.block k hk⟩) h
theorem LitsQ_imp {p q : Nat → Prop} {w : World} (hpq : ∀ k, p k → q k) {c : List Lit} {a : Option Addr} (h : LitsQ p w c a) : LitsQ q w c a := LitsQ_mono (fun k hp _ => ⟨hpq k hp, rfl⟩) h
theorem LitsP_lt {w : World} : ∀ {c : List Lit} {a : Option Addr}, LitsP w c a → LitsQ (fun k => k < w.heap.size) w c a := by
  intro c
  induction c with
  | nil => intro a _; trivial
  | cons x c ih =>
    intro a h
    obtain ⟨b, off, a1, c1, a2, c2, rfl, h0, h1, h2, h3, h4, h5, h6, i1, i2, hr⟩ := h
    exact ⟨b, off, a1, c1, a2, c2, rfl, lt_of_cell h0, h0, h1, h2, h3, h4, h5, h6, InP_imp (fun _ h => h.2) (InP_lt i1), InP_imp (fun _ h => h.2) (InP_lt i2), ih hr⟩
theorem LitsQ_at {p : Nat → Prop} {w : World} : ∀ {c : List Lit} {b off k : Nat} {x : Lit}, LitsQ p w c (some ⟨b, off, none⟩) → c[k]? = some x →
    ∃ a1 c1 a2 c2, p b ∧ w.cell? ⟨b, off + k * 7, none⟩ = some (.bool x.1) ∧ w.cell? ⟨b, off + k * 7 + 1, none⟩ = some (.int .i64 x.2.1.v) ∧ w.cell? ⟨b, off + k * 7 + 2, none⟩ = some (.int .i64 x.2.1.f) ∧ w.cell? ⟨b, off + k * 7 + 3, none⟩ = some (.slice a1 x.2.1.args.length c1) ∧
      w.cell? ⟨b, off + k * 7 + 4, none⟩ = some (.int .i64 x.2.2.v) ∧ w.cell? ⟨b, off + k * 7 + 5, none⟩ = some (.int .i64 x.2.2.f) ∧ w.cell? ⟨b, off + k * 7 + 6, none⟩ = some (.slice a2 x.2.2.args.length c2) ∧ InP p w x.2.1.args a1 ∧ InP p w x.2.2.args a2 := by
  intro c
  induction c with
  | nil => intro b off k x _ h; simp at h
  | cons y c ih =>
    intro b off k x h hk
    obtain ⟨b', off', a1, c1, a2, c2, hb, hp, h0, h1, h2, h3, h4, h5, h6, i1, i2, hr⟩ := h
    simp only [Option.some.injEq, Addr.mk.injEq] at hb
    obtain ⟨rfl, rfl, _⟩ := hb
    cases k with
    | zero =>
      simp at hk; subst hk
      exact ⟨a1, c1, a2, c2, hp, by simpa using h0, by simpa using h1, by simpa using h2, by simpa using h3, by simpa using h4, by simpa using h5, by simpa using h6, i1, i2⟩
    | succ k =>
      have h9 := ih hr (by simpa using hk)
      rw [show off + (k + 1) * 7 = off + 7 + k * 7 by omega]
      exact h9

/-- The cells of literals, and what lies behind them. -/
def KidsL (p : Nat → Prop) (w : World) : List Lit → List Value → Prop
  | [], cs => cs = []
  | x :: c, cs => ∃ a1 c1 a2 c2 rest, cs = .bool x.1 :: .int .i64 x.2.1.v :: .int .i64 x.2.1.f :: .slice a1 x.2.1.args.length c1 :: .int .i64 x.2.2.v :: .int .i64 x.2.2.f :: .slice a2 x.2.2.args.length c2 :: rest ∧ InP p w x.2.1.args a1 ∧ InP p w x.2.2.args a2 ∧ KidsL p w c rest
theorem KidsL_append {p : Nat → Prop} {w : World} {c d : List Lit} : ∀ {cs ds : List Value}, KidsL p w c cs → KidsL p w d ds → KidsL p w (c ++ d) (cs ++ ds) := by
  induction c with
  | nil => intro cs ds h1 h2; rw [show cs = [] from h1]; exact h2
  | cons x c ih =>
    intro cs ds h1 h2
    obtain ⟨a1, c1, a2, c2, rest, rfl, h0, h0', h⟩ := h1
    exact ⟨a1, c1, a2, c2, rest ++ ds, rfl, h0, h0', ih h h2⟩
theorem KidsL_mono {p q : Nat → Prop} {w w' : World} {c : List Lit} (hs : ∀ k, p k → k < w.heap.size → q k ∧ w'.heap[k]? = w.heap[k]?) : ∀ {cs : List Value}, KidsL p w c cs → KidsL q w' c cs := by
  induction c with
  | nil => intro cs h; exact h
  | cons x c ih =>
    intro cs h
    obtain ⟨a1, c1, a2, c2, rest, rfl, h0, h0', h⟩ := h
    have hI : ∀ {ts : List T} {y : Option Addr}, InP p w ts y → InP q w' ts y := fun hi => InP_mono (fun b o v hp hv => ⟨(hs b hp (lt_of_cell hv)).1, by rw [World.cell?_of_block (w := w) (a := ⟨b, o, none⟩) (hs b hp (lt_of_cell hv)).2]; exact hv⟩) _ _ _ (Nat.le_refl _) hi
    exact ⟨a1, c1, a2, c2, rest, rfl, hI h0, hI h0', ih h⟩
theorem KidsL_in {p : Nat → Prop} {w : World} {g : Nat} (hpg : p g) {c : List Lit} : ∀ {off : Nat} {cs : List Value}, KidsL p w c cs → (∀ j u, cs[j]? = some u → w.cell? ⟨g, off + j, none⟩ = some u) → LitsQ p w c (some ⟨g, off, none⟩) := by
  induction c with
  | nil => intro off cs _ _; trivial
  | cons x c ih =>
    intro off cs h hc
    obtain ⟨a1, c1, a2, c2, rest, rfl, h0, h0', h⟩ := h
    refine ⟨g, off, a1, c1, a2, c2, rfl, hpg, hc 0 _ rfl, hc 1 _ rfl, hc 2 _ rfl, hc 3 _ rfl, hc 4 _ rfl, hc 5 _ rfl, hc 6 _ rfl, h0, h0', ih h fun j u hu => ?_⟩
    rw [show off + 7 + j = off + (j + 7) from by omega]
    exact hc (j + 7) u (by simpa using hu)
/-- A list of the call's own that holds these literals; nothing that lies behind them lies in the list's own block. -/
def OutsL (q : Nat → Prop) (base : Nat) (w : World) (l : Value) (c : List Lit) : Prop :=
  ∃ xs, w.ownsRow base 79 7 l c.length xs ∧ KidsL (fun k => (q k ∨ base ≤ k) ∧ l.ownBlock ≠ some k) w c xs
theorem OutsL_nil {q : Nat → Prop} {base : Nat} {w : World} : OutsL q base w (.slice none 0 0) [] := ⟨[], ⟨rfl, Or.inl ⟨rfl, rfl⟩⟩, rfl⟩
theorem OutsL_same {q : Nat → Prop} {base : Nat} {w w' : World} {l : Value} {c : List Lit} (h : OutsL q base w l c) (hs : ∀ k, (q k ∨ base ≤ k) → k < w.heap.size → w'.heap[k]? = w.heap[k]?) : OutsL q base w' l c := by
  obtain ⟨xs, h1, h2⟩ := h
  exact ⟨xs, own_same h1 (fun g hg => hs g (Or.inr (own_lt h1 g hg).1) (own_lt h1 g hg).2), KidsL_mono (fun k hk hlt => ⟨hk, hs k hk.1 hlt⟩) h2⟩
theorem OutsL_below {q : Nat → Prop} {base : Nat} {w w' : World} {l : Value} {c : List Lit} (h : OutsL q base w l c) (hb : Below w.heap.size w w') : OutsL q base w' l c := OutsL_same h (fun k _ hk => hb.block k hk)
theorem OutsL_step {q : Nat → Prop} {base : Nat} {w w' : World} {l : Value} {c : List Lit} {x : Lit} {xs : List Value} {a1 : Option Addr} {c1 : Nat} {a2 : Option Addr} {c2 g cap2 : Nat} (hk : KidsL (fun k => (q k ∨ base ≤ k) ∧ l.ownBlock ≠ some k) w c xs)
    (hc : InP (fun k => (q k ∨ base ≤ k) ∧ l.ownBlock ≠ some k) w x.2.1.args a1) (hc2 : InP (fun k => (q k ∨ base ≤ k) ∧ l.ownBlock ≠ some k) w x.2.2.args a2)
    (hown : w'.ownsRow base 79 7 (.slice (some ⟨g, 0, none⟩) (c.length + 1) cap2) (c.length + 1) (xs ++ [.bool x.1, .int .i64 x.2.1.v, .int .i64 x.2.1.f, .slice a1 x.2.1.args.length c1, .int .i64 x.2.2.v, .int .i64 x.2.2.f, .slice a2 x.2.2.args.length c2])) (hg : w.grownBy w' l.ownBlock) (hat : l.ownBlock = some g ∨ g = w.heap.size) :
    OutsL q base w' (.slice (some ⟨g, 0, none⟩) (c.length + 1) cap2) (c ++ [x]) := by
  refine ⟨_, by rw [List.length_append]; exact hown, KidsL_mono (p := fun k => (q k ∨ base ≤ k) ∧ l.ownBlock ≠ some k) (w := w) (fun k hp hlt => ⟨⟨hp.1, ?_⟩, hg.block k hlt (fun e => hp.2 e.symm)⟩) (KidsL_append hk ⟨a1, c1, a2, c2, [], rfl, hc, hc2, rfl⟩)⟩
  rcases hat with hat | hat
  · rw [show (Value.slice (some ⟨g, 0, none⟩) (c.length + 1) cap2).ownBlock = some g from rfl, ← hat]; exact hp.2
  · show some g ≠ some k
    intro e; cases e; omega
theorem OutsL_end {q : Nat → Prop} {base : Nat} {w : World} {l : Value} {c : List Lit} (h : OutsL q base w l c) : ∃ a cap, l = .slice a c.length cap ∧ LitsQ (fun k => q k ∨ base ≤ k) w c a := by
  obtain ⟨xs, h1, h2⟩ := h
  by_cases h0 : 0 < c.length
  · obtain ⟨g, cap, rfl, hb, hlt, hcell⟩ := own_cellsN h1 h0
    exact ⟨_, cap, rfl, KidsL_in (Or.inr hb) (KidsL_mono (fun k hk _ => ⟨hk.1, rfl⟩) h2) (fun j u hu => by rw [Nat.zero_add]; exact hcell j u hu)⟩
  · obtain ⟨a, c', rfl⟩ := own_shape h1
    have : c = [] := List.length_eq_zero_iff.1 (by omega)
    subst this
    exact ⟨a, c', rfl, trivial⟩

theorem Tryz.info79 : (Tryz.prog.info? 79).map (fun i => (i.zero, i.size, i.bytes)) = some (some (.agg #[.bool false, .int .i64 0, .int .i64 0, .slice none 0 0, .int .i64 0, .int .i64 0, .slice none 0 0]), 7, 88) := by kernel_rfl
/-- What is appended: nothing, or the cells that lie at an address. -/
def SrcL (w : World) (x : Value) (m : Nat) (news : List Value) : Prop :=
  (x = .slice none 0 0 ∧ m = 0 ∧ news = []) ∨ ∃ b off c, x = .slice (some ⟨b, off, none⟩) m c ∧ news.length = m * 7 ∧ (∀ j u, news[j]? = some u → w.cell? ⟨b, off + j, none⟩ = some u) ∧ ∀ u, u ∈ news → u.oneCell' = true
theorem run_append_l {w : World} {base n m : Nat} {v x : Value} {xs news : List Value} (ty : TypeId) (hown : w.ownsRow base 79 7 v n xs) (hx : SrcL w x m news) (hl : n + m ≤ 200000) (hbase : base ≤ w.heap.size) :
    ∃ v' w', (Builtin.append_ #[26, 26] ty #[v, x]).run Tryz.prog w = .ok v' w' ∧ w'.ownsRow base 79 7 v' (n + m) (xs ++ news) ∧ w.grownBy w' v.ownBlock ∧ (v'.ownBlock = v.ownBlock ∨ v'.ownBlock = some w.heap.size) := by
  obtain ⟨i, hi, hzz⟩ := Option.map_eq_some_iff.1 Tryz.info79
  simp only [Prod.mk.injEq] at hzz
  obtain ⟨hz0, hz1, hz2⟩ := hzz
  rcases hx with ⟨rfl, rfl, rfl⟩ | ⟨b, off, c, rfl, hl2, hc, h1⟩
  · rw [List.append_nil]
    exact ⟨v, w, run_append_owned_none (P := Tryz.prog) w base 26 ty 79 i 7 Go.Proofs.Tryz.underlying26 hi _ _ _ hown, hown, ⟨rfl, rfl, rfl, Nat.le_refl _, fun _ _ _ => rfl⟩, Or.inl rfl⟩
  · obtain ⟨v', w', hr, h2, h3, _, h5⟩ := run_append_own_at (P := Tryz.prog) w base 26 ty 79 i (.agg #[.bool false, .int .i64 0, .int .i64 0, .slice none 0 0, .int .i64 0, .int .i64 0, .slice none 0 0]) 7 88 Go.Proofs.Tryz.underlying26 hi hz0 hz1 hz2 rfl (by decide) v n xs hown ⟨b, off, none⟩ m c news hl2 (fun j u hu => by
        have e : (⟨b, off, none⟩ : Addr).add j = ⟨b, off + j, none⟩ := by simp [Addr.add]
        rw [e]; exact hc j u hu) h1 (by unfold maxLen; omega) (by omega) hbase
    exact ⟨v', w', hr, h2, h3, h5⟩
theorem wp_append_l {w : World} {o : Oper} {a : Act} {K : Act → World → Prop} {Q : Exit → Act → World → Prop} (s x : Operand) (ho : o.op = .call { callee := .builtin .append, args := #[s, x], argTypes := #[26, 26] })
    (base n m : Nat) (v : Value) (xs news : List Value) (hs : a.eval s = v) (hown : w.ownsRow base 79 7 v n xs) (xv : Value) (hx : a.eval x = xv) (hsrc : SrcL w xv m news) (hl : n + m ≤ 200000) (hbase : base ≤ w.heap.size)
    (h : ∀ v' w', w'.ownsRow base 79 7 v' (n + m) (xs ++ news) → w.grownBy w' v.ownBlock → (v'.ownBlock = v.ownBlock ∨ v'.ownBlock = some w.heap.size) → K (a.put o.dst v') w') : o.wp Tryz.prog a w K Q := by
  obtain ⟨v', w', hr, h2, h3, h4⟩ := run_append_l o.type hown hsrc hl hbase
  unfold Oper.wp execOp
  simp only [ho, resolve, invoke, builtin, Sem.run_bind, Sem.run_pure, Result.andThen_ok, List.map_toArray, List.map_cons, List.map_nil, hs, hx, hr]
  exact h v' w' h2 h3 h4
theorem wpList_append_l {w : World} {ops : Array Oper} {rest : List Oper} {o : Oper} {a : Act} {Q : Exit → Act → World → Prop} (hgd : o.guard = none) (s x : Operand) (ho : o.op = .call { callee := .builtin .append, args := #[s, x], argTypes := #[26, 26] })
    (base n m : Nat) (v : Value) (xs news : List Value) (hs : a.eval s = v) (hown : w.ownsRow base 79 7 v n xs) (xv : Value) (hx : a.eval x = xv) (hsrc : SrcL w xv m news) (hl : n + m ≤ 200000) (hbase : base ≤ w.heap.size)
    (h : ∀ v' w', w'.ownsRow base 79 7 v' (n + m) (xs ++ news) → w.grownBy w' v.ownBlock → (v'.ownBlock = v.ownBlock ∨ v'.ownBlock = some w.heap.size) → wpList Tryz.prog ops Q rest (a.put o.dst v') w') : wpList Tryz.prog ops Q (o :: rest) a w :=
  wpList_plain hgd fun _ hK => wp_append_l s x ho base n m v xs news hs hown xv hx hsrc hl hbase fun v' w' h2 h3 h4 => hK _ _ (h v' w' h2 h3 h4)
theorem step_append_l {w : World} {ops : Array Oper} {o : Oper} {a : Act} {K : Act → World → Prop} {Q : Exit → Act → World → Prop} {E : Prop} (hgd : o.guard = none) (s x : Operand) (ho : o.op = .call { callee := .builtin .append, args := #[s, x], argTypes := #[26, 26] })
    (base n m : Nat) (v : Value) (xs news : List Value) (hs : a.eval s = v) (hown : w.ownsRow base 79 7 v n xs) (xv : Value) (hx : a.eval x = xv) (hsrc : SrcL w xv m news) (hl : n + m ≤ 200000) (hbase : base ≤ w.heap.size)
    (h : ∀ v' w', w'.ownsRow base 79 7 v' (n + m) (xs ++ news) → w.grownBy w' v.ownBlock → (v'.ownBlock = v.ownBlock ∨ v'.ownBlock = some w.heap.size) → K (a.put o.dst v') w') :
    if Region.wanted o (yielded ops a.tmps) = true then Oper.wp Tryz.prog o a w K Q else E := by
  have hw : Region.wanted o (yielded ops a.tmps) = true := by simp [Region.wanted, hgd]
  rw [if_pos hw]
  exact wp_append_l s x ho base n m v xs news hs hown xv hx hsrc hl hbase h
theorem seven_new {w : World} {v0 v1 v2 v3 v4 v5 v6 : Value} {e : TypeId} {n : Nat} (hn : n = w.heap.size) : ∀ (j : Nat) (u : Value), [v0, v1, v2, v3, v4, v5, v6][j]? = some u →
    (w.alloc (.cells #[v0, v1, v2, v3, v4, v5, v6] e)).cell? ⟨n, 0 + j, none⟩ = some u := by
  intro j u hu
  rw [Nat.zero_add, cell_new j hn]
  simpa using hu
end Go.Proofs.YtbkedppkdhfpoabGreat

namespace Go.Proofs.YtbkedppkdhfpoabGreat
open Go.RowKit

/-- Have two literals the same sides, turned or not? -/
def sameS (k l : Lit) : Bool := sameT k.2.1 l.2.1 && sameT k.2.2 l.2.2 || sameT k.2.1 l.2.2 && sameT k.2.2 l.2.1
/-- Is a literal another one? -/
def sameLit (k l : Lit) : Bool := k.1 == l.1 && sameS k l
/-- Seven cells of a literal. -/
structure L7 (w : World) (b o : Nat) (x : Lit) (a1 : Option Addr) (c1 : Nat) (a2 : Option Addr) (c2 : Nat) : Prop where
  e0 : w.cell? ⟨b, o, none⟩ = some (.bool x.1)
  e1 : w.cell? ⟨b, o + 1, none⟩ = some (.int .i64 x.2.1.v)
  e2 : w.cell? ⟨b, o + 2, none⟩ = some (.int .i64 x.2.1.f)
  e3 : w.cell? ⟨b, o + 3, none⟩ = some (.slice a1 x.2.1.args.length c1)
  e4 : w.cell? ⟨b, o + 4, none⟩ = some (.int .i64 x.2.2.v)
  e5 : w.cell? ⟨b, o + 5, none⟩ = some (.int .i64 x.2.2.f)
  e6 : w.cell? ⟨b, o + 6, none⟩ = some (.slice a2 x.2.2.args.length c2)
theorem L7.below {w w' : World} {b o : Nat} {x : Lit} {a1 : Option Addr} {c1 : Nat} {a2 : Option Addr} {c2 : Nat} (h : L7 w b o x a1 c1 a2 c2) (hb : Below w.heap.size w w') : L7 w' b o x a1 c1 a2 c2 :=
  ⟨cellB hb h.e0, cellB hb h.e1, cellB hb h.e2, cellB hb h.e3, cellB hb h.e4, cellB hb h.e5, cellB hb h.e6⟩
theorem L7.new {w : World} {x : Lit} {a1 : Option Addr} {c1 : Nat} {a2 : Option Addr} {c2 n : Nat} (e : TypeId) (hn : n = w.heap.size) : L7 (w.alloc (.cells #[.bool x.1, .int .i64 x.2.1.v, .int .i64 x.2.1.f, .slice a1 x.2.1.args.length c1, .int .i64 x.2.2.v, .int .i64 x.2.2.f, .slice a2 x.2.2.args.length c2] e)) n 0 x a1 c1 a2 c2 :=
  ⟨cell_new 0 hn, cell_new 1 hn, cell_new 2 hn, cell_new 3 hn, cell_new 4 hn, cell_new 5 hn, cell_new 6 hn⟩
abbrev litV (x : Lit) (a1 : Option Addr) (c1 : Nat) (a2 : Option Addr) (c2 : Nat) : Value := .agg #[.bool x.1, .int .i64 x.2.1.v, .int .i64 x.2.1.f, .slice a1 x.2.1.args.length c1, .int .i64 x.2.2.v, .int .i64 x.2.2.f, .slice a2 x.2.2.args.length c2]
/-- Its terms are not too great. -/
def LitSz (x : Lit) : Prop := x.2.1.sz ≤ 1000 ∧ x.2.2.sz ≤ 1000

theorem any_litS {p : Lit → Bool} {c : List Lit} {k : Nat} {x : Lit} (hx : c[k]? = some x) (h : (c.take k).any p = false) : (p x = false → (c.take (k + 1)).any p = false) ∧ (p x = true → c.any p = true) := by
  have hlt := (List.getElem?_eq_some_iff.1 hx).1
  constructor
  · intro h1
    rw [List.take_add_one, hx, List.any_append, h]
    simpa using h1
  · intro h1
    rw [List.any_eq_true]
    exact ⟨x, List.mem_of_getElem? hx, h1⟩

attribute [local go_sem ↓] Go.wp_at_zero Go.wp_at_succ
set_option maxRecDepth 100000 in
set_option maxHeartbeats 1000000 in
theorem sameSides_any (k l : Lit) (a1 : Option Addr) (c1 : Nat) (a2 : Option Addr) (c2 : Nat) (b1 : Option Addr) (d1 : Nat) (b2 : Option Addr) (d2 : Nat) (w : World) (hk : LitSz k) (i1 : InL w k.2.1.args a1) (i2 : InL w k.2.2.args a2) (j1 : InL w l.2.1.args b1) (j2 : InL w l.2.2.args b2) :
    Calls Tryz.prog 105 #[litV k a1 c1 a2 c2, litV l b1 d1 b2 d2] w fun e w' => e = .returned (.bool (sameS k l)) ∧ Below w.heap.size w w' := by
  obtain ⟨W1, hW1⟩ : ∃ W1, W1 = (w.alloc (.cells #[.bool k.1, .int .i64 k.2.1.v, .int .i64 k.2.1.f, .slice a1 k.2.1.args.length c1, .int .i64 k.2.2.v, .int .i64 k.2.2.f, .slice a2 k.2.2.args.length c2] 79)).alloc (.cells #[.bool l.1, .int .i64 l.2.1.v, .int .i64 l.2.1.f, .slice b1 l.2.1.args.length d1, .int .i64 l.2.2.v, .int .i64 l.2.2.f, .slice b2 l.2.2.args.length d2] 79) := ⟨_, rfl⟩
  have hbW : Below w.heap.size w W1 := by rw [hW1]; exact below2 _ _ _
  have hzW : W1.heap.size = w.heap.size + 2 := by rw [hW1]; simp
  have hk7 : L7 W1 w.heap.size 0 k a1 c1 a2 c2 := by rw [hW1]; exact (L7.new _ rfl).below (below1 _ _)
  have hl7 : L7 W1 (w.heap.size + 1) 0 l b1 d1 b2 d2 := by rw [hW1]; exact L7.new _ (by simp)
  have hBx := hide (fun (w' : World) (hb : Below W1.heap.size W1 w') => And.intro (hk7.below hb) (hl7.below hb))
  have HS := hide (fun (w' : World) (hb : Below W1.heap.size W1 w') => (show Calls Tryz.prog _ _ w' _ ∧ Calls Tryz.prog _ _ w' _ ∧ Calls Tryz.prog _ _ w' _ ∧ Calls Tryz.prog _ _ w' _ from
    have hh := hbW.trans (hb.mono (by omega))
    ⟨treeSame_any k.2.1.sz k.2.1 l.2.1 a1 c1 b1 d1 w' (Nat.le_refl _) hk.1 (InP_below hh i1) (InP_below hh j1), treeSame_any k.2.2.sz k.2.2 l.2.2 a2 c2 b2 d2 w' (Nat.le_refl _) hk.2 (InP_below hh i2) (InP_below hh j2),
      treeSame_any k.2.1.sz k.2.1 l.2.2 a1 c1 b2 d2 w' (Nat.le_refl _) hk.1 (InP_below hh i1) (InP_below hh j2), treeSame_any k.2.2.sz k.2.2 l.2.1 a2 c2 b1 d1 w' (Nat.le_refl _) hk.2 (InP_below hh i2) (InP_below hh j1)⟩))
  have HF := hide (fun (w' : World) (hb : Below W1.heap.size W1 w') => hbW.trans (hb.mono (by omega)))
  obtain ⟨A, hA⟩ : ∃ A, A = sameT k.2.1 l.2.1 := ⟨_, rfl⟩
  obtain ⟨B, hB⟩ : ∃ B, B = sameT k.2.2 l.2.2 := ⟨_, rfl⟩
  obtain ⟨C, hC⟩ : ∃ C, C = sameT k.2.1 l.2.2 := ⟨_, rfl⟩
  obtain ⟨D, hD⟩ : ∃ D, D = sameT k.2.2 l.2.1 := ⟨_, rfl⟩
  have hZ : sameS k l = (A && B || C && D) := by rw [sameS, ← hA, ← hB, ← hC, ← hD]
  rw [← hA, ← hB, ← hC, ← hD] at HS
  rw [hZ]
  have HW1 := hide hW1
  have HR := hide (Below.refl W1.heap.size W1)
  obtain ⟨⟨p0, p1, p2, p3, p4, p5, p6⟩, ⟨q0, q1, q2, q3, q4, q5, q6⟩⟩ := hBx.out W1 HR.out
  have HSR := hide (HS.out W1 HR.out)
  clear hbW hzW hk7 hl7 hW1 hA hB hC hD hZ hk i1 i2 j1 j2
  go_enter Tryz.func105, Tryz.ntmps105
  go_wp2_with fail
  rw [← HW1.out]
  refine HSR.out.1.mono ?_
  rintro e w1 ⟨rfl, hb1⟩
  have Hb1 := hide hb1
  clear hb1 HW1 p0 p1 p2 p3 p4 p5 p6 q0 q1 q2 q3 q4 q5 q6 HSR HR
  obtain ⟨⟨p0, p1, p2, p3, p4, p5, p6⟩, ⟨q0, q1, q2, q3, q4, q5, q6⟩⟩ := hBx.out w1 Hb1.out
  have HS1 := hide (HS.out w1 Hb1.out)
  cases A with
  | true =>
    go_wp2_with fail
    refine HS1.out.2.1.mono ?_
    rintro e w2 ⟨rfl, hb2⟩
    have Hb2 := hide (Hb1.out.trans (hb2.mono Hb1.out.size))
    clear hb2 HS1 p0 p1 p2 p3 p4 p5 p6 q0 q1 q2 q3 q4 q5 q6
    obtain ⟨⟨p0, p1, p2, p3, p4, p5, p6⟩, ⟨q0, q1, q2, q3, q4, q5, q6⟩⟩ := hBx.out w2 Hb2.out
    have HS2 := hide (HS.out w2 Hb2.out)
    cases B with
    | true =>
      have Hf := hide (HF.out _ Hb2.out)
      go_wp2_with fail
      go_ret
      exact ⟨rfl, Hf.out⟩
    | false =>
      go_wp2_with fail
      refine HS2.out.2.2.1.mono ?_
      rintro e w8 ⟨rfl, hb8⟩
      have Hb8 := hide (Hb2.out.trans (hb8.mono Hb2.out.size))
      clear hb8 HS2 p0 p1 p2 p3 p4 p5 p6 q0 q1 q2 q3 q4 q5 q6
      obtain ⟨⟨p0, p1, p2, p3, p4, p5, p6⟩, ⟨q0, q1, q2, q3, q4, q5, q6⟩⟩ := hBx.out w8 Hb8.out
      have HS8 := hide (HS.out w8 Hb8.out)
      cases C with
      | false =>
        have Hf := hide (HF.out _ Hb8.out)
        go_wp2_with fail
        go_ret
        exact ⟨rfl, Hf.out⟩
      | true =>
        go_wp2_with fail
        refine HS8.out.2.2.2.mono ?_
        rintro e w9 ⟨rfl, hb9⟩
        have Hf := hide (HF.out _ (Hb8.out.trans (hb9.mono Hb8.out.size)))
        clear hb9 HS8
        go_wp2_with fail
        go_ret
        exact ⟨by simp, Hf.out⟩
  | false =>
    go_wp2_with fail
    refine HS1.out.2.2.1.mono ?_
    rintro e w8 ⟨rfl, hb8⟩
    have Hb8 := hide (Hb1.out.trans (hb8.mono Hb1.out.size))
    clear hb8 HS1 p0 p1 p2 p3 p4 p5 p6 q0 q1 q2 q3 q4 q5 q6
    obtain ⟨⟨p0, p1, p2, p3, p4, p5, p6⟩, ⟨q0, q1, q2, q3, q4, q5, q6⟩⟩ := hBx.out w8 Hb8.out
    have HS8 := hide (HS.out w8 Hb8.out)
    cases C with
    | false =>
      have Hf := hide (HF.out _ Hb8.out)
      go_wp2_with fail
      go_ret
      exact ⟨rfl, Hf.out⟩
    | true =>
      go_wp2_with fail
      refine HS8.out.2.2.2.mono ?_
      rintro e w9 ⟨rfl, hb9⟩
      have Hf := hide (HF.out _ (Hb8.out.trans (hb9.mono Hb8.out.size)))
      clear hb9 HS8
      go_wp2_with fail
      go_ret
      exact ⟨by simp, Hf.out⟩

set_option maxRecDepth 100000 in
set_option maxHeartbeats 400000 in
/-- The first of a list of which a function says yes. -/
theorem indexF_any {F : Nat} {P : Value} {p : Lit → Bool} (c : List Lit) (ca : Option Addr) (cc : Nat) (w : World) (hl : c.length ≤ 100000) (heg : ∀ (args : Array Value) (w : World), (callFunc F args).run Tryz.prog w = .ok (.enter F args) w)
    (hF : ∀ (w' : World) (x : Lit) (a1 : Option Addr) (c1 : Nat) (a2 : Option Addr) (c2 : Nat), Below w.heap.size w w' → x ∈ c → InL w' x.2.1.args a1 → InL w' x.2.2.args a2 → Calls Tryz.prog F #[litV x a1 c1 a2 c2, P] w' fun e w'' => e = .returned (.bool (p x)) ∧ Below w'.heap.size w' w'') (hc : LitsP w c ca) :
    Calls Tryz.prog 106 #[.slice ca c.length cc, .func (.func F) #[] #[P]] w fun e w' => (∃ i : Int, e = .returned (.int .i64 i) ∧ decide (0 ≤ i) = c.any p) ∧ Below w.heap.size w w' := by
  have Hc := hide hc
  have HFF := hide hF
  clear hc hF
  go_enter Tryz.func106, Tryz.ntmps106
  go_wp2_with fail
  go_loopw [8] (fun i wr => ∃ k : Nat, k ≤ c.length ∧ i = .int .i64 k ∧ Hid ((c.take k).any p = false) ∧ Hid (Below w.heap.size w wr)) (fun i _ => c.length - (intOf i).toNat)
  case atStart => exact ⟨0, Nat.zero_le _, rfl, rfl, Below.refl _ _⟩
  case round =>
    obtain ⟨k, hk, rfl, Hk, Hbr⟩ := hrel
    by_cases hlt : k < c.length
    · obtain ⟨cb, coff, rfl⟩ := LitsP_some Hc.out (by omega)
      obtain ⟨x, hx⟩ : ∃ x, c[k]? = some x := ⟨c[k], List.getElem?_eq_getElem hlt⟩
      obtain ⟨a1, c1, a2, c2, k0, k1, k2, k3, k4, k5, k6, hi1, hi2⟩ := LitsP_at (LitsP_below Hbr.out Hc.out) hx
      have Hst := hide (any_litS (p := p) hx Hk.out)
      have HC := hide (HFF.out wr x a1 c1 a2 c2 Hbr.out (List.mem_of_getElem? hx) hi1 hi2)
      have hI : (k : Int) < c.length := by omega
      have hk0 : (0 : Int) ≤ k := by omega
      clear hx hi1 hi2 Hk
      go_wp2_with fail
      refine HC.out.mono ?_
      rintro e w' ⟨rfl, hb'⟩
      have Hb' := hide (Hbr.out.trans (hb'.mono Hbr.out.size))
      clear hb' HC k0 k1 k2 k3 k4 k5 k6
      cases hd : p x with
      | false =>
        have Hn := hide (Hst.out.1 hd)
        clear Hst hd
        go_wp2_with fail
        go_roundw
        case rel => exact ⟨k + 1, by omega, by go_num, Hn, Hb'⟩
        case measure => simp [intOf]; omega
      | true =>
        have Hn := hide (Hst.out.2 hd)
        clear Hst hd
        go_wp2_with fail
        go_ret
        exact ⟨⟨k, rfl, by rw [Hn.out]; simp⟩, Hb'.out⟩
    · have hk2 : k = c.length := by omega
      subst hk2
      rw [List.take_length] at Hk
      go_wp2_with fail
      go_ret
      exact ⟨⟨-1, rfl, by rw [Hk.out]; rfl⟩, Hbr.out⟩
set_option maxRecDepth 100000 in
set_option maxHeartbeats 400000 in
theorem containsF_any {F : Nat} {P : Value} {p : Lit → Bool} (c : List Lit) (ca : Option Addr) (cc : Nat) (w : World) (hl : c.length ≤ 100000) (heg : ∀ (args : Array Value) (w : World), (callFunc F args).run Tryz.prog w = .ok (.enter F args) w)
    (hF : ∀ (w' : World) (x : Lit) (a1 : Option Addr) (c1 : Nat) (a2 : Option Addr) (c2 : Nat), Below w.heap.size w w' → x ∈ c → InL w' x.2.1.args a1 → InL w' x.2.2.args a2 → Calls Tryz.prog F #[litV x a1 c1 a2 c2, P] w' fun e w'' => e = .returned (.bool (p x)) ∧ Below w'.heap.size w' w'') (hc : LitsP w c ca) :
    Calls Tryz.prog 44 #[.slice ca c.length cc, .func (.func F) #[] #[P]] w fun e w' => e = .returned (.bool (c.any p)) ∧ Below w.heap.size w w' := by
  have HX := hide (indexF_any c ca cc w hl heg hF hc)
  clear hF hc heg
  go_enter Tryz.func44, Tryz.ntmps44
  go_wp2_with fail
  refine HX.out.mono ?_
  rintro e w' ⟨⟨i, rfl, hi⟩, hb'⟩
  have Hi := hide hi
  have Hb := hide hb'
  clear hi hb'
  go_wp2_with fail
  go_ret
  exact ⟨ret_bool Hi.out, Hb.out⟩

theorem eg104 (args : Array Value) (w : World) : (callFunc 104 args).run Tryz.prog w = .ok (.enter 104 args) w := by kernel_rfl
set_option maxRecDepth 100000 in
set_option maxHeartbeats 1000000 in
theorem neededC_any (k l : Lit) (a1 : Option Addr) (c1 : Nat) (a2 : Option Addr) (c2 : Nat) (b1 : Option Addr) (d1 : Nat) (b2 : Option Addr) (d2 bl : Nat) (w : World) (hk : LitSz k) (i1 : InL w k.2.1.args a1) (i2 : InL w k.2.2.args a2) (hl7 : L7 w bl 0 l b1 d1 b2 d2) (j1 : InL w l.2.1.args b1) (j2 : InL w l.2.2.args b2) :
    Calls Tryz.prog 104 #[litV k a1 c1 a2 c2, .pointer (some ⟨bl, 0, none⟩)] w fun e w' => e = .returned (.bool (sameLit k l)) ∧ Below w.heap.size w w' := by
  obtain ⟨W1, hW1⟩ : ∃ W1, W1 = w.alloc (.cells #[.bool k.1, .int .i64 k.2.1.v, .int .i64 k.2.1.f, .slice a1 k.2.1.args.length c1, .int .i64 k.2.2.v, .int .i64 k.2.2.f, .slice a2 k.2.2.args.length c2] 79) := ⟨_, rfl⟩
  have hbW : Below w.heap.size w W1 := by rw [hW1]; exact below1 _ _
  have hk7 : L7 W1 w.heap.size 0 k a1 c1 a2 c2 := by rw [hW1]; exact L7.new _ rfl
  have hl7' := hl7.below hbW
  have HS := hide (sameSides_any k l a1 c1 a2 c2 b1 d1 b2 d2 W1 hk (InP_below hbW i1) (InP_below hbW i2) (InP_below hbW j1) (InP_below hbW j2))
  have HW1 := hide hW1
  have HbW := hide hbW
  obtain ⟨p0, p1, p2, p3, p4, p5, p6⟩ := hk7
  obtain ⟨q0, q1, q2, q3, q4, q5, q6⟩ := hl7'
  obtain ⟨Z, hZ⟩ : ∃ Z, Z = sameS k l := ⟨_, rfl⟩
  have hS : sameLit k l = (k.1 == l.1 && Z) := by rw [sameLit, ← hZ]
  rw [hS]
  rw [← hZ] at HS
  have hld := hl7.e0
  have hlx := lt_of_cell hld
  rw [hW1] at p0 p1 p2 p3 p4 p5 p6 q0 q1 q2 q3 q4 q5 q6
  clear hW1 hbW hl7 hS hZ hk i1 i2 j1 j2 hld
  go_enter Tryz.func104, Tryz.ntmps104
  cases e1 : (k.1 == l.1) with
  | true =>
    go_wp2_with fail
    rw [← HW1.out]
    refine HS.out.mono ?_
    rintro e w1 ⟨rfl, hb1⟩
    have Hf := hide (HbW.out.trans (hb1.mono HbW.out.size))
    clear hb1 HS
    go_wp2_with fail
    go_ret
    exact ⟨by simp, Hf.out⟩
  | false =>
    go_wp2_with fail
    go_ret
    rw [← HW1.out]
    exact ⟨by simp, HbW.out⟩

theorem seven_add {w : World} {v0 v1 v2 v3 v4 v5 v6 : Value} {e : TypeId} {n : Nat} (hn : n = w.heap.size) : ∀ (j : Nat) (u : Value), [v0, v1, v2, v3, v4, v5, v6][j]? = some u →
    (w.alloc (.cells #[v0, v1, v2, v3, v4, v5, v6] e)).cell? ((⟨n, 0, none⟩ : Addr).add j) = some u := by
  intro j u hu
  have e1 : (⟨n, 0, none⟩ : Addr).add j = ⟨n, j, none⟩ := by simp [Addr.add]; omega
  rw [e1, cell_new j hn]
  simpa using hu
/-- Is a literal kept behind others? -/
def keepL (acc : List Lit) (l : Lit) : Bool := !(acc.any (fun k => sameLit k l)) && (l.1 || !sameT l.2.1 l.2.2)
def needS : List Lit → List Lit → List Lit
  | acc, [] => acc
  | acc, l :: r => needS (if keepL acc l then acc ++ [l] else acc) r
theorem needS_step {acc c : List Lit} {k : Nat} {x : Lit} (hx : c[k]? = some x) : needS acc (c.drop k) = needS (if keepL acc x then acc ++ [x] else acc) (c.drop (k + 1)) := by
  have hlt := (List.getElem?_eq_some_iff.1 hx).1
  rw [List.drop_eq_getElem_cons hlt]
  have := (List.getElem?_eq_some_iff.1 hx).2
  rw [this, needS]
theorem need_mem : ∀ {c acc : List Lit} {x : Lit}, x ∈ needS acc c → x ∈ acc ∨ x ∈ c := by
  intro c
  induction c with
  | nil => intro acc x h; exact Or.inl h
  | cons l r ih =>
    intro acc x h
    rcases ih h with h1 | h1
    · split at h1
      · rcases List.mem_append.1 h1 with h2 | h2
        · exact Or.inl h2
        · simp at h2; subst h2; exact Or.inr List.mem_cons_self
      · exact Or.inl h1
    · exact Or.inr (List.mem_cons_of_mem _ h1)
theorem need_len : ∀ {c acc : List Lit}, (needS acc c).length ≤ acc.length + c.length := by
  intro c
  induction c with
  | nil => intro acc; exact Nat.le_refl _
  | cons l r ih =>
    intro acc
    have := ih (acc := if keepL acc l then acc ++ [l] else acc)
    rw [needS, List.length_cons]
    split at this
    · rename_i h; rw [if_pos h]; rw [List.length_append, List.length_singleton] at this; omega
    · rename_i h; rw [if_neg h]; omega

set_option maxRecDepth 100000 in
set_option maxHeartbeats 2000000 in
theorem needed_any (c : List Lit) (ca : Option Addr) (cc : Nat) (w : World) (hl : c.length ≤ 1000) (hsz : ∀ x, x ∈ c → LitSz x) (hc : LitsP w c ca) :
    Calls Tryz.prog 43 #[.slice ca c.length cc] w fun e w' => ∃ a cap, e = .returned (.slice a (needS [] c).length cap) ∧ LitsQ (fun _ => True) w' (needS [] c) a ∧ Below w.heap.size w w' := by
  obtain ⟨ti, hi, hzz⟩ := Option.map_eq_some_iff.1 Tryz.info79
  simp only [Prod.mk.injEq] at hzz
  obtain ⟨hz0, hz1, hz2⟩ := hzz
  have Hc := hide hc
  have Hsz := hide hsz
  clear hc hsz
  go_enter Tryz.func43, Tryz.ntmps43
  go_wp2_with fail
  go_loopw [3, 9] (fun l i wr => ∃ (k : Nat) (acc : List Lit), k ≤ c.length ∧ i = .int .i64 k ∧ acc.length ≤ k ∧ Hid (needS acc (c.drop k) = needS [] c) ∧ Hid (∀ x, x ∈ acc → x ∈ c) ∧ OutsL (fun j => j < w.heap.size) w.heap.size wr l acc ∧ Grw w wr none l.ownBlock) (fun _ i _ => c.length - (intOf i).toNat)
  case atStart => exact ⟨0, [], Nat.zero_le _, rfl, Nat.le_refl _, rfl, (fun x hx => by cases hx), OutsL_nil, Grw.refl _ _⟩
  case round =>
    obtain ⟨k, acc, hk, rfl, hacc, HN, Hm, hout, hgrw⟩ := hrel
    have Hout := hide hout
    have Hgrw := hide hgrw
    have hzr := hgrw.gr.size
    have HbR : Hid (Below w.heap.size w wr) := hgrw.below (Nat.le_refl _) (fun g hg => by cases hg)
    clear hout hgrw
    by_cases hlt : k < c.length
    · obtain ⟨x, hx⟩ : ∃ x, c[k]? = some x := ⟨c[k], List.getElem?_eq_getElem hlt⟩
      obtain ⟨b, off, rfl⟩ := LitsP_some Hc.out (by omega)
      obtain ⟨a1, c1, a2, c2, _, k0, k1, k2, k3, k4, k5, k6, i1, i2⟩ := LitsQ_at (LitsQ_below HbR.out (LitsP_lt Hc.out)) hx
      have hkI : (k : Int) < c.length := by omega
      have hk0 : (0 : Int) ≤ k := by omega
      have HN2 := hide (needS_step (acc := acc) hx)
      have Hxc := hide (List.mem_of_getElem? hx)
      obtain ⟨W1, hW1⟩ : ∃ W1, W1 = wr.alloc (.cells #[.bool x.1, .int .i64 x.2.1.v, .int .i64 x.2.1.f, .slice a1 x.2.1.args.length c1, .int .i64 x.2.2.v, .int .i64 x.2.2.f, .slice a2 x.2.2.args.length c2] 79) := ⟨_, rfl⟩
      have HW1 := hide hW1
      have hbW : Below wr.heap.size wr W1 := by rw [hW1]; exact below1 _ _
      have hx7 : L7 W1 wr.heap.size 0 x a1 c1 a2 c2 := by rw [hW1]; exact L7.new _ rfl
      obtain ⟨la, lc, hla, hlq⟩ := OutsL_end (OutsL_below Hout.out hbW)
      have Hix1 := hide (InP_imp (q := fun _ => True) (fun _ _ => trivial) i1)
      have Hix2 := hide (InP_imp (q := fun _ => True) (fun _ _ => trivial) i2)
      have HC := hide (containsF_any (F := 104) (P := .pointer (some ⟨wr.heap.size, 0, none⟩)) (p := fun k => sameLit k x) acc la lc W1 (by omega) eg104 (fun w' y b1 d1 b2 d2 hb' hy hj1 hj2 => neededC_any y x b1 d1 b2 d2 a1 c1 a2 c2 wr.heap.size w' (Hsz.out y (Hm.out y hy)) hj1 hj2 (hx7.below hb') (InP_below (hbW.trans (hb'.mono hbW.size)) Hix1.out) (InP_below (hbW.trans (hb'.mono hbW.size)) Hix2.out)) (LitsQ_lits hlq))
      have Hq1 := hide i1
      have Hq2 := hide i2
      subst hla
      obtain ⟨A, hA⟩ : ∃ A, A = acc.any (fun k => sameLit k x) := ⟨_, rfl⟩
      obtain ⟨S, hS⟩ : ∃ S, S = sameT x.2.1 x.2.2 := ⟨_, rfl⟩
      have HKp : Hid (keepL acc x = (!A && (x.1 || !S))) := by show _ = _; rw [keepL, ← hA, ← hS]
      rw [← hA] at HC
      have HT := hide (fun (w' : World) (hb' : Below W1.heap.size W1 w') => treeSame_any x.2.1.sz x.2.1 x.2.2 a1 c1 a2 c2 w' (Nat.le_refl _) (Hsz.out x Hxc.out).1 (InP_below (hbW.trans (hb'.mono hbW.size)) Hix1.out) (InP_below (hbW.trans (hb'.mono hbW.size)) Hix2.out))
      rw [← hS] at HT
      have Hx7 := hide (fun (w' : World) (hb' : Below W1.heap.size W1 w') => hx7.below hb')
      have HbW := hide hbW
      have hbl : b < wr.heap.size := by have := lt_of_cell k0; exact this
      clear hW1 hA hS hx hbW hx7 hlq i1 i2
      go_wp2_with fail
      rw [← HW1.out]
      refine HC.out.mono ?_
      rintro e w1 ⟨rfl, hb1⟩
      have Hb1 := hide hb1
      have HB1 := hide (HbW.out.trans (hb1.mono HbW.out.size))
      have Hout1 := hide (OutsL_below Hout.out HB1.out)
      have Hg1 := hide (Hgrw.out.trans (Grw.of_below _ HB1.out))
      obtain ⟨p0, p1, p2, p3, p4, p5, p6⟩ := Hx7.out w1 hb1
      clear hb1 HC k0 k1 k2 k3 k4 k5 k6 HW1
      have HNy : Hid (keepL acc x = true → needS (acc ++ [x]) (c.drop (k + 1)) = needS [] c) := fun h => by
        have h9 := HN2.out
        rw [if_pos h] at h9
        rw [← h9]; exact HN.out
      have HNn : Hid (keepL acc x = false → needS acc (c.drop (k + 1)) = needS [] c) := fun h => by
        have h9 := HN2.out
        rw [h, if_neg (by simp)] at h9
        rw [← h9]; exact HN.out
      have Hmy : Hid (∀ y, y ∈ acc ++ [x] → y ∈ c) := fun y hy => by
        rcases List.mem_append.1 hy with h | h
        · exact Hm.out y h
        · simp at h; subst h; exact Hxc.out
      clear HN2 HN
      cases A with
      | true =>
        have HNn2 := hide (HNn.out (by rw [HKp.out]; rfl))
        clear HKp HNn HNy
        go_wp2_with fail
        go_roundw
        case rel => exact ⟨k + 1, acc, by omega, by go_num, by omega, HNn2, Hm, Hout1.out, Hg1.out⟩
        case measure => simp [intOf]; omega
      | false =>
        cases hxb : x.1 with
        | true =>
          rw [hxb] at p0
          have HNy2 := hide (HNy.out (by rw [HKp.out, hxb]; rfl))
          have HoutA := hide Hout1.out
          have HBA := hide (HbR.out.trans (HB1.out.mono HbR.out.size))
          have HgA := hide Hg1.out
          clear HKp HNn HNy Hout1 Hg1
          obtain ⟨xs, hownL, hkids⟩ := HoutA.out
          have HO := hide (fun o1 => own_same hownL (w' := w1.alloc o1) (fun g hg => (below1 w1 o1).block g (own_lt hownL g hg).2))
          have HC1 : Hid (InP (fun k' => (k' < w.heap.size ∨ w.heap.size ≤ k') ∧ (Value.slice la acc.length lc).ownBlock ≠ some k') w1 x.2.1.args a1) := InP_imp (fun k' hk' => ⟨Or.inl hk', fun e => by have h9 := (own_lt hownL k' e).1; have h8 : k' < w.heap.size := hk'; omega⟩) (InP_below HB1.out Hq1.out)
          have HC2 : Hid (InP (fun k' => (k' < w.heap.size ∨ w.heap.size ≤ k') ∧ (Value.slice la acc.length lc).ownBlock ≠ some k') w1 x.2.2.args a2) := InP_imp (fun k' hk' => ⟨Or.inl hk', fun e => by have h9 := (own_lt hownL k' e).1; have h8 : k' < w.heap.size := hk'; omega⟩) (InP_below HB1.out Hq2.out)
          have hzA := HBA.out.size
          go_wp2_with (at_builtin
                       go_must (refine wpList_append_lies _ rfl (.tmp 30) (.tmp 32) 26 rfl w.heap.size 79 ti (.agg #[.bool false, .int .i64 0, .int .i64 0, .slice none 0 0, .int .i64 0, .int .i64 0, .slice none 0 0]) 7 88 Go.Proofs.Tryz.underlying26 hi hz0 hz1 hz2 rfl (by decide) (.slice la acc.length lc) acc.length xs rfl (HO.out _) ⟨w1.heap.size, 0, none⟩ 1 1 [.bool true, .int .i64 x.2.1.v, .int .i64 x.2.1.f, .slice a1 x.2.1.args.length c1, .int .i64 x.2.2.v, .int .i64 x.2.2.f, .slice a2 x.2.2.args.length c2] rfl rfl (seven_add (by first | rfl | simp)) (by simp [Value.oneCell']) (by decide) (by unfold maxLen; omega) (by omega) (by simp; omega) _ rfl ?_)
                       intro g capg w3 hown3 hgr3 hat3 hlt3)
          have hO3 := OutsL_step (x := x) (KidsL_mono (fun k' hk' hlt' => ⟨hk', (below1 w1 _).block k' hlt'⟩) hkids) (InP_alloc _ HC1.out) (InP_alloc _ HC2.out) (by rw [hxb]; exact hown3) hgr3 (hat3.imp id (fun h => by rw [h]))
          have hG3 : Grw w w3 none (Value.slice (some ⟨g, 0, none⟩) (acc.length + 1) capg).ownBlock := HgA.out.trans ((Grw.of_below _ (below1 _ _)).trans ⟨hgr3, by
            rcases hat3 with h | h
            · exact Or.inl h.symm
            · exact Or.inr ⟨g, rfl, by rw [h]; simp⟩⟩)
          go_roundw
          case rel => exact ⟨k + 1, acc ++ [x], by omega, by go_num, by simp; omega, HNy2, Hmy, hO3, hG3⟩
          case measure => simp [intOf]; omega
        | false =>
          rw [hxb] at p0
          have HT1 := hide (HT.out w1 Hb1.out)
          go_wp2_with fail
          refine HT1.out.mono ?_
          rintro e w2 ⟨rfl, hb2⟩
          have Hb2 := hide (Hb1.out.trans (hb2.mono Hb1.out.size))
          have HB2 := hide (HB1.out.trans (hb2.mono HB1.out.size))
          have Hout2 := hide (OutsL_below Hout1.out hb2)
          have Hg2 := hide (Hg1.out.trans (Grw.of_below _ hb2))
          clear hb2 HT1 p0 p1 p2 p3 p4 p5 p6 Hout1 Hg1
          cases S with
          | true =>
            have HNn2 := hide (HNn.out (by rw [HKp.out, hxb]; rfl))
            clear HKp HNn HNy
            go_wp2_with fail
            go_roundw
            case rel => exact ⟨k + 1, acc, by omega, by go_num, by omega, HNn2, Hm, Hout2.out, Hg2.out⟩
            case measure => simp [intOf]; omega
          | false =>
            obtain ⟨p0, p1, p2, p3, p4, p5, p6⟩ := Hx7.out w2 Hb2.out
            rw [hxb] at p0
            have HNy2 := hide (HNy.out (by rw [HKp.out, hxb]; rfl))
            have HoutA := hide Hout2.out
            have HBA := hide (HbR.out.trans (HB2.out.mono HbR.out.size))
            have HgA := hide Hg2.out
            clear HKp HNn HNy Hout2 Hg2
            obtain ⟨xs, hownL, hkids⟩ := HoutA.out
            have HO := hide (fun o1 => own_same hownL (w' := w2.alloc o1) (fun g hg => (below1 w2 o1).block g (own_lt hownL g hg).2))
            have HC1 : Hid (InP (fun k' => (k' < w.heap.size ∨ w.heap.size ≤ k') ∧ (Value.slice la acc.length lc).ownBlock ≠ some k') w2 x.2.1.args a1) := InP_imp (fun k' hk' => ⟨Or.inl hk', fun e => by have h9 := (own_lt hownL k' e).1; have h8 : k' < w.heap.size := hk'; omega⟩) (InP_below HB2.out Hq1.out)
            have HC2 : Hid (InP (fun k' => (k' < w.heap.size ∨ w.heap.size ≤ k') ∧ (Value.slice la acc.length lc).ownBlock ≠ some k') w2 x.2.2.args a2) := InP_imp (fun k' hk' => ⟨Or.inl hk', fun e => by have h9 := (own_lt hownL k' e).1; have h8 : k' < w.heap.size := hk'; omega⟩) (InP_below HB2.out Hq2.out)
            have hzA := HBA.out.size
            go_wp2_with (at_builtin
                         go_must (refine wpList_append_lies _ rfl (.tmp 30) (.tmp 32) 26 rfl w.heap.size 79 ti (.agg #[.bool false, .int .i64 0, .int .i64 0, .slice none 0 0, .int .i64 0, .int .i64 0, .slice none 0 0]) 7 88 Go.Proofs.Tryz.underlying26 hi hz0 hz1 hz2 rfl (by decide) (.slice la acc.length lc) acc.length xs rfl (HO.out _) ⟨w2.heap.size, 0, none⟩ 1 1 [.bool false, .int .i64 x.2.1.v, .int .i64 x.2.1.f, .slice a1 x.2.1.args.length c1, .int .i64 x.2.2.v, .int .i64 x.2.2.f, .slice a2 x.2.2.args.length c2] rfl rfl (seven_add (by first | rfl | simp)) (by simp [Value.oneCell']) (by decide) (by unfold maxLen; omega) (by omega) (by simp; omega) _ rfl ?_)
                         intro g capg w3 hown3 hgr3 hat3 hlt3)
            have hO3 := OutsL_step (x := x) (KidsL_mono (fun k' hk' hlt' => ⟨hk', (below1 w2 _).block k' hlt'⟩) hkids) (InP_alloc _ HC1.out) (InP_alloc _ HC2.out) (by rw [hxb]; exact hown3) hgr3 (hat3.imp id (fun h => by rw [h]))
            have hG3 : Grw w w3 none (Value.slice (some ⟨g, 0, none⟩) (acc.length + 1) capg).ownBlock := HgA.out.trans ((Grw.of_below _ (below1 _ _)).trans ⟨hgr3, by
              rcases hat3 with h | h
              · exact Or.inl h.symm
              · exact Or.inr ⟨g, rfl, by rw [h]; simp⟩⟩)
            go_roundw
            case rel => exact ⟨k + 1, acc ++ [x], by omega, by go_num, by simp; omega, HNy2, Hmy, hO3, hG3⟩
            case measure => simp [intOf]; omega
    · have hk2 : k = c.length := by omega
      subst hk2
      rw [List.drop_length, needS] at HN
      have hacc2 : acc = needS [] c := HN.out
      obtain ⟨la, lc, rfl, hlq⟩ := OutsL_end Hout.out
      rw [hacc2] at hlq
      have Hlq := hide (LitsQ_imp (q := fun _ => True) (fun _ _ => trivial) hlq)
      rw [hacc2]
      clear HN hlq Hout hacc2
      go_wp2_with fail
      go_ret
      exact ⟨la, lc, rfl, Hlq.out, HbR.out⟩
end Go.Proofs.YtbkedppkdhfpoabGreat
