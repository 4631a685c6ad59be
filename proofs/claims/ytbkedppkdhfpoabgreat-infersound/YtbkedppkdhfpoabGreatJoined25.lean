/- A clause and a model that a statement is handed, read. Lists of clauses and of inferences that a statement is handed, read. -/
import Derived.Laws.AppendOwnNone
import Derived.Maps.AppendAt
import Derived.Test.YtbkedppkdhfpoabGreatJoined24
namespace Go.Proofs.YtbkedppkdhfpoabGreat
open Go.RowKit Go.ChangeShapes Go.WideShapes Go.Deep
def LitAt (w : World) (b off : Nat) (x : Lit) : Prop := ∃ a1 c1 a2 c2, w.cell? ⟨b, off, none⟩ = some (.bool x.1) ∧ w.cell? ⟨b, off + 1, none⟩ = some (.int .i64 x.2.1.v) ∧ w.cell? ⟨b, off + 2, none⟩ = some (.int .i64 x.2.1.f) ∧ w.cell? ⟨b, off + 3, none⟩ = some (.slice a1 x.2.1.args.length c1) ∧
  w.cell? ⟨b, off + 4, none⟩ = some (.int .i64 x.2.2.v) ∧ w.cell? ⟨b, off + 5, none⟩ = some (.int .i64 x.2.2.f) ∧ w.cell? ⟨b, off + 6, none⟩ = some (.slice a2 x.2.2.args.length c2) ∧ InL w x.2.1.args a1 ∧ InL w x.2.2.args a2
theorem LitsP_of_fn {w : World} : ∀ (n b off : Nat) (f : Nat → Lit), (∀ i, i < n → LitAt w b (off + i * 7) (f i)) → LitsP w ((List.range n).map f) (some ⟨b, off, none⟩) := by
  intro n
  induction n with
  | zero => intro b off f _; trivial
  | succ n ih =>
    intro b off f h
    rw [List.range_succ_eq_map, List.map_cons, List.map_map]
    obtain ⟨a1, c1, a2, c2, h0, h1, h2, h3, h4, h5, h6, i1, i2⟩ := h 0 (by omega)
    refine ⟨b, off, a1, c1, a2, c2, rfl, by simpa using h0, by simpa using h1, by simpa using h2, by simpa using h3, by simpa using h4, by simpa using h5, by simpa using h6, i1, i2, ih b (off + 7) (f ∘ Nat.succ) (fun i hi => ?_)⟩
    have h9 := h (i + 1) (by omega)
    rw [show off + (i + 1) * 7 = off + 7 + i * 7 by omega] at h9
    exact h9
theorem TabsP_of_fn {w : World} : ∀ (n b off : Nat) (f : Nat → List Int), (∀ i, i < n → ∃ la lc, w.cell? ⟨b, off + i, none⟩ = some (.slice la (f i).length lc) ∧ Ints w (f i) la) → TabsP w ((List.range n).map f) (some ⟨b, off, none⟩) := by
  intro n
  induction n with
  | zero => intro b off f _; trivial
  | succ n ih =>
    intro b off f h
    rw [List.range_succ_eq_map, List.map_cons, List.map_map]
    obtain ⟨la, lc, h0, h1⟩ := h 0 (by omega)
    refine ⟨b, off, la, lc, rfl, by simpa using h0, h1, ih b (off + 1) (f ∘ Nat.succ) (fun i hi => ?_)⟩
    have h9 := h (i + 1) (by omega)
    rw [show off + (i + 1) = off + 1 + i by omega] at h9
    exact h9
theorem Tryz.cells79 : Tryz.prog.cellsOf 79 = 7 := by kernel_rfl
theorem Tryz.cells43 : Tryz.prog.cellsOf 43 = 2 := by kernel_rfl
theorem Tryz.rowcells22 : Tryz.prog.cellsOf 22 = 1 := by kernel_rfl
section
variable {H : Type} {enc : TypeId × Value → H} {W : World} {spare : Nat → Bool} {held : Bool}
set_option maxRecDepth 100000 in
theorem open_lit (fuel : Nat) (cs : List Value) (x : DataW H × List MemPlace) (h : DataW.trod enc Tryz.prog W 0 spare held fuel 79 cs = some x) :
    ∃ (y : Lit) (a : Option Addr) (cap : Nat) (a2 : Option Addr) (cap2 : Nat), cs = [.bool y.1, .int .i64 y.2.1.v, .int .i64 y.2.1.f, .slice a y.2.1.args.length cap, .int .i64 y.2.2.v, .int .i64 y.2.2.f, .slice a2 y.2.2.args.length cap2] ∧ InL W y.2.1.args a ∧ InL W y.2.2.args a2 := by
  obtain ⟨xs, n, hn, hx, hl, hlen, hf⟩ := DataW.trod_struct Go.Proofs.Tryz.underlying79 h
  rw [Tryz.cells79] at hl
  match cs, hl with
  | [c0, c1, c2, c3, c4, c5, c6], _ =>
    have f0 := hf 0 _ rfl
    have f1 := hf 1 _ rfl
    have f2 := hf 2 _ rfl
    match xs, hlen with
    | [y0, y1, y2], _ =>
      simp only [List.getElem?_cons_zero, List.getElem?_cons_succ] at f0 f1 f2
      have g0 : DataW.trod enc Tryz.prog W 0 spare held n 4 [c0] = some y0 := f0
      have g1 : DataW.trod enc Tryz.prog W 0 spare held n 77 [c1, c2, c3] = some y1 := f1
      have g2 : DataW.trod enc Tryz.prog W 0 spare held n 77 [c4, c5, c6] = some y2 := f2
      obtain ⟨yes, hcs, _⟩ := DataW.trod_bool Go.Proofs.Tryz.underlying4 g0
      simp only [List.cons.injEq, and_true] at hcs
      obtain rfl := hcs
      obtain ⟨s, a, cap, hcs, hin⟩ := open_term _ _ _ g1
      simp only [List.cons.injEq, and_true] at hcs
      obtain ⟨rfl, rfl, rfl⟩ := hcs
      obtain ⟨t, a2, cap2, hcs, hin2⟩ := open_term _ _ _ g2
      simp only [List.cons.injEq, and_true] at hcs
      obtain ⟨rfl, rfl, rfl⟩ := hcs
      exact ⟨(yes, s, t), a, cap, a2, cap2, rfl, hin, hin2⟩
set_option maxRecDepth 100000 in
theorem open_clause {fuel : Nat} {cs : List Value} {x : DataW H × List MemPlace} (h : DataW.trod enc Tryz.prog W 0 spare held fuel 26 cs = some x) :
    ∃ (c : List Lit) (a : Option Addr) (cap : Nat), cs = [.slice a c.length cap] ∧ LitsP W c a ∧ c.length ≤ 9223372036854775807 := by
  rcases DataW.trod_slice Go.Proofs.Tryz.underlying26 h with ⟨e2, _⟩ | ⟨a, len, cap, elems, rest, m, hm, e2, _, hb, hl', hm', hlen', hel, _, _⟩
  · exact ⟨[], none, 0, e2, trivial, by simp⟩
  · rw [Tryz.cells79] at hel
    have hchild : ∀ i, i < len → ∃ y : Lit, ∃ a1 cap1 a2 cap2, W.cell? (a.add (i * 7)) = some (.bool y.1) ∧ W.cell? ((a.add (i * 7)).add 1) = some (.int .i64 y.2.1.v) ∧ W.cell? ((a.add (i * 7)).add 2) = some (.int .i64 y.2.1.f) ∧ W.cell? ((a.add (i * 7)).add 3) = some (.slice a1 y.2.1.args.length cap1) ∧
        W.cell? ((a.add (i * 7)).add 4) = some (.int .i64 y.2.2.v) ∧ W.cell? ((a.add (i * 7)).add 5) = some (.int .i64 y.2.2.f) ∧ W.cell? ((a.add (i * 7)).add 6) = some (.slice a2 y.2.2.args.length cap2) ∧ InL W y.2.1.args a1 ∧ InL W y.2.2.args a2 := by
      intro i hi
      have h1 := hel i hi
      rw [List.getElem?_eq_getElem (by omega)] at h1
      obtain ⟨cs', h2, h3⟩ := Option.bind_eq_some_iff.1 h1
      obtain ⟨y, a', cap', a2', cap2', hcs, hin, hin2⟩ := open_lit m cs' _ h3
      obtain ⟨_, _, hcell⟩ := World.cells?_some h2
      rw [hcs] at hcell
      refine ⟨y, a', cap', a2', cap2', ?_, hcell 1 (by omega), hcell 2 (by omega), hcell 3 (by omega), hcell 4 (by omega), hcell 5 (by omega), hcell 6 (by omega), hin, hin2⟩
      have := hcell 0 (by omega)
      rwa [show (a.add (i * 7)).add 0 = a.add (i * 7) from by simp [Addr.add]] at this
    by_cases h0 : len = 0
    · subst h0
      exact ⟨[], some a, cap, e2, trivial, by simp⟩
    · obtain ⟨b, off, spot⟩ := a
      have hspot : spot = none := by
        obtain ⟨y, a1, cap1, a2, cap2, hc, _⟩ := hchild 0 (by omega)
        simpa [Addr.add] using World.cell?_spot hc
      subst hspot
      have : Inhabited Lit := ⟨(false, ⟨0, 0, []⟩, ⟨0, 0, []⟩)⟩
      obtain ⟨F, hF⟩ := choose_lt hchild
      refine ⟨(List.range len).map F, some ⟨b, off, none⟩, cap, by simpa using e2, LitsP_of_fn len b off F (fun i hi => ?_), by simp; unfold maxLen at hm'; omega⟩
      obtain ⟨a1, cap1, a2, cap2, c0, c1, c2, c3, c4, c5, c6, hin, hin2⟩ := hF i hi
      have e : ∀ j, (⟨b, off, none⟩ : Addr).add j = ⟨b, off + j, none⟩ := fun j => by simp [Addr.add]
      have e2 : ∀ i j, (⟨b, i, none⟩ : Addr).add j = ⟨b, i + j, none⟩ := fun i j => by simp [Addr.add]
      rw [e] at c0 c1 c2 c3 c4 c5 c6
      rw [e2] at c1 c2 c3 c4 c5 c6
      exact ⟨a1, cap1, a2, cap2, c0, c1, c2, c3, c4, c5, c6, hin, hin2⟩
set_option maxRecDepth 100000 in
theorem open_tabs {fuel : Nat} {cs : List Value} {x : DataW H × List MemPlace} (h : DataW.trod enc Tryz.prog W 0 spare held fuel 41 cs = some x) :
    ∃ (ls : List (List Int)) (a : Option Addr) (cap : Nat), cs = [.slice a ls.length cap] ∧ TabsP W ls a := by
  rcases DataW.trod_slice Go.Proofs.Tryz.underlying41 h with ⟨e2, _⟩ | ⟨a, len, cap, elems, rest, m, hm, e2, _, hb, hl', hm', hlen', hel, _, _⟩
  · exact ⟨[], none, 0, e2, trivial⟩
  · rw [Tryz.rowcells22] at hel
    have hchild : ∀ i, i < len → ∃ y : List Int, ∃ la lc, W.cell? (a.add (i * 1)) = some (.slice la y.length lc) ∧ Ints W y la := by
      intro i hi
      have h1 := hel i hi
      rw [List.getElem?_eq_getElem (by omega)] at h1
      obtain ⟨cs', h2, h3⟩ := Option.bind_eq_some_iff.1 h1
      obtain ⟨y, la, lc, hcs, hI, _⟩ := open_nums h3
      obtain ⟨_, _, hcell⟩ := World.cells?_some h2
      rw [hcs] at hcell
      refine ⟨y, la, lc, ?_, hI⟩
      have := hcell 0 (by omega)
      rwa [show (a.add (i * 1)).add 0 = a.add (i * 1) from by simp [Addr.add]] at this
    by_cases h0 : len = 0
    · subst h0
      exact ⟨[], some a, cap, e2, trivial⟩
    · obtain ⟨b, off, spot⟩ := a
      have hspot : spot = none := by
        obtain ⟨y, la, lc, hc, _⟩ := hchild 0 (by omega)
        simpa [Addr.add] using World.cell?_spot hc
      subst hspot
      obtain ⟨F, hF⟩ := choose_lt hchild
      refine ⟨(List.range len).map F, some ⟨b, off, none⟩, cap, by simpa using e2, TabsP_of_fn len b off F (fun i hi => ?_)⟩
      obtain ⟨la, lc, c0, hI⟩ := hF i hi
      have e : ∀ j, (⟨b, off, none⟩ : Addr).add j = ⟨b, off + j, none⟩ := fun j => by simp [Addr.add]
      rw [e, Nat.mul_one] at c0
      exact ⟨la, lc, c0, hI⟩
set_option maxRecDepth 100000 in
theorem open_model {fuel : Nat} {cs : List Value} {x : DataW H × List MemPlace} (h : DataW.trod enc Tryz.prog W 0 spare held fuel 43 cs = some x) :
    ∃ (n : Int) (ls : List (List Int)) (a : Option Addr) (cap : Nat), cs = [.int .i64 n, .slice a ls.length cap] ∧ TabsP W ls a := by
  obtain ⟨xs, m, hn, hx, hl, hlen, hf⟩ := DataW.trod_struct Go.Proofs.Tryz.underlying43 h
  rw [Tryz.cells43] at hl
  match cs, hl with
  | [c0, c1], _ =>
    have f0 := hf 0 _ rfl
    have f1 := hf 1 _ rfl
    match xs, hlen with
    | [y0, y1], _ =>
      simp only [List.getElem?_cons_zero, List.getElem?_cons_succ] at f0 f1
      have g0 : DataW.trod enc Tryz.prog W 0 spare held m 3 [c0] = some y0 := f0
      have g1 : DataW.trod enc Tryz.prog W 0 spare held m 41 [c1] = some y1 := f1
      obtain ⟨n, hcs, _⟩ := DataW.trod_int Go.Proofs.Tryz.underlying3 g0
      simp only [List.cons.injEq, and_true] at hcs
      obtain rfl := hcs
      obtain ⟨ls, a, cap, hcs, ht⟩ := open_tabs g1
      simp only [List.cons.injEq, and_true] at hcs
      obtain rfl := hcs
      exact ⟨n, ls, a, cap, rfl, ht⟩
end
end Go.Proofs.YtbkedppkdhfpoabGreat

namespace Go.Proofs.YtbkedppkdhfpoabGreat
open Go.RowKit Go.ChangeShapes Go.WideShapes Go.Deep
theorem ClausesP_of_fn {w : World} : ∀ (n b off : Nat) (f : Nat → List Lit), (∀ i, i < n → ∃ la lc, w.cell? ⟨b, off + i, none⟩ = some (.slice la (f i).length lc) ∧ LitsP w (f i) la) → ClausesP w ((List.range n).map f) (some ⟨b, off, none⟩) := by
  intro n
  induction n with
  | zero => intro b off f _; trivial
  | succ n ih =>
    intro b off f h
    rw [List.range_succ_eq_map, List.map_cons, List.map_map]
    obtain ⟨la, lc, h0, h1⟩ := h 0 (by omega)
    refine ⟨b, off, la, lc, rfl, by simpa using h0, h1, ih b (off + 1) (f ∘ Nat.succ) (fun i hi => ?_)⟩
    have h9 := h (i + 1) (by omega)
    rw [show off + (i + 1) = off + 1 + i by omega] at h9
    exact h9
theorem Tryz.cells47 : Tryz.prog.cellsOf 47 = 8 := by kernel_rfl
theorem Tryz.cells26 : Tryz.prog.cellsOf 26 = 1 := by kernel_rfl
section
variable {H : Type} {enc : TypeId × Value → H} {W : World} {spare : Nat → Bool} {held : Bool}
set_option maxRecDepth 100000 in
theorem open_clauses {fuel : Nat} {cs : List Value} {x : DataW H × List MemPlace} (h : DataW.trod enc Tryz.prog W 0 spare held fuel 34 cs = some x) :
    ∃ (ls : List (List Lit)) (a : Option Addr) (cap : Nat), cs = [.slice a ls.length cap] ∧ ClausesP W ls a ∧ ls.length ≤ 9223372036854775807 ∧ ∀ c, c ∈ ls → c.length ≤ 9223372036854775807 := by
  rcases DataW.trod_slice Go.Proofs.Tryz.underlying34 h with ⟨e2, _⟩ | ⟨a, len, cap, elems, rest, m, hm, e2, _, hb, hl', hm', hlen', hel, _, _⟩
  · exact ⟨[], none, 0, e2, trivial, by simp, fun c hc => by cases hc⟩
  · rw [Tryz.cells26] at hel
    have hchild : ∀ i, i < len → ∃ y : List Lit, ∃ la lc, W.cell? (a.add (i * 1)) = some (.slice la y.length lc) ∧ LitsP W y la ∧ y.length ≤ 9223372036854775807 := by
      intro i hi
      have h1 := hel i hi
      rw [List.getElem?_eq_getElem (by omega)] at h1
      obtain ⟨cs', h2, h3⟩ := Option.bind_eq_some_iff.1 h1
      obtain ⟨y, la, lc, hcs, hI, hl9⟩ := open_clause h3
      obtain ⟨_, _, hcell⟩ := World.cells?_some h2
      rw [hcs] at hcell
      refine ⟨y, la, lc, ?_, hI, hl9⟩
      have := hcell 0 (by omega)
      rwa [show (a.add (i * 1)).add 0 = a.add (i * 1) from by simp [Addr.add]] at this
    by_cases h0 : len = 0
    · subst h0
      exact ⟨[], some a, cap, e2, trivial, by simp, fun c hc => by cases hc⟩
    · obtain ⟨b, off, spot⟩ := a
      have hspot : spot = none := by
        obtain ⟨y, la, lc, hc, _⟩ := hchild 0 (by omega)
        simpa [Addr.add] using World.cell?_spot hc
      subst hspot
      obtain ⟨F, hF⟩ := choose_lt hchild
      refine ⟨(List.range len).map F, some ⟨b, off, none⟩, cap, by simpa using e2, ClausesP_of_fn len b off F (fun i hi => ?_), by simp; unfold maxLen at hm'; omega, fun c hc => ?_⟩
      · obtain ⟨la, lc, c0, hI, _⟩ := hF i hi
        have e : ∀ j, (⟨b, off, none⟩ : Addr).add j = ⟨b, off + j, none⟩ := fun j => by simp [Addr.add]
        rw [e, Nat.mul_one] at c0
        exact ⟨la, lc, c0, hI⟩
      · obtain ⟨i, hi, rfl⟩ := List.mem_map.1 hc
        obtain ⟨la, lc, c0, hI, h9⟩ := hF i (List.mem_range.1 hi)
        exact h9
set_option maxRecDepth 100000 in
theorem open_inf (fuel : Nat) (cs : List Value) (x : DataW H × List MemPlace) (h : DataW.trod enc Tryz.prog W 0 spare held fuel 47 cs = some x) :
    ∃ (i : Inf) (a : Option Addr) (cap : Nat), cs = [.int .i64 i.kind, .int .i64 i.left, .int .i64 i.right, .int .i64 i.la, .int .i64 i.ra, .bool i.lt, .bool i.rt, .slice a i.place.length cap] ∧ Ints W i.place a ∧ i.place.length ≤ 9223372036854775807 := by
  obtain ⟨xs, n, hn, hx, hl, hlen, hf⟩ := DataW.trod_struct Go.Proofs.Tryz.underlying47 h
  rw [Tryz.cells47] at hl
  match cs, hl with
  | [c0, c1, c2, c3, c4, c5, c6, c7], _ =>
    have f0 := hf 0 _ rfl
    have f1 := hf 1 _ rfl
    have f2 := hf 2 _ rfl
    have f3 := hf 3 _ rfl
    have f4 := hf 4 _ rfl
    have f5 := hf 5 _ rfl
    have f6 := hf 6 _ rfl
    have f7 := hf 7 _ rfl
    match xs, hlen with
    | [y0, y1, y2, y3, y4, y5, y6, y7], _ =>
      simp only [List.getElem?_cons_zero, List.getElem?_cons_succ] at f0 f1 f2 f3 f4 f5 f6 f7
      have g0 : DataW.trod enc Tryz.prog W 0 spare held n 3 [c0] = some y0 := f0
      have g1 : DataW.trod enc Tryz.prog W 0 spare held n 3 [c1] = some y1 := f1
      have g2 : DataW.trod enc Tryz.prog W 0 spare held n 3 [c2] = some y2 := f2
      have g3 : DataW.trod enc Tryz.prog W 0 spare held n 3 [c3] = some y3 := f3
      have g4 : DataW.trod enc Tryz.prog W 0 spare held n 3 [c4] = some y4 := f4
      have g5 : DataW.trod enc Tryz.prog W 0 spare held n 4 [c5] = some y5 := f5
      have g6 : DataW.trod enc Tryz.prog W 0 spare held n 4 [c6] = some y6 := f6
      have g7 : DataW.trod enc Tryz.prog W 0 spare held n 22 [c7] = some y7 := f7
      obtain ⟨k0, hcs, _⟩ := DataW.trod_int Go.Proofs.Tryz.underlying3 g0
      simp only [List.cons.injEq, and_true] at hcs
      obtain rfl := hcs
      obtain ⟨k1, hcs, _⟩ := DataW.trod_int Go.Proofs.Tryz.underlying3 g1
      simp only [List.cons.injEq, and_true] at hcs
      obtain rfl := hcs
      obtain ⟨k2, hcs, _⟩ := DataW.trod_int Go.Proofs.Tryz.underlying3 g2
      simp only [List.cons.injEq, and_true] at hcs
      obtain rfl := hcs
      obtain ⟨k3, hcs, _⟩ := DataW.trod_int Go.Proofs.Tryz.underlying3 g3
      simp only [List.cons.injEq, and_true] at hcs
      obtain rfl := hcs
      obtain ⟨k4, hcs, _⟩ := DataW.trod_int Go.Proofs.Tryz.underlying3 g4
      simp only [List.cons.injEq, and_true] at hcs
      obtain rfl := hcs
      obtain ⟨k5, hcs, _⟩ := DataW.trod_bool Go.Proofs.Tryz.underlying4 g5
      simp only [List.cons.injEq, and_true] at hcs
      obtain rfl := hcs
      obtain ⟨k6, hcs, _⟩ := DataW.trod_bool Go.Proofs.Tryz.underlying4 g6
      simp only [List.cons.injEq, and_true] at hcs
      obtain rfl := hcs
      obtain ⟨zs, a, cap, hcs, hi, hz, _⟩ := open_nums g7
      simp only [List.cons.injEq, and_true] at hcs
      obtain rfl := hcs
      exact ⟨⟨k0, k1, k2, k3, k4, k5, k6, zs⟩, a, cap, rfl, hi, hz⟩
end
end Go.Proofs.YtbkedppkdhfpoabGreat
