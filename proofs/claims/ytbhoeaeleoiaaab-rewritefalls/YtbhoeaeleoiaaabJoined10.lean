/- A list of rules that a statement is handed, read. -/
import Derived.Test.YtbhoeaeleoiaaabJoined9
namespace Go.Proofs.Ytbhoeaeleoiaaab
open Go.RowKit Go.ChangeShapes Go.WideShapes Go.Deep

theorem RulesP_of_fn {w : World} : ∀ (n b off : Nat) (f : Nat → T × T), (∀ i, i < n → ∃ a cap a2 cap2, w.cell? ⟨b, off + i * 6, none⟩ = some (.int .i64 (f i).1.v) ∧ w.cell? ⟨b, off + i * 6 + 1, none⟩ = some (.int .i64 (f i).1.f) ∧ w.cell? ⟨b, off + i * 6 + 2, none⟩ = some (.slice a (f i).1.args.length cap) ∧
      w.cell? ⟨b, off + i * 6 + 3, none⟩ = some (.int .i64 (f i).2.v) ∧ w.cell? ⟨b, off + i * 6 + 4, none⟩ = some (.int .i64 (f i).2.f) ∧ w.cell? ⟨b, off + i * 6 + 5, none⟩ = some (.slice a2 (f i).2.args.length cap2) ∧ InL w (f i).1.args a ∧ InL w (f i).2.args a2) →
    RulesP (fun _ => True) w ((List.range n).map f) (some ⟨b, off, none⟩) := by
  intro n
  induction n with
  | zero => intro b off f _; trivial
  | succ n ih =>
    intro b off f h
    rw [List.range_succ_eq_map, List.map_cons, List.map_map]
    obtain ⟨a, cap, a2, cap2, c0, c1, c2, c3, c4, c5, hin, hin2⟩ := h 0 (by omega)
    refine ⟨b, off, a, cap, a2, cap2, rfl, trivial, by simpa using c0, by simpa using c1, by simpa using c2, by simpa using c3, by simpa using c4, by simpa using c5, hin, hin2, ih b (off + 6) (f ∘ Nat.succ) (fun i hi => ?_)⟩
    obtain ⟨a, cap, a2, cap2, c0, c1, c2, c3, c4, c5, hin, hin2⟩ := h (i + 1) (by omega)
    have e : off + (i + 1) * 6 = off + 6 + i * 6 := by omega
    rw [e] at c0 c1 c2 c3 c4 c5
    exact ⟨a, cap, a2, cap2, c0, c1, c2, c3, c4, c5, hin, hin2⟩

theorem Try.cells64 : Try.prog.cellsOf 64 = 6 := by kernel_rfl

section
variable {H : Type} {enc : TypeId × Value → H} {W : World} {spare : Nat → Bool} {held : Bool}

set_option maxRecDepth 100000 in
/-- A rule that can be read. -/
theorem open_rule (fuel : Nat) (cs : List Value) (x : DataW H × List MemPlace) (h : DataW.trod enc Try.prog W 0 spare held fuel 64 cs = some x) :
    ∃ (y : T × T) (a : Option Addr) (cap : Nat) (a2 : Option Addr) (cap2 : Nat), cs = [.int .i64 y.1.v, .int .i64 y.1.f, .slice a y.1.args.length cap, .int .i64 y.2.v, .int .i64 y.2.f, .slice a2 y.2.args.length cap2] ∧ InL W y.1.args a ∧ InL W y.2.args a2 := by
  obtain ⟨xs, n, hn, hx, hl, hlen, hf⟩ := DataW.trod_struct Go.Proofs.Try.underlying64 h
  rw [Try.cells64] at hl
  match cs, hl with
  | [c0, c1, c2, c3, c4, c5], _ =>
    have f0 := hf 0 _ rfl
    have f1 := hf 1 _ rfl
    match xs, hlen with
    | [y0, y1], _ =>
      simp only [List.getElem?_cons_zero, List.getElem?_cons_succ] at f0 f1
      have g0 : DataW.trod enc Try.prog W 0 spare held n 28 [c0, c1, c2] = some y0 := f0
      have g1 : DataW.trod enc Try.prog W 0 spare held n 28 [c3, c4, c5] = some y1 := f1
      obtain ⟨s, a, cap, hcs, hin⟩ := open_term _ _ _ g0
      simp only [List.cons.injEq, and_true] at hcs
      obtain ⟨rfl, rfl, rfl⟩ := hcs
      obtain ⟨t, a2, cap2, hcs, hin2⟩ := open_term _ _ _ g1
      simp only [List.cons.injEq, and_true] at hcs
      obtain ⟨rfl, rfl, rfl⟩ := hcs
      exact ⟨(s, t), a, cap, a2, cap2, rfl, hin, hin2⟩

set_option maxRecDepth 100000 in
/-- A list of rules. -/
theorem open_rules {fuel : Nat} {cs : List Value} {x : DataW H × List MemPlace} (h : DataW.trod enc Try.prog W 0 spare held fuel 25 cs = some x) :
    ∃ (rs : List (T × T)) (a : Option Addr) (cap : Nat), cs = [.slice a rs.length cap] ∧ RulesP (fun _ => True) W rs a ∧ rs.length ≤ 9223372036854775807 := by
  rcases DataW.trod_slice Go.Proofs.Try.underlying25 h with ⟨e2, _⟩ | ⟨a, len, cap, elems, rest, m, hm, e2, _, hb, hl', hm', hlen', hel, _, _⟩
  · exact ⟨[], none, 0, e2, trivial, by simp⟩
  · rw [Try.cells64] at hel
    have hchild : ∀ i, i < len → ∃ y : T × T, ∃ a1 cap1 a2 cap2, W.cell? (a.add (i * 6)) = some (.int .i64 y.1.v) ∧ W.cell? ((a.add (i * 6)).add 1) = some (.int .i64 y.1.f) ∧ W.cell? ((a.add (i * 6)).add 2) = some (.slice a1 y.1.args.length cap1) ∧
        W.cell? ((a.add (i * 6)).add 3) = some (.int .i64 y.2.v) ∧ W.cell? ((a.add (i * 6)).add 4) = some (.int .i64 y.2.f) ∧ W.cell? ((a.add (i * 6)).add 5) = some (.slice a2 y.2.args.length cap2) ∧ InL W y.1.args a1 ∧ InL W y.2.args a2 := by
      intro i hi
      have h1 := hel i hi
      rw [List.getElem?_eq_getElem (by omega)] at h1
      obtain ⟨cs', h2, h3⟩ := Option.bind_eq_some_iff.1 h1
      obtain ⟨y, a', cap', a2', cap2', hcs, hin, hin2⟩ := open_rule m cs' _ h3
      obtain ⟨_, _, hcell⟩ := World.cells?_some h2
      rw [hcs] at hcell
      refine ⟨y, a', cap', a2', cap2', ?_, hcell 1 (by omega), hcell 2 (by omega), hcell 3 (by omega), hcell 4 (by omega), hcell 5 (by omega), hin, hin2⟩
      have := hcell 0 (by omega)
      rwa [show (a.add (i * 6)).add 0 = a.add (i * 6) from by simp [Addr.add]] at this
    by_cases h0 : len = 0
    · subst h0
      exact ⟨[], some a, cap, e2, trivial, by simp⟩
    · obtain ⟨b, off, spot⟩ := a
      have hspot : spot = none := by
        obtain ⟨y, a1, cap1, a2, cap2, hc, _⟩ := hchild 0 (by omega)
        simpa [Addr.add] using World.cell?_spot hc
      subst hspot
      have : Inhabited (T × T) := ⟨(⟨0, 0, []⟩, ⟨0, 0, []⟩)⟩
      obtain ⟨F, hF⟩ := choose_lt hchild
      refine ⟨(List.range len).map F, some ⟨b, off, none⟩, cap, by simpa using e2, RulesP_of_fn len b off F (fun i hi => ?_), by simp; unfold maxLen at hm'; omega⟩
      obtain ⟨a1, cap1, a2, cap2, c0, c1, c2, c3, c4, c5, hin, hin2⟩ := hF i hi
      have e : ∀ j, (⟨b, off, none⟩ : Addr).add j = ⟨b, off + j, none⟩ := fun j => by simp [Addr.add]
      have e2 : ∀ i j, (⟨b, i, none⟩ : Addr).add j = ⟨b, i + j, none⟩ := fun i j => by simp [Addr.add]
      rw [e] at c0 c1 c2 c3 c4 c5
      rw [e2] at c1 c2 c3 c4 c5
      exact ⟨a1, cap1, a2, cap2, c0, c1, c2, c3, c4, c5, hin, hin2⟩
end

end Go.Proofs.Ytbhoeaeleoiaaab
