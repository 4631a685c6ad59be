/- What the document's own order keeps: the parts, the numbers of their arguments, the table. -/
import Derived.Test.YthlcghimjfgedaaPartsK
import Derived.Test.YthlcghimjfgedaaArgsW
import Derived.Test.YthlcghimjfgedaaArgsP
import Derived.Test.YthlcghimjfgedaaGtRef
namespace Go.Proofs.Ythlcghimjfgedaa
open Go.RowKit

/-- The parts of s lie in the block g, what stands behind them below lo. -/
def PartsAt (lo : Nat) (w : World) (g : Nat) (s : T) : Prop := g < w.heap.size ∧ ∀ k x, (parts s)[k]? = some x → ∃ a1 cap2, w.cell? ⟨g, k * 3, none⟩ = some (.int .i64 x.v) ∧ w.cell? ⟨g, k * 3 + 1, none⟩ = some (.int .i64 x.f) ∧ w.cell? ⟨g, k * 3 + 2, none⟩ = some (.slice a1 x.args.length cap2) ∧ InP (fun b => b < lo) w x.args a1
theorem PartsAt.below {lo : Nat} {w w' : World} {g : Nat} {s : T} (h : PartsAt lo w g s) (hb : Below w.heap.size w w') : PartsAt lo w' g s := by
  refine ⟨Nat.lt_of_lt_of_le h.1 hb.size, fun k x hx => ?_⟩
  obtain ⟨a1, c2, h0, h1, h2, hi⟩ := h.2 k x hx
  have e : ∀ j, w'.cell? ⟨g, j, none⟩ = w.cell? ⟨g, j, none⟩ := fun j => hb.cell (p := ⟨g, j, none⟩) h.1
  exact ⟨a1, c2, (e _).trans h0, (e _).trans h1, (e _).trans h2, InP_below hb hi⟩
theorem partsAt_one (t : T) (a : Option Addr) (cap : Nat) (w : World) (ht : t.sz ≤ 120) (hin : InL w t.args a) :
    Calls Try.prog 58 #[.slice none 0 0, .agg #[.int .i64 t.v, .int .i64 t.f, .slice a t.args.length cap]] w fun e w' => ∃ g cap1, e = .returned (.slice (some ⟨g, 0, none⟩) t.sz cap1) ∧ PartsAt w.heap.size w' g t ∧ Below w.heap.size w w' := by
  refine (partsK_one t a cap w (by omega) hin).mono ?_
  rintro e w' ⟨g, cap1, rfl, _, hlt, hc, hb⟩
  exact ⟨g, cap1, rfl, ⟨hlt, hc⟩, hb⟩

/-- Lists of numbers lie in the block g. -/
def ListsAt (w : World) (g : Nat) (rows : List (List Int)) : Prop := g < w.heap.size ∧ ∀ i l, rows[i]? = some l → ∃ a c, w.cell? ⟨g, i, none⟩ = some (.slice a l.length c) ∧ Ints w l a
theorem ListsAt.below {w w' : World} {g : Nat} {rows : List (List Int)} (h : ListsAt w g rows) (hb : Below w.heap.size w w') : ListsAt w' g rows := by
  refine ⟨Nat.lt_of_lt_of_le h.1 hb.size, fun i l hl => ?_⟩
  obtain ⟨a, c, h0, hi⟩ := h.2 i l hl
  exact ⟨a, c, by rw [hb.cell (p := ⟨g, i, none⟩) h.1]; exact h0, Ints_below hb hi⟩
theorem listsAt_one (t : T) (a : Option Addr) (cap : Nat) (w : World) (ht : t.sz ≤ 120) (hin : InL w t.args a) :
    Calls Try.prog 82 #[.agg #[.int .i64 t.v, .int .i64 t.f, .slice a t.args.length cap]] w fun e w' => ∃ g cap1, e = .returned (.slice (some ⟨g, 0, none⟩) t.sz cap1) ∧ ListsAt w' g (argsAt t 0) ∧ Below w.heap.size w w' := by
  refine (argsOf_any 120 t a cap w ht ht hin).mono ?_
  rintro e w' ⟨v, rfl, ⟨xs, hown, hrk⟩, hb⟩
  have hl : (argsAt t 0).length = t.sz := (args_length _).1 t 0 (Nat.le_refl _)
  rw [hl] at hown
  obtain ⟨g, cap1, rfl, _, hlt, hc, _⟩ := own_cells1 hown t.sz_pos
  refine ⟨g, cap1, rfl, ⟨hlt, fun i l hi => ?_⟩, hb⟩
  obtain ⟨a', c', h1, h2⟩ := RK_at hrk hi
  exact ⟨a', c', hc i _ h1, IP_ints h2⟩

theorem Try.underlying112 : Try.prog.underlying 112 = some (.slice 113) := by kernel_rfl
theorem Try.underlying113 : Try.prog.underlying 113 = some (.slice 4) := by kernel_rfl
theorem Try.info113 : (Try.prog.info? 113).map (fun i => (i.zero, i.size, i.bytes)) = some (some (.slice none 0 0), 1, 24) := by kernel_rfl
theorem Try.info4 : (Try.prog.info? 4).map (fun i => (i.zero, i.size, i.bytes)) = some (some (.bool false), 1, 1) := by kernel_rfl
def rowT (n : Nat) : Array Value := madeCells #[.slice none 0 0] (n * 1)
def rowB (n : Nat) : Array Value := madeCells #[.bool false] (n * 1)
theorem run_makeT (n : Nat) (hn : n ≤ 1000000) (w : World) : (Instr.makeSlice 112 (.int .i64 (n : Int)) (.int .i64 (n : Int))).run Try.prog w = .ok (.slice (some ⟨w.heap.size, 0, none⟩) n n) (w.alloc (.cells (rowT n) 113)) := by
  obtain ⟨i, hi, hzz⟩ := Option.map_eq_some_iff.1 Try.info113
  simp only [Prod.mk.injEq] at hzz
  obtain ⟨hz, hs, hb⟩ := hzz
  have hr := run_make (P := Try.prog) w 112 113 i _ Try.underlying112 hi hz .i64 .i64 n n (by omega) (Int.le_refl _) (by rw [hb]; omega) (by omega)
  simp only [Int.toNat_natCast, hs] at hr
  exact hr
theorem run_makeB (n : Nat) (hn : n ≤ 1000000) (w : World) : (Instr.makeSlice 113 (.int .i64 (n : Int)) (.int .i64 (n : Int))).run Try.prog w = .ok (.slice (some ⟨w.heap.size, 0, none⟩) n n) (w.alloc (.cells (rowB n) 4)) := by
  obtain ⟨i, hi, hzz⟩ := Option.map_eq_some_iff.1 Try.info4
  simp only [Prod.mk.injEq] at hzz
  obtain ⟨hz, hs, hb⟩ := hzz
  have hr := run_make (P := Try.prog) w 113 4 i _ Try.underlying113 hi hz .i64 .i64 n n (by omega) (Int.le_refl _) (by rw [hb]; omega) (by omega)
  simp only [Int.toNat_natCast, hs] at hr
  exact hr
theorem rowB_at {n j : Nat} (h : j < n) : (rowB n)[j]? = some (.bool false) := by
  simp [rowB, madeCells, h, Nat.mod_one]

/-- The table: n rows of C truths, each in a block of its own behind K. -/
structure TT (K R C n : Nat) (rb : Nat → Nat) (w : World) (M : Nat → Nat → Bool) : Prop where
  rows : ∀ i, i < n → w.cell? ⟨K, i, none⟩ = some (.slice (some ⟨rb i, 0, none⟩) C C)
  ex : ∀ i, i < R → ∃ v, w.cell? ⟨K, i, none⟩ = some v
  frK : ∀ i, w.frozen? ⟨K, i, none⟩ = false
  ent : ∀ i j, i < n → j < C → w.cell? ⟨rb i, j, none⟩ = some (.bool (M i j))
  fr : ∀ i j, i < n → w.frozen? ⟨rb i, j, none⟩ = false
  gtK : ∀ i, i < n → K < rb i
  lt : ∀ i, i < n → rb i < w.heap.size
  inj : ∀ i j, i < n → j < n → rb i = rb j → i = j
  ltK : K < w.heap.size
theorem TT.below {K R C n : Nat} {rb : Nat → Nat} {w w' : World} {M : Nat → Nat → Bool} (h : TT K R C n rb w M) (hb : Below w.heap.size w w') : TT K R C n rb w' M := by
  have eK : ∀ i, w'.cell? ⟨K, i, none⟩ = w.cell? ⟨K, i, none⟩ := fun i => hb.cell (p := ⟨K, i, none⟩) h.ltK
  exact ⟨fun i hi => (eK i).trans (h.rows i hi), fun i hi => by obtain ⟨v, hv⟩ := h.ex i hi; exact ⟨v, (eK i).trans hv⟩, fun i => by rw [hb.frozen (p := ⟨K, i, none⟩) h.ltK]; exact h.frK i,
    fun i j hi hj => by rw [hb.cell (p := ⟨rb i, j, none⟩) (h.lt i hi)]; exact h.ent i j hi hj, fun i j hi => by rw [hb.frozen (p := ⟨rb i, j, none⟩) (h.lt i hi)]; exact h.fr i j hi, h.gtK, fun i hi => Nat.lt_of_lt_of_le (h.lt i hi) hb.size, h.inj, Nat.lt_of_lt_of_le h.ltK hb.size⟩
/-- An entry written. -/
theorem TT.set {K R C n : Nat} {rb : Nat → Nat} {w : World} {M : Nat → Nat → Bool} (h : TT K R C n rb w M) {i j : Nat} (hi : i < n) (hj : j < C) (x : Bool) : TT K R C n rb (w.setCell ⟨rb i, j, none⟩ (.bool x)) (fun i' j' => if i' = i ∧ j' = j then x else M i' j') := by
  have hs : (w.setCell ⟨rb i, j, none⟩ (.bool x)).heap.size = w.heap.size := by simp [World.setCell]
  have hne : K ≠ rb i := by have := h.gtK i hi; omega
  have eK : ∀ k, (w.setCell ⟨rb i, j, none⟩ (.bool x)).cell? ⟨K, k, none⟩ = w.cell? ⟨K, k, none⟩ := fun k => World.cell?_of_block (w := w) (a := ⟨K, k, none⟩) (Below.heap_setCell _ _ _ _ hne)
  refine ⟨fun k hk => (eK k).trans (h.rows k hk), fun k hk => by obtain ⟨v, hv⟩ := h.ex k hk; exact ⟨v, (eK k).trans hv⟩, fun k => by rw [World.frozen?_setCell]; exact h.frK k, fun i' j' hi' hj' => ?_, fun i' j' hi' => by rw [World.frozen?_setCell]; exact h.fr i' j' hi', h.gtK, fun k hk => by rw [hs]; exact h.lt k hk, h.inj, by rw [hs]; exact h.ltK⟩
  by_cases e : i' = i
  · subst e
    by_cases e2 : j' = j
    · subst e2
      rw [World.cell?_setCell_same _ _ _ (h.ent i' j' hi hj), if_pos ⟨rfl, rfl⟩]
    · rw [World.cell?_setCell_other _ _ _ _ (fun e3 => e2 (by injection e3 with _ e4; exact e4.symm)), if_neg (fun h => e2 h.2)]; exact h.ent _ _ hi' hj'
  · rw [World.cell?_of_block (w := w) (a := ⟨rb i', j', none⟩) (Below.heap_setCell _ _ _ _ (fun e3 => e (h.inj _ _ hi' hi e3))), if_neg (fun h => e h.1)]; exact h.ent _ _ hi' hj'

/-- What is done is right: all rows ahead of i, and of row i what lies ahead of k. -/
def Right (PS PT : List T) (M : Nat → Nat → Bool) (i k : Nat) : Prop := ∀ i' j x y, PS[i']? = some x → PT[j]? = some y → (i' < i ∨ i' = i ∧ j < k) → M i' j = gt x y
theorem Right.set {PS PT : List T} {M : Nat → Nat → Bool} {i k : Nat} {x y : T} (h : Right PS PT M i k) (hx : PS[i]? = some x) (hy : PT[k]? = some y) : Right PS PT (fun i' j' => if i' = i ∧ j' = k then gt x y else M i' j') i (k + 1) := by
  intro i' j x' y' hx' hy' hd
  by_cases e : i' = i ∧ j = k
  · obtain ⟨rfl, rfl⟩ := e
    rw [hx] at hx'; rw [hy] at hy'
    obtain rfl : x = x' := by simpa using hx'
    obtain rfl : y = y' := by simpa using hy'
    simp
  · simp only [if_neg e]
    exact h i' j x' y' hx' hy' (by omega)
theorem Right.row {PS PT : List T} {M : Nat → Nat → Bool} {i k : Nat} (h : Right PS PT M i k) (hk : k = PT.length) : Right PS PT M (i + 1) 0 := by
  intro i' j x' y' hx' hy' hd
  refine h i' j x' y' hx' hy' ?_
  have hj : j < PT.length := by
    rcases Nat.lt_or_ge j PT.length with h | h
    · exact h
    · rw [List.getElem?_eq_none h] at hy'; cases hy'
  omega

end Go.Proofs.Ythlcghimjfgedaa
