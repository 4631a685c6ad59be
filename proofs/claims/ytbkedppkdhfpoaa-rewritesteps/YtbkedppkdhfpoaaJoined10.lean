/- What the document's own order keeps: the parts, the numbers of their arguments, the table. The table of the document's own order: one row more, and its start. What stands fast within one round of the document's own order: what the round reads, and where it lies. How bindings lie in memory; which one a variable has. What is wrong with bindings: the document's check, and the program's. Maps keyed by numbers: what they hold at each number. What variables are bound to, as a map of the program's own. How big a term becomes, by the document. -/
import Derived.BigQuiet
import Derived.Deep.DeepCutAuto
import Derived.Deep.RegionHeld3
import Derived.Maps.OwnOps
import Derived.Maps.OwnSet
import Derived.Test.YtbkedppkdhfpoaaJoined9
namespace Go.Proofs.Ytbkedppkdhfpoaa
open Go.RowKit

/-- The parts of s lie in the block g, what stands behind them below lo. -/
def PartsAt (lo : Nat) (w : World) (g : Nat) (s : T) : Prop := g < w.heap.size ∧ ∀ k x, (parts s)[k]? = some x → ∃ a1 cap2, w.cell? ⟨g, k * 3, none⟩ = some (.int .i64 x.v) ∧ w.cell? ⟨g, k * 3 + 1, none⟩ = some (.int .i64 x.f) ∧ w.cell? ⟨g, k * 3 + 2, none⟩ = some (.slice a1 x.args.length cap2) ∧ InP (fun b => b < lo) w x.args a1
theorem PartsAt.below {lo : Nat} {w w' : World} {g : Nat} {s : T} (h : PartsAt lo w g s) (hb : Below w.heap.size w w') : PartsAt lo w' g s := by
  refine ⟨Nat.lt_of_lt_of_le h.1 hb.size, fun k x hx => ?_⟩
  obtain ⟨a1, c2, h0, h1, h2, hi⟩ := h.2 k x hx
  have e : ∀ j, w'.cell? ⟨g, j, none⟩ = w.cell? ⟨g, j, none⟩ := fun j => hb.cell (p := ⟨g, j, none⟩) h.1
  exact ⟨a1, c2, (e _).trans h0, (e _).trans h1, (e _).trans h2, InP_below hb hi⟩
theorem partsAt_one (t : T) (a : Option Addr) (cap : Nat) (w : World) (ht : t.sz ≤ 120) (hin : InL w t.args a) :
    Calls Try.prog 58 #[.slice none 0 0, .agg #[.int .i64 t.v, .int .i64 t.f, .slice a t.args.length cap]] w fun e w' => ∃ g cap1, e = .returned (.slice (some ⟨g, 0, none⟩) t.sz cap1) ∧ PartsAt w.heap.size w' g t ∧ Below w.heap.size w w' := by
  refine (partsK_one t a cap w (by omega) hin).mono ?_
  rintro e w' ⟨g, cap1, rfl, _, hlt, hc, hb⟩
  exact ⟨g, cap1, rfl, ⟨hlt, hc⟩, hb⟩

/-- Lists of numbers lie in the block g. -/
def ListsAt (w : World) (g : Nat) (rows : List (List Int)) : Prop := g < w.heap.size ∧ ∀ i l, rows[i]? = some l → ∃ a c, w.cell? ⟨g, i, none⟩ = some (.slice a l.length c) ∧ Ints w l a
theorem ListsAt.below {w w' : World} {g : Nat} {rows : List (List Int)} (h : ListsAt w g rows) (hb : Below w.heap.size w w') : ListsAt w' g rows := by
  refine ⟨Nat.lt_of_lt_of_le h.1 hb.size, fun i l hl => ?_⟩
  obtain ⟨a, c, h0, hi⟩ := h.2 i l hl
  exact ⟨a, c, by rw [hb.cell (p := ⟨g, i, none⟩) h.1]; exact h0, Ints_below hb hi⟩
theorem listsAt_one (t : T) (a : Option Addr) (cap : Nat) (w : World) (ht : t.sz ≤ 120) (hin : InL w t.args a) :
    Calls Try.prog 82 #[.agg #[.int .i64 t.v, .int .i64 t.f, .slice a t.args.length cap]] w fun e w' => ∃ g cap1, e = .returned (.slice (some ⟨g, 0, none⟩) t.sz cap1) ∧ ListsAt w' g (argsAt t 0) ∧ Below w.heap.size w w' := by
  refine (argsOf_any 120 t a cap w ht ht hin).mono ?_
  rintro e w' ⟨v, rfl, ⟨xs, hown, hrk⟩, hb⟩
  have hl : (argsAt t 0).length = t.sz := (args_length _).1 t 0 (Nat.le_refl _)
  rw [hl] at hown
  obtain ⟨g, cap1, rfl, _, hlt, hc, _⟩ := own_cells1 hown t.sz_pos
  refine ⟨g, cap1, rfl, ⟨hlt, fun i l hi => ?_⟩, hb⟩
  obtain ⟨a', c', h1, h2⟩ := RK_at hrk hi
  exact ⟨a', c', hc i _ h1, IP_ints h2⟩

theorem Try.underlying112 : Try.prog.underlying 112 = some (.slice 113) := by kernel_rfl
theorem Try.underlying113 : Try.prog.underlying 113 = some (.slice 4) := by kernel_rfl
theorem Try.info113 : (Try.prog.info? 113).map (fun i => (i.zero, i.size, i.bytes)) = some (some (.slice none 0 0), 1, 24) := by kernel_rfl
theorem Try.info4 : (Try.prog.info? 4).map (fun i => (i.zero, i.size, i.bytes)) = some (some (.bool false), 1, 1) := by kernel_rfl
def rowT (n : Nat) : Array Value := madeCells #[.slice none 0 0] (n * 1)
def rowB (n : Nat) : Array Value := madeCells #[.bool false] (n * 1)
theorem run_makeT (n : Nat) (hn : n ≤ 1000000) (w : World) : (Instr.makeSlice 112 (.int .i64 (n : Int)) (.int .i64 (n : Int))).run Try.prog w = .ok (.slice (some ⟨w.heap.size, 0, none⟩) n n) (w.alloc (.cells (rowT n) 113)) := by
  obtain ⟨i, hi, hzz⟩ := Option.map_eq_some_iff.1 Try.info113
  simp only [Prod.mk.injEq] at hzz
  obtain ⟨hz, hs, hb⟩ := hzz
  have hr := run_make (P := Try.prog) w 112 113 i _ Try.underlying112 hi hz .i64 .i64 n n (by omega) (Int.le_refl _) (by rw [hb]; omega) (by omega)
  simp only [Int.toNat_natCast, hs] at hr
  exact hr
theorem run_makeB (n : Nat) (hn : n ≤ 1000000) (w : World) : (Instr.makeSlice 113 (.int .i64 (n : Int)) (.int .i64 (n : Int))).run Try.prog w = .ok (.slice (some ⟨w.heap.size, 0, none⟩) n n) (w.alloc (.cells (rowB n) 4)) := by
  obtain ⟨i, hi, hzz⟩ := Option.map_eq_some_iff.1 Try.info4
  simp only [Prod.mk.injEq] at hzz
  obtain ⟨hz, hs, hb⟩ := hzz
  have hr := run_make (P := Try.prog) w 113 4 i _ Try.underlying113 hi hz .i64 .i64 n n (by omega) (Int.le_refl _) (by rw [hb]; omega) (by omega)
  simp only [Int.toNat_natCast, hs] at hr
  exact hr
theorem rowB_at {n j : Nat} (h : j < n) : (rowB n)[j]? = some (.bool false) := by
  simp [rowB, madeCells, h, Nat.mod_one]

/-- The table: n rows of C truths, each in a block of its own behind K. -/
structure TT (K R C n : Nat) (rb : Nat → Nat) (w : World) (M : Nat → Nat → Bool) : Prop where
  rows : ∀ i, i < n → w.cell? ⟨K, i, none⟩ = some (.slice (some ⟨rb i, 0, none⟩) C C)
  ex : ∀ i, i < R → ∃ v, w.cell? ⟨K, i, none⟩ = some v
  frK : ∀ i, w.frozen? ⟨K, i, none⟩ = false
  ent : ∀ i j, i < n → j < C → w.cell? ⟨rb i, j, none⟩ = some (.bool (M i j))
  fr : ∀ i j, i < n → w.frozen? ⟨rb i, j, none⟩ = false
  gtK : ∀ i, i < n → K < rb i
  lt : ∀ i, i < n → rb i < w.heap.size
  inj : ∀ i j, i < n → j < n → rb i = rb j → i = j
  ltK : K < w.heap.size
theorem TT.below {K R C n : Nat} {rb : Nat → Nat} {w w' : World} {M : Nat → Nat → Bool} (h : TT K R C n rb w M) (hb : Below w.heap.size w w') : TT K R C n rb w' M := by
  have eK : ∀ i, w'.cell? ⟨K, i, none⟩ = w.cell? ⟨K, i, none⟩ := fun i => hb.cell (p := ⟨K, i, none⟩) h.ltK
  exact ⟨fun i hi => (eK i).trans (h.rows i hi), fun i hi => by obtain ⟨v, hv⟩ := h.ex i hi; exact ⟨v, (eK i).trans hv⟩, fun i => by rw [hb.frozen (p := ⟨K, i, none⟩) h.ltK]; exact h.frK i,
    fun i j hi hj => by rw [hb.cell (p := ⟨rb i, j, none⟩) (h.lt i hi)]; exact h.ent i j hi hj, fun i j hi => by rw [hb.frozen (p := ⟨rb i, j, none⟩) (h.lt i hi)]; exact h.fr i j hi, h.gtK, fun i hi => Nat.lt_of_lt_of_le (h.lt i hi) hb.size, h.inj, Nat.lt_of_lt_of_le h.ltK hb.size⟩
/-- An entry written. -/
theorem TT.set {K R C n : Nat} {rb : Nat → Nat} {w : World} {M : Nat → Nat → Bool} (h : TT K R C n rb w M) {i j : Nat} (hi : i < n) (hj : j < C) (x : Bool) : TT K R C n rb (w.setCell ⟨rb i, j, none⟩ (.bool x)) (fun i' j' => if i' = i ∧ j' = j then x else M i' j') := by
  have hs : (w.setCell ⟨rb i, j, none⟩ (.bool x)).heap.size = w.heap.size := by simp [World.setCell]
  have hne : K ≠ rb i := by have := h.gtK i hi; omega
  have eK : ∀ k, (w.setCell ⟨rb i, j, none⟩ (.bool x)).cell? ⟨K, k, none⟩ = w.cell? ⟨K, k, none⟩ := fun k => World.cell?_of_block (w := w) (a := ⟨K, k, none⟩) (Below.heap_setCell _ _ _ _ hne)
  refine ⟨fun k hk => (eK k).trans (h.rows k hk), fun k hk => by obtain ⟨v, hv⟩ := h.ex k hk; exact ⟨v, (eK k).trans hv⟩, fun k => by rw [World.frozen?_setCell]; exact h.frK k, fun i' j' hi' hj' => ?_, fun i' j' hi' => by rw [World.frozen?_setCell]; exact h.fr i' j' hi', h.gtK, fun k hk => by rw [hs]; exact h.lt k hk, h.inj, by rw [hs]; exact h.ltK⟩
  by_cases e : i' = i
  · subst e
    by_cases e2 : j' = j
    · subst e2
      rw [World.cell?_setCell_same _ _ _ (h.ent i' j' hi hj), if_pos ⟨rfl, rfl⟩]
    · rw [World.cell?_setCell_other _ _ _ _ (fun e3 => e2 (by injection e3 with _ e4; exact e4.symm)), if_neg (fun h => e2 h.2)]; exact h.ent _ _ hi' hj'
  · rw [World.cell?_of_block (w := w) (a := ⟨rb i', j', none⟩) (Below.heap_setCell _ _ _ _ (fun e3 => e (h.inj _ _ hi' hi e3))), if_neg (fun h => e h.1)]; exact h.ent _ _ hi' hj'

/-- What is done is right: all rows ahead of i, and of row i what lies ahead of k. -/
def Right (PS PT : List T) (M : Nat → Nat → Bool) (i k : Nat) : Prop := ∀ i' j x y, PS[i']? = some x → PT[j]? = some y → (i' < i ∨ i' = i ∧ j < k) → M i' j = gt x y
theorem Right.set {PS PT : List T} {M : Nat → Nat → Bool} {i k : Nat} {x y : T} (h : Right PS PT M i k) (hx : PS[i]? = some x) (hy : PT[k]? = some y) : Right PS PT (fun i' j' => if i' = i ∧ j' = k then gt x y else M i' j') i (k + 1) := by
  intro i' j x' y' hx' hy' hd
  by_cases e : i' = i ∧ j = k
  · obtain ⟨rfl, rfl⟩ := e
    rw [hx] at hx'; rw [hy] at hy'
    obtain rfl : x = x' := by simpa using hx'
    obtain rfl : y = y' := by simpa using hy'
    simp
  · simp only [if_neg e]
    exact h i' j x' y' hx' hy' (by omega)
theorem Right.row {PS PT : List T} {M : Nat → Nat → Bool} {i k : Nat} (h : Right PS PT M i k) (hk : k = PT.length) : Right PS PT M (i + 1) 0 := by
  intro i' j x' y' hx' hy' hd
  refine h i' j x' y' hx' hy' ?_
  have hj : j < PT.length := by
    rcases Nat.lt_or_ge j PT.length with h | h
    · exact h
    · rw [List.getElem?_eq_none h] at hy'; cases hy'
  omega

end Go.Proofs.Ytbkedppkdhfpoaa

namespace Go.Proofs.Ytbkedppkdhfpoaa
open Go.RowKit

/-- One row more, of nothing true yet. -/
theorem TT.row {K R C n : Nat} {rb : Nat → Nat} {w : World} {M : Nat → Nat → Bool} (h : TT K R C n rb w M) (hn : n < R) : TT K R C (n + 1) (fun i => if i = n then w.heap.size else rb i) ((w.setCell ⟨K, n, none⟩ (.slice (some ⟨w.heap.size, 0, none⟩) C C)).alloc (.cells (rowB C) 4)) (fun i j => if i = n then false else M i j) := by
  have hlK := h.ltK
  have hs : (w.setCell ⟨K, n, none⟩ (.slice (some ⟨w.heap.size, 0, none⟩) C C)).heap.size = w.heap.size := by simp [World.setCell]
  have eK : ∀ k, ((w.setCell ⟨K, n, none⟩ (.slice (some ⟨w.heap.size, 0, none⟩) C C)).alloc (.cells (rowB C) 4)).cell? ⟨K, k, none⟩ = (w.setCell ⟨K, n, none⟩ (.slice (some ⟨w.heap.size, 0, none⟩) C C)).cell? ⟨K, k, none⟩ := fun k => cell_alloc_lt (by rw [hs]; exact hlK)
  have eN : ((w.setCell ⟨K, n, none⟩ (.slice (some ⟨w.heap.size, 0, none⟩) C C)).alloc (.cells (rowB C) 4)).heap[w.heap.size]? = some (.cells (rowB C) 4) := by
    have h9 := heap_alloc_new (w.setCell ⟨K, n, none⟩ (.slice (some ⟨w.heap.size, 0, none⟩) C C)) (.cells (rowB C) 4)
    rw [hs] at h9; exact h9
  have eR : ∀ i, i < n → ((w.setCell ⟨K, n, none⟩ (.slice (some ⟨w.heap.size, 0, none⟩) C C)).alloc (.cells (rowB C) 4)).heap[rb i]? = w.heap[rb i]? := fun i hi => by
    have h1 := h.gtK i hi
    have h2 := h.lt i hi
    rw [Below.heap_alloc _ _ _ (by rw [hs]; exact h2)]
    exact Below.heap_setCell _ _ _ _ (show rb i ≠ K by omega)
  refine ⟨fun i hi => ?_, fun i hi => ?_, fun i => ?_, fun i j hi hj => ?_, fun i j hi => ?_, fun i hi => ?_, fun i hi => ?_, fun i j hi hj he => ?_, by rw [World.size_alloc, hs]; omega⟩
  · rw [eK]
    by_cases e : i = n
    · subst e
      obtain ⟨v, hv⟩ := h.ex i hn
      rw [World.cell?_setCell_same _ _ _ hv, if_pos rfl]
    · rw [World.cell?_setCell_other _ _ _ _ (addr_ne (by omega)), if_neg e]; exact h.rows i (by omega)
  · rw [eK]
    obtain ⟨v, hv⟩ := h.ex i hi
    by_cases e : i = n
    · subst e; exact ⟨_, World.cell?_setCell_same _ _ _ hv⟩
    · exact ⟨v, by rw [World.cell?_setCell_other _ _ _ _ (addr_ne (by omega))]; exact hv⟩
  · rw [World.frozen?_of_block (w := w.setCell ⟨K, n, none⟩ (.slice (some ⟨w.heap.size, 0, none⟩) C C)) (a := ⟨K, i, none⟩) (Below.heap_alloc _ _ _ (by rw [hs]; exact hlK)), World.frozen?_setCell]; exact h.frK i
  · by_cases e : i = n
    · simp only [if_pos e]
      rw [cell_new j hs.symm]; exact rowB_at hj
    · simp only [if_neg e]
      rw [World.cell?_of_block (w := w) (a := ⟨rb i, j, none⟩) (eR i (by omega))]; exact h.ent i j (by omega) hj
  · by_cases e : i = n
    · simp only [if_pos e]
      exact frozen_of_heap eN j
    · simp only [if_neg e]
      rw [World.frozen?_of_block (w := w) (a := ⟨rb i, j, none⟩) (eR i (by omega))]; exact h.fr i j (by omega)
  · by_cases e : i = n
    · simp only [if_pos e]; exact hlK
    · simp only [if_neg e]; exact h.gtK i (by omega)
  · rw [World.size_alloc, hs]
    by_cases e : i = n
    · simp only [if_pos e]; omega
    · simp only [if_neg e]; have := h.lt i (by omega); omega
  · by_cases e : i = n
    · by_cases e2 : j = n
      · omega
      · simp only [if_pos e, if_neg e2] at he
        have := h.lt j (by omega); omega
    · by_cases e2 : j = n
      · simp only [if_neg e, if_pos e2] at he
        have := h.lt i (by omega); omega
      · simp only [if_neg e, if_neg e2] at he
        exact h.inj i j (by omega) (by omega) he
theorem TT.start (WB : World) (R C : Nat) : TT WB.heap.size R C 0 (fun _ => 0) (WB.alloc (.cells (rowT R) 113)) (fun _ _ => false) := by
  refine ⟨fun i hi => by omega, fun i hi => ?_, fun i => frozen_new i rfl, fun i j hi => by omega, fun i j hi => by omega, fun i hi => by omega, fun i hi => by omega, fun i j hi => by omega, by simp⟩
  rw [cell_new i rfl]
  have h : i < (rowT R).size := by rw [rowT, size_madeCells]; omega
  exact ⟨(rowT R)[i], Array.getElem?_eq_getElem h⟩

end Go.Proofs.Ytbkedppkdhfpoaa

namespace Go.Proofs.Ytbkedppkdhfpoaa
open Go.RowKit

theorem cell_below {w w' : World} {b o : Nat} {v : Value} (hb : Below w.heap.size w w') (h : w.cell? ⟨b, o, none⟩ = some v) : w'.cell? ⟨b, o, none⟩ = some v := by
  rw [hb.cell (p := ⟨b, o, none⟩) (lt_of_cell h)]; exact h
theorem drewB (B : Nat) (w : World) (n : Nat) : Below B w (w.drewN n) := ⟨rfl, rfl, rfl, Nat.le_refl _, fun _ _ => rfl⟩
theorem any_stepR {l : List T} {p : T → Bool} {m : Nat} {c : T} (h : l[m]? = some c) : (l.take (m + 1)).any p = ((l.take m).any p || p c) := by
  rw [List.take_add_one, h]; simp
theorem all_step {l : List T} {p : T → Bool} {m : Nat} {c : T} (h : l[m]? = some c) : (l.take (m + 1)).all p = ((l.take m).all p && p c) := by
  rw [List.take_add_one, h]; simp
theorem drop_at {l : List T} {m : Nat} {c : T} (h : l[m]? = some c) : l.drop m = c :: l.drop (m + 1) := by
  have hlt : m < l.length := by
    rcases Nat.lt_or_ge m l.length with h1 | h1
    · exact h1
    · rw [List.getElem?_eq_none h1] at h; cases h
  rw [List.getElem?_eq_getElem hlt] at h
  simp only [Option.some.injEq] at h
  rw [← h, List.getElem_cons_drop]
theorem firstN_drop {xs ys : List T} {m : Nat} {c d : T} (hx : xs[m]? = some c) (hy : ys[m]? = some d) : firstN gt (xs.drop m) (ys.drop m) = if sameT c d then firstN gt (xs.drop (m + 1)) (ys.drop (m + 1)) else gt c d := by
  rw [drop_at hx, drop_at hy, firstN]
theorem okP_parts {ar : List Int} : ∀ (n : Nat), (∀ t : T, t.sz ≤ n → okP ar t → ∀ p, p ∈ parts t → okP ar p ∧ p.sz ≤ t.sz) ∧ (∀ ts : List T, T.sz.szL ts ≤ n → okP.okL ar ts → ∀ p, p ∈ parts.partsL ts → okP ar p ∧ p.sz ≤ T.sz.szL ts) := by
  intro n
  induction n with
  | zero =>
    refine ⟨fun t h => by have := t.sz_pos; omega, fun ts h _ p hp => ?_⟩
    cases ts with
    | nil => simp [parts.partsL] at hp
    | cons t ts => have := t.sz_pos; rw [T.szL_cons] at h; omega
  | succ n ih =>
    have h1 : ∀ t : T, t.sz ≤ n + 1 → okP ar t → ∀ p, p ∈ parts t → okP ar p ∧ p.sz ≤ t.sz := fun t h hk p hp => by
      have hte := T.sz_eq t
      rw [parts_eq, List.mem_append, List.mem_singleton] at hp
      rcases hp with hp | rfl
      · have := ih.2 t.args (by omega) (okP_iff.1 hk).2 p hp
        exact ⟨this.1, by omega⟩
      · exact ⟨hk, Nat.le_refl _⟩
    refine ⟨h1, fun ts => ?_⟩
    induction ts with
    | nil => intro _ _ p hp; simp [parts.partsL] at hp
    | cons t ts iht =>
      intro h hk p hp
      rw [T.szL_cons] at h ⊢
      rw [partsL_cons, List.mem_append] at hp
      rcases hp with hp | hp
      · have := h1 t (by omega) (okL_cons.1 hk).1 p hp
        exact ⟨this.1, by omega⟩
      · have := iht (by omega) (okL_cons.1 hk).2 p hp
        exact ⟨this.1, by omega⟩

/-- What a round reads. -/
structure Cx (lo1 lo2 K : Nat) (s t x y : T) (i k gs gt' ga gb b1 b2 : Nat) (xla : Option Addr) (xlc : Nat) (lx : List Int) (yla : Option Addr) (ylc : Nat) (ly : List Int) (rb : Nat → Nat) (M : Nat → Nat → Bool) (xa : Option Addr) (xc : Nat) (ya : Option Addr) (yc : Nat) (w : World) : Prop where
  hx : (parts s)[i]? = some x
  hy : (parts t)[k]? = some y
  lxl : lx.length = x.args.length
  lyl : ly.length = y.args.length
  lxm : ∀ (m : Nat) (c : T), x.args[m]? = some c → ∃ j : Nat, lx[m]? = some (j : Int) ∧ j < i ∧ (parts s)[j]? = some c
  lym : ∀ (m : Nat) (c : T), y.args[m]? = some c → ∃ j : Nat, ly[m]? = some (j : Int) ∧ j < k ∧ (parts t)[j]? = some c
  la : w.cell? ⟨ga, i, none⟩ = some (.slice xla lx.length xlc)
  lai : Ints w lx xla
  lb : w.cell? ⟨gb, k, none⟩ = some (.slice yla ly.length ylc)
  lbi : Ints w ly yla
  ps : PartsAt lo1 w gs s
  pt : PartsAt lo2 w gt' t
  tt : TT K s.sz t.sz (i + 1) rb w M
  rt : Right (parts s) (parts t) M i k
  bx : Three w b1 (.int .i64 x.v) (.int .i64 x.f) (.slice xa x.args.length xc)
  bY : Three w b2 (.int .i64 y.v) (.int .i64 y.f) (.slice ya y.args.length yc)
  yi : InL w y.args ya
theorem Cx.below {lo1 lo2 K : Nat} {s t x y : T} {i k gs gt' ga gb b1 b2 : Nat} {xla : Option Addr} {xlc : Nat} {lx : List Int} {yla : Option Addr} {ylc : Nat} {ly : List Int} {rb : Nat → Nat} {M : Nat → Nat → Bool} {xa : Option Addr} {xc : Nat} {ya : Option Addr} {yc : Nat} {w w' : World}
    (h : Cx lo1 lo2 K s t x y i k gs gt' ga gb b1 b2 xla xlc lx yla ylc ly rb M xa xc ya yc w) (hb : Below w.heap.size w w') : Cx lo1 lo2 K s t x y i k gs gt' ga gb b1 b2 xla xlc lx yla ylc ly rb M xa xc ya yc w' :=
  ⟨h.hx, h.hy, h.lxl, h.lyl, h.lxm, h.lym, by rw [hb.cell (p := ⟨ga, i, none⟩) (lt_of_cell h.la)]; exact h.la, Ints_below hb h.lai, by rw [hb.cell (p := ⟨gb, k, none⟩) (lt_of_cell h.lb)]; exact h.lb, Ints_below hb h.lbi,
    h.ps.below hb, h.pt.below hb, h.tt.below hb, h.rt, h.bx.below hb, h.bY.below hb, InP_below hb h.yi⟩
/-- Argument m of x: where it lies, and what the table says of it. -/
theorem Cx.argX {lo1 lo2 K : Nat} {s t x y : T} {i k gs gt' ga gb b1 b2 : Nat} {xla : Option Addr} {xlc : Nat} {lx : List Int} {yla : Option Addr} {ylc : Nat} {ly : List Int} {rb : Nat → Nat} {M : Nat → Nat → Bool} {xa : Option Addr} {xc : Nat} {ya : Option Addr} {yc : Nat} {w : World}
    (h : Cx lo1 lo2 K s t x y i k gs gt' ga gb b1 b2 xla xlc lx yla ylc ly rb M xa xc ya yc w) {m : Nat} {c : T} (hc : x.args[m]? = some c) :
    ∃ (j b off : Nat) (ca : Option Addr) (cc : Nat), xla = some ⟨b, off, none⟩ ∧ w.cell? ⟨b, off + m, none⟩ = some (.int .i64 (j : Int)) ∧ j < i ∧ (parts s)[j]? = some c ∧ w.cell? ⟨gs, j * 3, none⟩ = some (.int .i64 c.v) ∧ w.cell? ⟨gs, j * 3 + 1, none⟩ = some (.int .i64 c.f) ∧ w.cell? ⟨gs, j * 3 + 2, none⟩ = some (.slice ca c.args.length cc) ∧ InL w c.args ca ∧
      w.cell? ⟨K, j, none⟩ = some (.slice (some ⟨rb j, 0, none⟩) t.sz t.sz) ∧ (∀ k' z, (parts t)[k']? = some z → k' < t.sz → w.cell? ⟨rb j, k', none⟩ = some (.bool (gt c z))) := by
  obtain ⟨j, hj1, hj2, hj3⟩ := h.lxm m c hc
  have hm : m < lx.length := by
    rcases Nat.lt_or_ge m lx.length with h1 | h1
    · exact h1
    · rw [List.getElem?_eq_none h1] at hj1; cases hj1
  obtain ⟨b, off, e1, hcell⟩ := Ints_some h.lai (by omega)
  obtain ⟨ca, cc, p0, p1, p2, pin⟩ := h.ps.2 j c hj3
  refine ⟨j, b, off, ca, cc, e1, ?_, hj2, hj3, p0, p1, p2, InP_imp (fun _ _ => trivial) pin, h.tt.rows j (by omega), fun k' z hz hk' => ?_⟩
  · have h2 := hcell m hm
    rw [List.getD_eq_getElem?_getD, hj1] at h2
    exact h2
  · rw [h.tt.ent j k' (by omega) hk', h.rt j k' c z hj3 hz (Or.inl hj2)]
/-- Argument m of y. -/
theorem Cx.argY {lo1 lo2 K : Nat} {s t x y : T} {i k gs gt' ga gb b1 b2 : Nat} {xla : Option Addr} {xlc : Nat} {lx : List Int} {yla : Option Addr} {ylc : Nat} {ly : List Int} {rb : Nat → Nat} {M : Nat → Nat → Bool} {xa : Option Addr} {xc : Nat} {ya : Option Addr} {yc : Nat} {w : World}
    (h : Cx lo1 lo2 K s t x y i k gs gt' ga gb b1 b2 xla xlc lx yla ylc ly rb M xa xc ya yc w) {m : Nat} {c : T} (hc : y.args[m]? = some c) (hk : k < t.sz) :
    ∃ (j b off : Nat) (ca : Option Addr) (cc : Nat), yla = some ⟨b, off, none⟩ ∧ w.cell? ⟨b, off + m, none⟩ = some (.int .i64 (j : Int)) ∧ j < k ∧ (parts t)[j]? = some c ∧ w.cell? ⟨gt', j * 3, none⟩ = some (.int .i64 c.v) ∧ w.cell? ⟨gt', j * 3 + 1, none⟩ = some (.int .i64 c.f) ∧ w.cell? ⟨gt', j * 3 + 2, none⟩ = some (.slice ca c.args.length cc) ∧ InL w c.args ca ∧
      w.cell? ⟨K, i, none⟩ = some (.slice (some ⟨rb i, 0, none⟩) t.sz t.sz) ∧ w.cell? ⟨rb i, j, none⟩ = some (.bool (gt x c)) := by
  obtain ⟨j, hj1, hj2, hj3⟩ := h.lym m c hc
  have hm : m < ly.length := by
    rcases Nat.lt_or_ge m ly.length with h1 | h1
    · exact h1
    · rw [List.getElem?_eq_none h1] at hj1; cases hj1
  obtain ⟨b, off, e1, hcell⟩ := Ints_some h.lbi (by omega)
  obtain ⟨ca, cc, p0, p1, p2, pin⟩ := h.pt.2 j c hj3
  refine ⟨j, b, off, ca, cc, e1, ?_, hj2, hj3, p0, p1, p2, InP_imp (fun _ _ => trivial) pin, h.tt.rows i (by omega), ?_⟩
  · have h2 := hcell m hm
    rw [List.getD_eq_getElem?_getD, hj1] at h2
    exact h2
  · rw [h.tt.ent i j (by omega) (by omega), h.rt i j x c h.hx hj3 (Or.inr ⟨rfl, hj2⟩)]

end Go.Proofs.Ytbkedppkdhfpoaa

namespace Go.Proofs.Ytbkedppkdhfpoaa
open Go.RowKit

/-- Bindings lie one behind the other from an address on, four cells each, in blocks of which p holds. -/
def Binds (p : Nat → Prop) (w : World) : List (Int × T) → Option Addr → Prop
  | [], _ => True
  | x :: bs, a => ∃ b off a1 cap, a = some ⟨b, off, none⟩ ∧ p b ∧ w.cell? ⟨b, off, none⟩ = some (.int .i64 x.1) ∧ w.cell? ⟨b, off + 1, none⟩ = some (.int .i64 x.2.v) ∧ w.cell? ⟨b, off + 2, none⟩ = some (.int .i64 x.2.f) ∧ w.cell? ⟨b, off + 3, none⟩ = some (.slice a1 x.2.args.length cap) ∧ InP p w x.2.args a1 ∧ Binds p w bs (some ⟨b, off + 4, none⟩)
theorem Binds_some {p : Nat → Prop} {w : World} {bs : List (Int × T)} {a : Option Addr} (h : Binds p w bs a) (hp : 0 < bs.length) : ∃ b off, a = some ⟨b, off, none⟩ := by
  cases bs with
  | nil => simp at hp
  | cons x bs => obtain ⟨b, off, _, _, rfl, _⟩ := h; exact ⟨b, off, rfl⟩
theorem Binds_mono {p q : Nat → Prop} {w w' : World} (hs : ∀ b o v, p b → w.cell? ⟨b, o, none⟩ = some v → q b ∧ w'.cell? ⟨b, o, none⟩ = some v) : ∀ {bs : List (Int × T)} {a : Option Addr}, Binds p w bs a → Binds q w' bs a := by
  intro bs
  induction bs with
  | nil => intro a _; trivial
  | cons x bs ih =>
    intro a h
    obtain ⟨b, off, a1, cap, rfl, hp, h0, h1, h2, h3, hin, hr⟩ := h
    exact ⟨b, off, a1, cap, rfl, (hs _ _ _ hp h0).1, (hs _ _ _ hp h0).2, (hs _ _ _ hp h1).2, (hs _ _ _ hp h2).2, (hs _ _ _ hp h3).2, InP_mono hs _ _ _ (Nat.le_refl _) hin, ih hr⟩
theorem Binds_below {p : Nat → Prop} {w w' : World} {bs : List (Int × T)} {a : Option Addr} (hb : Below w.heap.size w w') (h : Binds p w bs a) : Binds p w' bs a :=
  Binds_mono (fun _ _ _ hp hv => ⟨hp, cell_below hb hv⟩) h
theorem Binds_imp {p q : Nat → Prop} {w : World} {bs : List (Int × T)} {a : Option Addr} (hpq : ∀ k, p k → q k) (h : Binds p w bs a) : Binds q w bs a :=
  Binds_mono (fun _ _ _ hp hv => ⟨hpq _ hp, hv⟩) h
theorem Binds_lt {p : Nat → Prop} {w : World} {bs : List (Int × T)} {a : Option Addr} (h : Binds p w bs a) : Binds (fun k => p k ∧ k < w.heap.size) w bs a :=
  Binds_mono (fun _ _ _ hp hv => ⟨⟨hp, lt_of_cell hv⟩, hv⟩) h
/-- The binding at index k: its four cells. -/
theorem Binds_at {p : Nat → Prop} {w : World} : ∀ {bs : List (Int × T)} {b off k : Nat} {x : Int × T}, Binds p w bs (some ⟨b, off, none⟩) → bs[k]? = some x →
    ∃ a cap, p b ∧ w.cell? ⟨b, off + k * 4, none⟩ = some (.int .i64 x.1) ∧ w.cell? ⟨b, off + k * 4 + 1, none⟩ = some (.int .i64 x.2.v) ∧ w.cell? ⟨b, off + k * 4 + 2, none⟩ = some (.int .i64 x.2.f) ∧ w.cell? ⟨b, off + k * 4 + 3, none⟩ = some (.slice a x.2.args.length cap) ∧ InP p w x.2.args a := by
  intro bs
  induction bs with
  | nil => intro b off k x _ h; simp at h
  | cons y bs ih =>
    intro b off k x h hk
    obtain ⟨b', off', a1, cap, hb, hp, h0, h1, h2, h3, hin, hr⟩ := h
    simp only [Option.some.injEq, Addr.mk.injEq] at hb
    obtain ⟨rfl, rfl, _⟩ := hb
    cases k with
    | zero =>
      simp at hk; subst hk
      exact ⟨a1, cap, hp, by simpa using h0, by simpa using h1, by simpa using h2, by simpa using h3, hin⟩
    | succ k =>
      simp at hk
      obtain ⟨a, c, _, g0, g1, g2, g3, gl⟩ := ih hr hk
      have e : off + (k + 1) * 4 = off + 4 + k * 4 := by omega
      exact ⟨a, c, hp, by rw [e]; exact g0, by rw [e]; exact g1, by rw [e]; exact g2, by rw [e]; exact g3, gl⟩

/-- Which binding a variable has, counted from n on; -1: none. -/
def idxB (v : Int) : List (Int × T) → Nat → Int
  | [], _ => -1
  | x :: bs, n => if x.1 = v then n else idxB v bs (n + 1)
theorem idxB_none {v : Int} : ∀ {bs : List (Int × T)} {n : Nat}, lookB bs v = none → idxB v bs n = -1 := by
  intro bs
  induction bs with
  | nil => intro n _; rfl
  | cons x bs ih =>
    intro n h
    obtain ⟨w, u⟩ := x
    rw [lookB] at h
    by_cases e : w = v
    · rw [if_pos e] at h; cases h
    · rw [if_neg e] at h
      rw [idxB, if_neg e]; exact ih h
theorem idxB_some {v : Int} {u : T} : ∀ {bs : List (Int × T)} {n : Nat}, lookB bs v = some u → ∃ k : Nat, idxB v bs n = ((n + k : Nat) : Int) ∧ k < bs.length ∧ bs[k]? = some (v, u) := by
  intro bs
  induction bs with
  | nil => intro n h; cases h
  | cons x bs ih =>
    intro n h
    obtain ⟨w, u'⟩ := x
    rw [lookB] at h
    by_cases e : w = v
    · rw [if_pos e] at h
      simp only [Option.some.injEq] at h
      exact ⟨0, by rw [idxB, if_pos e]; rfl, by simp, by rw [e, h]; rfl⟩
    · rw [if_neg e] at h
      obtain ⟨k, h1, h2, h3⟩ := ih (n := n + 1) h
      exact ⟨k + 1, by rw [idxB, if_neg e, h1]; congr 1; omega, by simp; omega, by simpa using h3⟩
theorem idxB_step {v : Int} {bs : List (Int × T)} {k : Nat} {x : Int × T} (hx : bs[k]? = some x) : idxB v (bs.drop k) k = if x.1 = v then (k : Int) else idxB v (bs.drop (k + 1)) (k + 1) := by
  have hlt : k < bs.length := by
    rcases Nat.lt_or_ge k bs.length with h1 | h1
    · exact h1
    · rw [List.getElem?_eq_none h1] at hx; cases hx
  have e : bs.drop k = x :: bs.drop (k + 1) := by
    rw [List.getElem?_eq_getElem hlt] at hx
    simp only [Option.some.injEq] at hx
    rw [← hx, List.getElem_cons_drop]
  rw [e, idxB]

theorem Try.underlying51 : Try.prog.underlying 51 = some (.slice 95) := by kernel_rfl
set_option maxRecDepth 100000 in
set_option maxHeartbeats 1000000 in
theorem boundTo_any (bs : List (Int × T)) (a : Option Addr) (cap : Nat) (v : Int) (w : World) (p : Nat → Prop) (hl : bs.length ≤ 9223372036854775807) (hin : Binds p w bs a) :
    Calls Try.prog 70 #[.slice a bs.length cap, .int .i64 v] w fun e w' => e = .returned (.int .i64 (idxB v bs 0)) ∧ w' = w := by
  go_enter Try.func70, Try.ntmps70
  go_wp2_with fail
  go_loop [5] (fun i => ∃ k : Nat, k ≤ bs.length ∧ i = .int .i64 k ∧ Hid (idxB v bs 0 = idxB v (bs.drop k) k)) (fun i => bs.length - (intOf i).toNat)
  case atStart => exact ⟨0, Nat.zero_le _, rfl, rfl⟩
  case round =>
    obtain ⟨k, hk, rfl, HS⟩ := hrel
    by_cases hlt : k < bs.length
    · obtain ⟨b, off, rfl⟩ := Binds_some hin (by omega)
      obtain ⟨x, hx⟩ : ∃ x, bs[k]? = some x := ⟨bs[k], List.getElem?_eq_getElem hlt⟩
      obtain ⟨_, _, _, k0, _, _, _, _⟩ := Binds_at hin hx
      have hkI : (k : Int) < bs.length := by omega
      have hk0 : (0 : Int) ≤ k := by omega
      have HS2 := hide (HS.out.trans (idxB_step hx))
      clear hx HS
      by_cases hv : x.1 = v
      · have e0 : (x.1 == v) = true := by simpa using hv
        rw [if_pos hv] at HS2
        clear hv
        go_wp2_with fail
        go_ret
        exact ⟨ret_int HS2.out.symm, rfl⟩
      · have e0 : (x.1 == v) = false := by simpa using hv
        rw [if_neg hv] at HS2
        clear hv
        go_wp2_with fail
        go_round
        case rel => exact ⟨k + 1, by omega, by go_num, HS2.out⟩
        case measure => simp [intOf]; omega
    · have hk2 : k = bs.length := by omega
      subst hk2
      have HS2 : Hid (idxB v bs 0 = -1) := by show _ = _; rw [HS.out, List.drop_length]; rfl
      go_wp2_with fail
      go_ret
      exact ⟨ret_int HS2.out.symm, rfl⟩

end Go.Proofs.Ytbkedppkdhfpoaa

namespace Go.Proofs.Ytbkedppkdhfpoaa
open Go.RowKit

/-- What is wrong with bindings behind one of a variable. -/
def bindErr (ar : List Int) : Int → List (Int × T) → Int
  | _, [] => 0
  | last, x :: bs => if x.1 < 1 ∨ 1000 < x.1 then 3 else if x.1 ≤ last then 4 else if termErr ar x.2 = 0 then bindErr ar x.1 bs else termErr ar x.2
def bindsErr (ar : List Int) (bs : List (Int × T)) : Int := if sigErr ar = 0 then bindErr ar 0 bs else sigErr ar
/-- The variable ahead of the k-th binding. -/
def lastB (bs : List (Int × T)) (k : Nat) : Int := if k = 0 then 0 else ((bs[k - 1]?).map (·.1)).getD 0
theorem lastB_succ {bs : List (Int × T)} {k : Nat} {x : Int × T} (hx : bs[k]? = some x) : lastB bs (k + 1) = x.1 := by
  rw [lastB, if_neg (by omega), Nat.add_sub_cancel, hx]; rfl
theorem bindErr_step {ar : List Int} {last : Int} {bs : List (Int × T)} {k : Nat} {x : Int × T} (hx : bs[k]? = some x) : bindErr ar last (bs.drop k) = if x.1 < 1 ∨ 1000 < x.1 then 3 else if x.1 ≤ last then 4 else if termErr ar x.2 = 0 then bindErr ar x.1 (bs.drop (k + 1)) else termErr ar x.2 := by
  have hlt : k < bs.length := by
    rcases Nat.lt_or_ge k bs.length with h1 | h1
    · exact h1
    · rw [List.getElem?_eq_none h1] at hx; cases hx
  have e : bs.drop k = x :: bs.drop (k + 1) := by
    rw [List.getElem?_eq_getElem hlt] at hx
    simp only [Option.some.injEq] at hx
    rw [← hx, List.getElem_cons_drop]
  rw [e, bindErr]
theorem bindErr_ok {ar : List Int} : ∀ {bs : List (Int × T)} {last : Int}, bindErr ar last bs = 0 → ∀ v u, (v, u) ∈ bs → 1 ≤ v ∧ v ≤ 1000 ∧ u.sz ≤ 120 ∧ okP ar u := by
  intro bs
  induction bs with
  | nil => intro last _ v u h; cases h
  | cons x bs ih =>
    intro last h v u hm
    rw [bindErr] at h
    by_cases h1 : x.1 < 1 ∨ 1000 < x.1
    · rw [if_pos h1] at h; cases h
    · rw [if_neg h1] at h
      by_cases h2 : x.1 ≤ last
      · rw [if_pos h2] at h; cases h
      · rw [if_neg h2] at h
        by_cases h3 : termErr ar x.2 = 0
        · rw [if_pos h3] at h
          rcases List.mem_cons.1 hm with e | hm
          · subst e
            exact ⟨by omega, by omega, (termErr_iff.1 h3).1, (termErr_iff.1 h3).2⟩
          · exact ih h v u hm
        · rw [if_neg h3] at h; exact absurd h h3

attribute [local go_sem ↓] Go.wp_at_zero Go.wp_at_succ
set_option maxRecDepth 100000 in
set_option maxHeartbeats 1000000 in
theorem refCheckBindings_any (ar : List Int) (ga : Option Addr) (gcap : Nat) (bs : List (Int × T)) (a : Option Addr) (cap : Nat) (w : World) (p : Nat → Prop) (hl : bs.length ≤ 9223372036854775807) (hg : Ints w ar ga) (hin : Binds p w bs a) :
    Calls Try.prog 30 #[.agg #[.slice ga ar.length gcap], .slice a bs.length cap] w fun e w' => e = .returned (.int .i64 (bindsErr ar bs)) ∧ Below w.heap.size w w' := by
  go_enter Try.func30, Try.ntmps30
  go_wp2_with fail
  refine (checkSignature_any ar ga gcap _ (Ints_alloc _ hg)).mono ?_
  rintro e w1 ⟨rfl, hb1⟩
  have hz1 : w.heap.size < w1.heap.size := by have := hb1.size; simp at this; omega
  have hbw : Below w.heap.size w w1 := (below1 _ _).trans (hb1.mono (by simp))
  have cg : w1.cell? ⟨w.heap.size, 0, none⟩ = some (.slice ga ar.length gcap) := by
    rw [hb1.cell (p := ⟨w.heap.size, 0, none⟩) (by simp), cell_new _ rfl]; rfl
  clear hb1
  by_cases hs : sigErr ar = 0
  · have hgl := sig_len hs
    have hfin : bindsErr ar bs = bindErr ar 0 bs := by rw [bindsErr, if_pos hs]
    have Hfin := hide hfin
    rw [hs]
    clear hfin hs
    go_wp2_with fail
    go_loopw [5, 6] (fun e i wr => ∃ (k : Nat) (ek : Int), k ≤ bs.length ∧ i = .int .i64 k ∧ e = .int .i64 ek ∧ Hid ((ek = 0 → bindErr ar 0 bs = bindErr ar (lastB bs k) (bs.drop k)) ∧ (ek ≠ 0 → bindErr ar 0 bs = ek)) ∧ Below w1.heap.size w1 wr) (fun _ i _ => bs.length - (intOf i).toNat)
    case atStart => exact ⟨0, 0, Nat.zero_le _, rfl, rfl, ⟨fun _ => rfl, fun h => absurd rfl h⟩, Below.refl _ _⟩
    case round =>
      obtain ⟨k, ek, hk, rfl, rfl, HL, hb⟩ := hrel
      have hzr := hb.size
      by_cases hlt : k < bs.length
      · by_cases hek : ek = 0
        · subst hek
          have hin' := Binds_below hb (Binds_below hbw hin)
          have hg' := Ints_below hb (Ints_below hbw hg)
          obtain ⟨b, off, rfl⟩ := Binds_some hin (by omega)
          obtain ⟨x, hx⟩ : ∃ x, bs[k]? = some x := ⟨bs[k], List.getElem?_eq_getElem hlt⟩
          obtain ⟨a1, cap1, _, c0, c1, c2, c3, hin1⟩ := Binds_at hin' hx
          have Hst := hide ((HL.out.1 rfl).trans (bindErr_step hx))
          have Hls := hide (lastB_succ hx)
          have cg' : wr.cell? ⟨w.heap.size, 0, none⟩ = some (.slice ga ar.length gcap) := cell_below hb cg
          have hkI : (k : Int) < bs.length := by omega
          have hk0 : (0 : Int) ≤ k := by omega
          have hbR : Below w.heap.size w wr := hbw.trans (hb.mono (by omega))
          by_cases h1 : x.1 < 1 ∨ 1000 < x.1
          · rw [if_pos h1] at Hst
            have H1 : Hid (¬ (1 ≤ x.1 ∧ x.1 ≤ 1000)) := fun h => by omega
            clear h1 hx HL
            go_wp2_with (go_at_call 63; refine (between_no _ _ _ _ H1.out).mono ?_; rintro e w' ⟨rfl, rfl⟩)
            go_ret
            exact ⟨ret_int (by rw [Hfin.out, Hst.out]), hbR⟩
          · rw [if_neg h1] at Hst
            have H1 : Hid (1 ≤ x.1 ∧ x.1 ≤ 1000) := ⟨by omega, by omega⟩
            clear h1
            have hS := hide (fun (w' : World) (hbb : Below wr.heap.size wr w') => (show w'.cell? ⟨w.heap.size, 0, none⟩ = some (.slice ga ar.length gcap) ∧ w'.cell? ⟨b, off + k * 4 + 1, none⟩ = some (.int .i64 x.2.v) ∧ w'.cell? ⟨b, off + k * 4 + 1 + 1, none⟩ = some (.int .i64 x.2.f) ∧ w'.cell? ⟨b, off + k * 4 + 1 + 2, none⟩ = some (.slice a1 x.2.args.length cap1) from ⟨cell_below hbb cg', cell_below hbb c1, cell_below hbb c2, cell_below hbb c3⟩))
            have HL0 : Hid (k = 0 → lastB bs k = 0) := fun h => by rw [h]; rfl
            have Hx1 : Hid (∀ (k' : Nat), k = k' + 1 → ∃ y0, wr.cell? ⟨b, off + k' * 4, none⟩ = some (.int .i64 y0) ∧ lastB bs k = y0) := fun k' e => by
              obtain ⟨y, hy⟩ : ∃ y, bs[k']? = some y := ⟨bs[k']'(by omega), List.getElem?_eq_getElem _⟩
              obtain ⟨_, _, _, d0, _⟩ := Binds_at hin' hy
              exact ⟨y.1, d0, by rw [e, lastB_succ hy]⟩
            have Hin1 := hide (InP_imp (q := fun _ => True) (fun _ _ => trivial) hin1)
            clear hx HL hin hin' hin1
            go_upto_region 7 with (go_at_call 63; refine (between_yes _ _ _ _ H1.out.1 H1.out.2).mono ?_; rintro e w' ⟨rfl, hw'⟩; obtain rfl := hw'.symm; clear hw')
            go_cut [41] (fun v41 wc => v41 = .bool (decide (x.1 ≤ lastB bs k)) ∧ Hid (Below wr.heap.size wr wc))
            case first =>
              by_cases hk1 : 0 < k
              · obtain ⟨k', rfl⟩ : ∃ k', k = k' + 1 := ⟨k - 1, by omega⟩
                obtain ⟨y0, d0, hy0⟩ := Hx1.out k' rfl
                have hk'I : (k' : Int) < bs.length := by omega
                have hk'0 : (0 : Int) ≤ k' := by omega
                have hd1 : decide ((0 : Int) < (k' : Int) + 1) = true := decide_eq_true (by omega)
                have Hy0 := hide hy0
                clear Hx1 HL0 hy0 hk1
                go_wp2_with fail
                go_quiet (fail)
                go_wp2_with fail
                go_meet
                exact ⟨by rw [Hy0.out], drewB _ _ _⟩
              · obtain rfl : k = 0 := by omega
                have Hl0 := hide (HL0.out rfl)
                clear Hx1 HL0 hk1
                go_wp2_with fail
                go_quiet (fail)
                go_wp2_with fail
                go_meet
                exact ⟨by rw [Hl0.out, decide_eq_false (by have := H1.out; omega)], drewB _ _ _⟩
            case rest =>
              obtain ⟨rfl, HBc⟩ := hcut
              have hzc := HBc.out.size
              by_cases h2 : x.1 ≤ lastB bs k
              · rw [if_pos h2] at Hst
                rw [decide_eq_true h2]
                clear h2
                go_wp2_with fail
                go_ret
                exact ⟨ret_int (by rw [Hfin.out, Hst.out]), hbR.trans (HBc.out.mono hbR.size)⟩
              · rw [if_neg h2] at Hst
                rw [decide_eq_false h2]
                have hSc := hide (fun (w' : World) (hbb : Below wc.heap.size wc w') => hS.out w' (HBc.out.trans (hbb.mono hzc)))
                have Hgc := hide (Ints_below HBc.out hg')
                have Hic := hide (InP_below HBc.out Hin1.out)
                clear h2 c0 c1 c2 c3 cg' hS
                go_wp2_with fail
                go_region_held3 (fun w' => w'.cell? ⟨w.heap.size, 0, none⟩ = some (.slice ga ar.length gcap) ∧ w'.cell? ⟨b, off + k * 4 + 1, none⟩ = some (.int .i64 x.2.v) ∧ w'.cell? ⟨b, off + k * 4 + 1 + 1, none⟩ = some (.int .i64 x.2.f) ∧ w'.cell? ⟨b, off + k * 4 + 1 + 2, none⟩ = some (.slice a1 x.2.args.length cap1)) ((first | (refine hSc.out _ ?_; (repeat' (first | with_reducible exact Hid.out ‹Hid (Below _ _ _)› | with_reducible exact Below.refl _ _ | (with_reducible refine Below.drew ?_))); done) | go_keep)) ((first
                  | (go_at_call 31
                     refine (refCheckTerm_any ar ga gcap x.2 a1 cap1 _ ?_ hgl ?_).mono ?_
                     · exact Ints_below (w := wc) ⟨rfl, rfl, rfl, Nat.le_refl _, fun _ _ => rfl⟩ Hgc.out
                     · exact InP_heap (w := wc) rfl Hic.out
                     rintro e w3 ⟨rfl, hb3⟩
                     have Hbb : Hid (Below wc.heap.size wc w3) := below_undrew hb3)))
                have hb4 : Below w1.heap.size w1 w3 := hb.trans ((HBc.out.trans (Hbb.out.mono hzc)).mono hzr)
                have Hrel : Hid ((termErr ar x.2 = 0 → bindErr ar 0 bs = bindErr ar (lastB bs (k + 1)) (bs.drop (k + 1))) ∧ (termErr ar x.2 ≠ 0 → bindErr ar 0 bs = termErr ar x.2)) := ⟨fun h => by rw [Hst.out, if_pos h, Hls.out], fun h => by rw [Hst.out, if_neg h]⟩
                clear Hst Hls
                go_wp2_with fail
                go_roundw
                case rel => exact ⟨k + 1, _, by omega, by go_num, rfl, Hrel, hb4⟩
                case measure => simp [intOf]; omega
        · have hek' : (ek == 0) = false := by simpa using hek
          have He := hide (HL.out.2 hek)
          clear hek
          go_wp2_with fail
          go_ret
          exact ⟨ret_int (by rw [Hfin.out, He.out]), hbw.trans (hb.mono (by omega))⟩
      · have hlt' : ¬ (k : Int) < bs.length := by omega
        have hk2 : k = bs.length := by omega
        have Hek : Hid (bindErr ar 0 bs = ek) := by
          show _ = _
          by_cases h0 : ek = 0
          · rw [HL.out.1 h0, hk2, List.drop_length, h0]; rfl
          · exact HL.out.2 h0
        go_wp2_with fail
        go_ret
        exact ⟨ret_int (by rw [Hfin.out, Hek.out]), hbw.trans (hb.mono (by omega))⟩
  · have hfin : bindsErr ar bs = sigErr ar := by rw [bindsErr, if_neg hs]
    have Hfin := hide hfin
    have hs1 : (sigErr ar == 0) = false := by simpa using hs
    clear hfin hs
    generalize sigErr ar = sg at *
    go_wp2_with fail
    refine wp_loop_rounds 1 ?_
    rw [rounds_succ]
    by_cases h0 : 0 < bs.length
    · have h0' : (0 : Int) < bs.length := by omega
      go_wp2_with fail
      go_ret
      exact ⟨ret_int Hfin.out.symm, hbw⟩
    · have h0' : ¬ (0 : Int) < bs.length := by omega
      go_wp2_with fail
      go_ret
      exact ⟨ret_int Hfin.out.symm, hbw⟩

end Go.Proofs.Ytbkedppkdhfpoaa

namespace Go.Proofs.Ytbkedppkdhfpoaa
open Go.RowKit Go.Maps

theorem Try.key3 : Keyed Try.prog 3 := int_keyed Try.underlying3
/-- An element is what it is. -/
def Rv : Value → Option (DataW Value × List MemPlace) := fun v => some (.held v, [])
theorem key_int {k : Int} (h0 : -9223372036854775808 ≤ k) (h1 : k ≤ 9223372036854775807) : keyOf Try.prog 3 (.int .i64 k) = some (.int .i64 k) :=
  keyOf_int_mk Try.underlying3 (WalkArith.wf_i64 (by omega))

/-- Block b is a map of at most n entries that holds f's values. -/
def MapAt (w : World) (b n : Nat) (f : Int → Option Value) : Prop :=
  ∃ D : DataW Value, w.ownsMap Try.prog 3 Rv b n D ∧ ∀ k : Int, Maps.has D (.int .i64 k) = (f k).isSome ∧ ∀ v, f k = some v → ∀ z, D.atKey (.int .i64 k) z = .held v
theorem MapAt.lt {w : World} {b n : Nat} {f : Int → Option Value} (h : MapAt w b n f) : b < w.heap.size := by obtain ⟨D, hD, _⟩ := h; exact hD.lt
theorem MapAt.mono {w : World} {b n m : Nat} {f : Int → Option Value} (h : MapAt w b n f) (hm : n ≤ m) : MapAt w b m f := by obtain ⟨D, hD, hf⟩ := h; exact ⟨D, hD.mono hm, hf⟩
theorem MapAt.same {w w' : World} {b n : Nat} {f : Int → Option Value} (h : MapAt w b n f) (hs : w'.heap[b]? = w.heap[b]?) : MapAt w' b n f := by
  obtain ⟨D, ⟨es, clock, h1, h2⟩, hf⟩ := h
  exact ⟨D, ⟨es, clock, hs.trans h1, h2⟩, hf⟩
theorem MapAt.below {w w' : World} {b n : Nat} {f : Int → Option Value} (h : MapAt w b n f) (hb : Below w.heap.size w w') : MapAt w' b n f := h.same (hb.block b h.lt)
theorem MapAt.made (w : World) : MapAt (w.alloc (.map #[] 0)) w.heap.size 0 (fun _ => none) :=
  ⟨.map [], World.ownsMap_made w Try.prog 3 Rv, fun k => ⟨rfl, fun v h => by cases h⟩⟩
/-- 'v, ok := m[k]' -/
theorem MapAt.look_ok {w : World} {b n : Nat} {f : Int → Option Value} (h : MapAt w b n f) {t e : TypeId} (ht : Try.prog.underlying t = some (.map 3 e)) {z : Value} (hz : (zeroValue e).run Try.prog w = .ok z w) {k : Int} (h0 : -9223372036854775808 ≤ k) (h1 : k ≤ 9223372036854775807) :
    (Instr.lookup t (.map (some b)) (.int .i64 k) true).run Try.prog w = .ok (.tuple #[(f k).getD z, .bool (f k).isSome]) w := by
  obtain ⟨D, hD, hf⟩ := h
  obtain ⟨v, ps, hrun, hv⟩ := hD.look_ok Try.key3 ht hz (zd := .held z) (zp := []) rfl (key_int h0 h1)
  obtain ⟨g1, g2⟩ := hf k
  rw [g1] at hrun
  rw [hrun]
  simp only [Rv, Option.some.injEq, Prod.mk.injEq] at hv
  cases hfk : f k with
  | some u =>
    rw [g2 u hfk] at hv
    have : v = u := by simpa using hv.1
    rw [this]; rfl
  | none =>
    rw [hfk] at g1
    rw [Maps.atKey_of_not_has g1] at hv
    have : v = z := by simpa using hv.1
    rw [this]; rfl
/-- 'm[k]' -/
theorem MapAt.look {w : World} {b n : Nat} {f : Int → Option Value} (h : MapAt w b n f) {t e : TypeId} (ht : Try.prog.underlying t = some (.map 3 e)) {z : Value} (hz : (zeroValue e).run Try.prog w = .ok z w) {k : Int} (h0 : -9223372036854775808 ≤ k) (h1 : k ≤ 9223372036854775807) :
    (Instr.lookup t (.map (some b)) (.int .i64 k) false).run Try.prog w = .ok ((f k).getD z) w := by
  obtain ⟨D, hD, hf⟩ := h
  obtain ⟨v, ps, hrun, hv⟩ := hD.lookup Try.key3 ht hz (zd := .held z) (zp := []) rfl (key_int h0 h1)
  obtain ⟨g1, g2⟩ := hf k
  rw [hrun]
  simp only [Rv, Option.some.injEq, Prod.mk.injEq] at hv
  cases hfk : f k with
  | some u =>
    rw [g2 u hfk] at hv
    have : v = u := by simpa using hv.1
    rw [this]; rfl
  | none =>
    rw [hfk] at g1
    rw [Maps.atKey_of_not_has g1] at hv
    have : v = z := by simpa using hv.1
    rw [this]; rfl
/-- 'm[k] = v' -/
theorem MapAt.store {w : World} {b n : Nat} {f : Int → Option Value} (h : MapAt w b n f) {t e : TypeId} (ht : Try.prog.underlying t = some (.map 3 e)) (hn : n < maxLen) {k : Int} (h0 : -9223372036854775808 ≤ k) (h1 : k ≤ 9223372036854775807) (v : Value) :
    ∃ w', (Instr.mapUpdate t (.map (some b)) (.int .i64 k) v).run Try.prog w = .ok () w' ∧ MapAt w' b (n + 1) (fun j => if j = k then some v else f j) ∧ w.grownBy w' (some b) := by
  obtain ⟨D, hD, hf⟩ := h
  obtain ⟨w', hrun, hD', hg⟩ := hD.update Try.key3 ht hn (key_int h0 h1) (val := v) (d := .held v) (ps := []) rfl
  refine ⟨w', hrun, ⟨_, hD', fun j => ?_⟩, hg⟩
  by_cases e : j = k
  · subst e
    have hkl : WideAt.IsKeyLit (Lit.int .i64 j) := trivial
    simp only [if_pos]
    refine ⟨by rw [Maps.has_put_same hD.isMap hkl]; rfl, fun u hu z => ?_⟩
    rw [Maps.atKey_put_same hD.isMap hkl]
    simpa using hu
  · have hne : (Lit.int .i64 j) ≠ (Lit.int .i64 k) := fun e' => e (by injection e')
    simp only [if_neg e]
    refine ⟨by rw [Maps.has_put_other hne]; exact (hf j).1, fun u hu z => ?_⟩
    rw [Maps.atKey_put_other hne]
    exact (hf j).2 u hu z

end Go.Proofs.Ytbkedppkdhfpoaa

namespace Go.Proofs.Ytbkedppkdhfpoaa
open Go.RowKit Go.Maps

theorem Try.underlying92 : Try.prog.underlying 92 = some (.map 3 27) := by kernel_rfl
/-- 'm[k] = v' at the operation. -/
theorem wpList_store_map (w : World) {ops : Array Oper} {rest : List Oper} {o : Oper} {a : Act} {Q : Exit → Act → World → Prop} (hg : o.guard = none) (m x v : Operand) (t : TypeId) (hop : o.op = Op.mapUpdate t m x v)
    (e : TypeId) (ht : Try.prog.underlying t = some (.map 3 e)) (b n : Nat) (f : Int → Option Value) (hm : a.eval m = .map (some b)) (hM : MapAt w b n f) (hn : n < maxLen) (k : Int) (val : Value) (hx : a.eval x = .int .i64 k) (hv : a.eval v = val) (h0 : -9223372036854775808 ≤ k) (h1 : k ≤ 9223372036854775807)
    (hK : ∀ w', MapAt w' b (n + 1) (fun j => if j = k then some val else f j) → w.grownBy w' (some b) → wpList Try.prog ops Q rest (a.put o.dst undef) w') : wpList Try.prog ops Q (o :: rest) a w := by
  refine wpList_plain hg fun K' hK' => ?_
  obtain ⟨w', hrun, r1, r2⟩ := hM.store ht hn h0 h1 val
  unfold Oper.wp
  simp [execOp, hop, hm, hx, hv, hrun, Result.andThen]
  exact hK' _ _ (hK w' r1 r2)

/-- The map's values are the bound terms, which lie in blocks of which q holds. -/
def BMap (q : Nat → Prop) (w : World) (bs : List (Int × T)) (f : Int → Option Value) : Prop :=
  ∀ v : Int, (lookB bs v = none → f v = none) ∧ ∀ u, lookB bs v = some u → ∃ a cap, f v = some (.agg #[.int .i64 u.v, .int .i64 u.f, .slice a u.args.length cap]) ∧ InP q w u.args a
theorem BMap.mono {q : Nat → Prop} {w w' : World} {bs : List (Int × T)} {f : Int → Option Value} (h : BMap q w bs f) (hs : ∀ k, q k → k < w.heap.size → w'.heap[k]? = w.heap[k]?) : BMap q w' bs f := fun v =>
  ⟨(h v).1, fun u hu => by obtain ⟨a, cap, h1, h2⟩ := (h v).2 u hu; exact ⟨a, cap, h1, InP_same hs h2⟩⟩
theorem lookB_snoc (bs : List (Int × T)) (x : Int × T) (v : Int) : lookB (bs ++ [x]) v = match lookB bs v with
    | some u => some u
    | none => if x.1 = v then some x.2 else none := by
  induction bs with
  | nil => obtain ⟨a, b⟩ := x; rfl
  | cons y bs ih =>
    obtain ⟨a, b⟩ := y
    rw [List.cons_append, lookB, lookB]
    by_cases h : a = v
    · rw [if_pos h, if_pos h]
    · rw [if_neg h, if_neg h, ih]
theorem lookB_none {bs : List (Int × T)} {v : Int} (h : ∀ x, x ∈ bs → x.1 ≠ v) : lookB bs v = none := by
  cases e : lookB bs v with
  | none => rfl
  | some u => exact absurd rfl (h (v, u) (lookB_mem e))
/-- No variable is bound twice. -/
def Once (bs : List (Int × T)) : Prop := ∀ (i j : Nat) (x y : Int × T), bs[i]? = some x → bs[j]? = some y → x.1 = y.1 → i = j
theorem lookB_take {bs : List (Int × T)} (ho : Once bs) {k : Nat} {x : Int × T} (hx : bs[k]? = some x) (v : Int) : lookB (bs.take (k + 1)) v = if v = x.1 then some x.2 else lookB (bs.take k) v := by
  have h0 : lookB (bs.take k) x.1 = none := lookB_none (fun y hy e => by
    obtain ⟨i, hi, e2⟩ := List.getElem_of_mem hy
    have hik : i < k := by rw [List.length_take] at hi; omega
    have h2 : bs[i]? = some y := by rw [← e2, List.getElem_take, List.getElem?_eq_getElem]
    have := ho i k y x h2 hx e
    omega)
  rw [List.take_add_one, hx]
  show lookB (bs.take k ++ [x]) v = _
  rw [lookB_snoc]
  by_cases e : v = x.1
  · subst e; rw [h0, if_pos rfl]
  · rw [if_neg e, if_neg (fun h => e h.symm)]
    cases lookB (bs.take k) v <;> rfl

set_option maxRecDepth 100000 in
set_option maxHeartbeats 1000000 in
theorem boundBy_any (bs : List (Int × T)) (ba : Option Addr) (bc : Nat) (w : World) (q : Nat → Prop) (hq : ∀ k, q k → k < w.heap.size) (hl : bs.length ≤ 1000) (ho : Once bs) (hr : ∀ x, x ∈ bs → 1 ≤ x.1 ∧ x.1 ≤ 1000) (hin : Binds q w bs ba) :
    Calls Try.prog 68 #[.slice ba bs.length bc] w fun e w' => ∃ b f, e = .returned (.map (some b)) ∧ w.heap.size ≤ b ∧ MapAt w' b bs.length f ∧ BMap q w' bs f ∧ Below w.heap.size w w' := by
  have hmm := @run_makeMap Try.prog
  have Hq := hide hq
  have Hr := hide hr
  have Hin := hide hin
  have Ho := hide ho
  clear hq hr hin ho
  go_enter Try.func68, Try.ntmps68
  go_wp2_with fail
  go_loopw [9] (fun i wr => ∃ (k : Nat) (f : Int → Option Value), k ≤ bs.length ∧ i = .int .i64 k ∧ MapAt wr w.heap.size k f ∧ BMap q wr (bs.take k) f ∧ Below w.heap.size w wr) (fun i _ => bs.length - (intOf i).toNat)
  case atStart => exact ⟨0, fun _ => none, Nat.zero_le _, rfl, MapAt.made w, fun v => ⟨fun _ => rfl, fun u hu => by cases hu⟩, below1 _ _⟩
  case round =>
    obtain ⟨k, f, hk, rfl, hM, hB, hb⟩ := hrel
    have hMl := hM.lt
    have HM := hide hM
    have HB := hide hB
    have Hb := hide hb
    clear hM hB hb hmm
    by_cases hlt : k < bs.length
    · obtain ⟨b, off, rfl⟩ := Binds_some Hin.out (by omega)
      obtain ⟨x, hx⟩ : ∃ x, bs[k]? = some x := ⟨bs[k], List.getElem?_eq_getElem hlt⟩
      obtain ⟨a1, cap1, hqb, c0, c1, c2, c3, hin1⟩ := Binds_at (Binds_below Hb.out Hin.out) hx
      have hxr := Hr.out x (List.mem_of_getElem? hx)
      have hqb' := Hq.out b hqb
      have hkI : (k : Int) < bs.length := by omega
      have hk0 : (0 : Int) ≤ k := by omega
      have Hx := hide hx
      have Hin1 := hide hin1
      have hbb := lt_of_cell c0
      clear hx hin1
      go_wp2_with (at_mapUpdate; refine wpList_store_map _ rfl _ _ _ 92 rfl 27 Try.underlying92 w.heap.size k f rfl (HM.out.below (below1 _ _)) (by unfold maxLen; omega) x.1 (.agg #[.int .i64 x.2.v, .int .i64 x.2.f, .slice a1 x.2.args.length cap1]) (by first | rfl | simp [go_sem]) (by first | rfl | simp [go_sem]) (by omega) (by omega) ?_; intro w2 hM2 hg2)
      have hkeep : ∀ j, q j → j < wr.heap.size → w2.heap[j]? = wr.heap[j]? := fun j hj hjl => by
        have := Hq.out j hj
        rw [hg2.block j (by rw [World.size_alloc]; omega) (fun e => by cases e; omega), Below.heap_alloc _ _ _ hjl]
      have hb2 : Below w.heap.size w w2 := (Hb.out.alloc (by omega) _).grown hg2 (by rw [World.size_alloc]; omega) (fun j hj => by cases hj; exact Nat.le_refl _)
      have hB2 : BMap q w2 (bs.take (k + 1)) (fun j => if j = x.1 then some (.agg #[.int .i64 x.2.v, .int .i64 x.2.f, .slice a1 x.2.args.length cap1]) else f j) := fun v => by
        rw [lookB_take Ho.out Hx.out]
        by_cases e : v = x.1
        · simp only [if_pos e]
          refine ⟨fun h => (by cases h), fun u hu => ?_⟩
          obtain rfl : x.2 = u := by simpa using hu
          exact ⟨a1, cap1, rfl, InP_same hkeep Hin1.out⟩
        · simp only [if_neg e]
          exact (HB.out.mono hkeep) v
      go_roundw
      case rel => exact ⟨k + 1, _, by omega, by go_num, hM2, hB2, hb2⟩
      case measure => simp [intOf]; omega
    · have hk2 : k = bs.length := by omega
      subst hk2
      rw [List.take_length] at HB
      go_wp2_with fail
      go_ret
      exact ⟨w.heap.size, f, rfl, Nat.le_refl _, HM.out, HB.out, Hb.out⟩

end Go.Proofs.Ytbkedppkdhfpoaa

namespace Go.Proofs.Ytbkedppkdhfpoaa
open Go.RowKit

/-- What a part adds to the size. -/
def addS (bs : List (Int × T)) (x : T) : Nat := match putIn bs x.v with
  | some u => min u.sz 121
  | none => 1
def sumS (bs : List (Int × T)) : List T → Nat
  | [] => 0
  | x :: l => addS bs x + sumS bs l
theorem sumS_append (bs : List (Int × T)) (a b : List T) : sumS bs (a ++ b) = sumS bs a + sumS bs b := by
  induction a with
  | nil => simp [sumS]
  | cons x a ih => rw [List.cons_append, sumS, sumS, ih]; omega
theorem sumS_step {bs : List (Int × T)} {l : List T} {k : Nat} {x : T} (hx : l[k]? = some x) : sumS bs (l.take (k + 1)) = sumS bs (l.take k) + addS bs x := by
  rw [List.take_add_one, hx, sumS_append]; simp [sumS]
theorem addS_le (bs : List (Int × T)) (x : T) : addS bs x ≤ 121 := by
  rw [addS]; split
  · omega
  · omega
theorem sumS_le (bs : List (Int × T)) (l : List T) : sumS bs l ≤ 121 * l.length := by
  induction l with
  | nil => simp [sumS]
  | cons x l ih => rw [sumS, List.length_cons]; have := addS_le bs x; omega
/-- That is the size of what is made, where all is right. -/
theorem sumS_apply {ar : List Int} {bs : List (Int × T)} (hb : ∀ v u, (v, u) ∈ bs → u.sz ≤ 120) : ∀ (n : Nat), (∀ t : T, t.sz ≤ n → okP ar t → sumS bs (parts t) = (applyT bs t).sz) ∧ (∀ ts : List T, T.sz.szL ts ≤ n → okP.okL ar ts → sumS bs (parts.partsL ts) = T.sz.szL (ts.map (applyT bs))) := by
  intro n
  induction n with
  | zero =>
    refine ⟨fun t h => by have := t.sz_pos; omega, fun ts h _ => ?_⟩
    cases ts with
    | nil => rfl
    | cons t ts => have := t.sz_pos; rw [T.szL_cons] at h; omega
  | succ n ih =>
    have h1 : ∀ t : T, t.sz ≤ n + 1 → okP ar t → sumS bs (parts t) = (applyT bs t).sz := fun t h hk => by
      have hte := T.sz_eq t
      rw [parts_eq, sumS_append, sumS, sumS]
      cases hp : putIn bs t.v with
      | some u =>
        have hm := putIn_mem hp
        have hu := hb _ _ hm.1
        have hv := ok_var hk (by have := hm.2; omega)
        rw [applyT_some hp, hv.2, addS, hp]
        show 0 + (min u.sz 121 + 0) = u.sz
        omega
      | none =>
        rw [applyT_none hp, T.sz_eq, ih.2 t.args (by omega) (okP_iff.1 hk).2, addS, hp]
        show T.sz.szL (t.args.map (applyT bs)) + (1 + 0) = 1 + T.sz.szL (t.args.map (applyT bs))
        omega
    refine ⟨h1, fun ts => ?_⟩
    induction ts with
    | nil => intro _ _; rfl
    | cons t ts iht =>
      intro h hk
      rw [T.szL_cons] at h
      rw [partsL_cons, sumS_append, List.map_cons, T.szL_cons, h1 t (by omega) (okL_cons.1 hk).1, iht (by omega) (okL_cons.1 hk).2]

set_option maxRecDepth 100000 in
set_option maxHeartbeats 1000000 in
theorem appliedSize_any (bs : List (Int × T)) (ba : Option Addr) (bc : Nat) (t : T) (a : Option Addr) (cap : Nat) (w : World) (p : Nat → Prop) (hl : bs.length ≤ 9223372036854775807) (hbs : Binds p w bs ba) (ht : t.sz ≤ 120) (hin : InL w t.args a) :
    Calls Try.prog 32 #[.slice ba bs.length bc, .agg #[.int .i64 t.v, .int .i64 t.f, .slice a t.args.length cap]] w fun e w' => e = .returned (.int .i64 (sumS bs (parts t) : Nat)) ∧ Below w.heap.size w w' := by
  go_enter Try.func32, Try.ntmps32
  go_wp2_with fail
  refine (partsK_one t a cap _ (by omega) (InP_alloc _ hin)).mono ?_
  rintro e w1 ⟨g, cap1, rfl, _, hg2, hcells, hb1⟩
  have hz1 : w.heap.size < w1.heap.size := by have := hb1.size; simp at this; omega
  have hbw : Below w.heap.size w w1 := (below1 _ _).trans (hb1.mono (by simp))
  have Hcells := hide hcells
  have Hplen := hide ((parts_length _).1 t (Nat.le_refl _))
  have Hbs1 := hide (Binds_below hbw hbs)
  clear hcells hb1
  go_wp2_with fail
  go_loopw [5, 7] (fun nv j wr => ∃ k : Nat, k ≤ t.sz ∧ j = .int .i64 k ∧ nv = .int .i64 (sumS bs ((parts t).take k) : Nat) ∧ Below w1.heap.size w1 wr) (fun _ j _ => t.sz - (intOf j).toNat)
  case atStart => exact ⟨0, Nat.zero_le _, rfl, rfl, Below.refl _ _⟩
  case round =>
    obtain ⟨k, hk, rfl, rfl, hb⟩ := hrel
    have hzr := hb.size
    have hbR : Below w.heap.size w wr := hbw.trans (hb.mono (by omega))
    by_cases hlt : k < t.sz
    · obtain ⟨x, hx⟩ : ∃ x, (parts t)[k]? = some x := ⟨(parts t)[k]'(by rw [Hplen.out]; exact hlt), List.getElem?_eq_getElem _⟩
      obtain ⟨a5, cap5, c0', c1', c2', _⟩ := Hcells.out k x hx
      have c0 : wr.cell? ⟨g, k * 3, none⟩ = some (.int .i64 x.v) := cell_below hb c0'
      have Hst := hide (sumS_step (bs := bs) hx)
      have hle := sumS_le bs ((parts t).take k)
      have hle2 : ((parts t).take k).length ≤ k := by rw [List.length_take]; omega
      have hkI : (k : Int) < t.sz := by omega
      have hk0 : (0 : Int) ≤ k := by omega
      have hbsR := Binds_below hb Hbs1.out
      have HB := hide (boundTo_any bs ba bc x.v wr p hl hbsR)
      obtain ⟨S, hS⟩ : ∃ S, S = sumS bs ((parts t).take k) := ⟨_, rfl⟩
      rw [← hS] at Hst hle ⊢
      have hS0 : S ≤ 14520 := by omega
      clear hx c0' c1' c2' hS hle hle2
      by_cases hv : 0 < x.v
      · cases hlk : lookB bs x.v with
        | none =>
          have Hadd : Hid (addS bs x = 1) := by show _ = _; rw [addS, putIn, if_pos hv, hlk]
          rw [idxB_none hlk] at HB
          clear hlk
          go_wp2_with (go_at_call 70; refine HB.out.mono ?_; rintro e w' ⟨rfl, hw'⟩; obtain rfl := hw'.symm; clear hw')
          go_roundw
          case rel => exact ⟨k + 1, by omega, by go_num, by rw [Hst.out, Hadd.out]; go_num, hb⟩
          case measure => simp [intOf]; omega
        | some u =>
          obtain ⟨m, hm1, hm2, hm3⟩ := idxB_some (n := 0) hlk
          rw [Nat.zero_add] at hm1
          have Hadd : Hid (addS bs x = min u.sz 121) := by show _ = _; rw [addS, putIn, if_pos hv, hlk]
          rw [hm1] at HB
          obtain ⟨b, off, rfl⟩ := Binds_some hbsR (by omega)
          obtain ⟨a6, cap6, _, d0, d1, d2, d3, hin6⟩ := Binds_at hbsR hm3
          have hmI : (m : Int) < bs.length := by omega
          have hm0 : (0 : Int) ≤ m := by omega
          have HSz := hide (sizeOf_any (u.sz + 1) u 120 a6 cap6 wr (by omega) (by omega) (by omega) (InP_imp (q := fun _ => True) (fun _ _ => trivial) hin6))
          have e1 : off + m * 4 + 1 + 1 = off + m * 4 + 2 := by omega
          have e2 : off + m * 4 + 1 + 2 = off + m * 4 + 3 := by omega
          rw [← e1] at d2
          rw [← e2] at d3
          obtain ⟨z, hz⟩ : ∃ z : Nat, z = min u.sz 121 := ⟨_, rfl⟩
          rw [← hz] at Hadd
          have hz' : min (u.sz : Int) (120 + 1) = (z : Int) := by omega
          rw [hz'] at HSz
          have hz0 : z ≤ 121 := by omega
          clear hlk hm3 hin6 hz hz' hm1 e1 e2
          go_wp2_with (first | (go_at_call 70; refine HB.out.mono ?_; rintro e w' ⟨rfl, hw'⟩; obtain rfl := hw'.symm; clear hw') | (go_at_call 15; refine HSz.out.mono ?_; rintro e w2 ⟨rfl, hb2⟩))
          go_roundw
          case rel => exact ⟨k + 1, by omega, by go_num, by rw [Hst.out, Hadd.out]; go_num, hb.trans (hb2.mono hzr)⟩
          case measure => simp [intOf]; omega
      · have Hadd : Hid (addS bs x = 1) := by show _ = _; rw [addS, putIn, if_neg hv]
        clear HB
        go_wp2_with fail
        go_roundw
        case rel => exact ⟨k + 1, by omega, by go_num, by rw [Hst.out, Hadd.out]; go_num, hb⟩
        case measure => simp [intOf]; omega
    · have hk2 : k = t.sz := by omega
      subst hk2
      have e9 : (parts t).take t.sz = parts t := List.take_of_length_le (by rw [Hplen.out]; exact Nat.le_refl _)
      rw [e9]
      go_wp2_with fail
      go_ret
      exact ⟨rfl, hbR⟩

end Go.Proofs.Ytbkedppkdhfpoaa
