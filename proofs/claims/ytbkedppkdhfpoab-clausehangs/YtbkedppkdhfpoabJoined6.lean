/- Clauses whose variables are numbered anew; Tidy. Clauses: what variables are bound to, as maps; do two of them agree? The bindings of a map, rising. What the program's Unify comes to, in pure words; the variables' numbers while parts are added. Parts and the heads that stand for them. Terms and the parts that are added for them. The unifier answers, and right: what makes both the same, made of no more than it must be. Clauses: do a term's functions stand in another one, too? -/
import Derived.BigQuiet
import Derived.Deep.AppendLies
import Derived.Maps.RangeWalk
import Derived.Test.YtbkedppkdhfpoabJoined5
namespace Go.Proofs.Ytbkedppkdhfpoab
open Go.RowKit Go.Maps

/-- A clause whose variables are numbered anew, behind some that are. -/
def giveC : List Lit → List Int → List Lit × List Int
  | [], ns => ([], ns)
  | x :: c, ns => ((x.1, (giveT x.2.1 ns).1, (giveT x.2.2 (giveT x.2.1 ns).2).1) :: (giveC c (giveT x.2.2 (giveT x.2.1 ns).2).2).1, (giveC c (giveT x.2.2 (giveT x.2.1 ns).2).2).2)
def giveX (x : Lit) (ns : List Int) : Lit := (x.1, (giveT x.2.1 ns).1, (giveT x.2.2 (giveT x.2.1 ns).2).1)
def giveN (x : Lit) (ns : List Int) : List Int := (giveT x.2.2 (giveT x.2.1 ns).2).2
theorem giveC_snoc (x : Lit) : ∀ (c : List Lit) (ns : List Int), giveC (c ++ [x]) ns = ((giveC c ns).1 ++ [giveX x (giveC c ns).2], giveN x (giveC c ns).2) := by
  intro c
  induction c with
  | nil => intro ns; rfl
  | cons y c ih => intro ns; rw [List.cons_append, giveC, ih]; rfl
theorem giveC_step {c : List Lit} {k : Nat} {x : Lit} (h : c[k]? = some x) (ns : List Int) : giveC (c.take (k + 1)) ns = ((giveC (c.take k) ns).1 ++ [giveX x (giveC (c.take k) ns).2], giveN x (giveC (c.take k) ns).2) := by
  rw [List.take_add_one, h]; exact giveC_snoc x _ ns
theorem giveC_length : ∀ (c : List Lit) (ns : List Int), (giveC c ns).1.length = c.length := by
  intro c
  induction c with
  | nil => intro ns; rfl
  | cons x c ih => intro ns; rw [giveC, List.length_cons, List.length_cons, ih]
theorem giveC_grow : ∀ (c : List Lit) (ns : List Int), (∀ x, x ∈ c → LitSz x) → ns.Nodup → (giveC c ns).2.Nodup ∧ (giveC c ns).2.length ≤ ns.length + c.length * 2000 := by
  intro c
  induction c with
  | nil => intro ns _ hn; exact ⟨hn, Nat.le_add_right _ _⟩
  | cons x c ih =>
    intro ns hs hn
    have hx := hs x List.mem_cons_self
    have h1 := (give_grow x.2.1.sz).1 x.2.1 ns (Nat.le_refl _) hn
    have h2 := (give_grow x.2.2.sz).1 x.2.2 _ (Nat.le_refl _) h1.1
    have h3 := ih _ (fun y hy => hs y (List.mem_cons_of_mem _ hy)) h2.1
    rw [giveC, List.length_cons]
    refine ⟨h3.1, ?_⟩
    have := hx.1
    have := hx.2
    have h4 := h3.2
    have h5 := h2.2
    have h6 := h1.2
    show (giveC c (giveT x.2.2 (giveT x.2.1 ns).2).2).2.length ≤ _
    omega

/-- One of the literals, and what it leaves if it alone is changed. -/
theorem OwnCl_open {w : World} : ∀ {c : List Lit} {g off : Nat} {B : List Nat} {k : Nat} {x : Lit}, OwnCl w c g off B → c[k]? = some x → B.Nodup →
    ∃ s1 s2 B1 B2, w.cell? ⟨g, off + k * 7, none⟩ = some (.bool x.1) ∧ w.cell? ⟨g, off + k * 7 + 1, none⟩ = some (.int .i64 x.2.1.v) ∧ w.cell? ⟨g, off + k * 7 + 2, none⟩ = some (.int .i64 x.2.1.f) ∧ w.cell? ⟨g, off + k * 7 + 3, none⟩ = some s1 ∧ w.cell? ⟨g, off + k * 7 + 4, none⟩ = some (.int .i64 x.2.2.v) ∧ w.cell? ⟨g, off + k * 7 + 5, none⟩ = some (.int .i64 x.2.2.f) ∧ w.cell? ⟨g, off + k * 7 + 6, none⟩ = some s2 ∧
      x.2.1.Own w s1 B1 ∧ x.2.2.Own w s2 B2 ∧ (∀ j, j ∈ B1 ++ B2 → j ∈ B) ∧ (B1 ++ B2).Nodup ∧
      ∀ (w' : World) (x' : Lit), w'.cell? ⟨g, off + k * 7, none⟩ = some (.bool x'.1) → w'.cell? ⟨g, off + k * 7 + 1, none⟩ = some (.int .i64 x'.2.1.v) → w'.cell? ⟨g, off + k * 7 + 2, none⟩ = some (.int .i64 x'.2.1.f) → w'.cell? ⟨g, off + k * 7 + 3, none⟩ = some s1 → w'.cell? ⟨g, off + k * 7 + 4, none⟩ = some (.int .i64 x'.2.2.v) → w'.cell? ⟨g, off + k * 7 + 5, none⟩ = some (.int .i64 x'.2.2.f) → w'.cell? ⟨g, off + k * 7 + 6, none⟩ = some s2 →
        x'.2.1.Own w' s1 B1 → x'.2.2.Own w' s2 B2 → (∀ j, (j < off + k * 7 ∨ off + k * 7 + 6 < j) → w'.cell? ⟨g, j, none⟩ = w.cell? ⟨g, j, none⟩) → (∀ i, i ∈ B → i ∉ B1 ++ B2 → w'.heap[i]? = w.heap[i]?) → OwnCl w' (c.set k x') g off B := by
  intro c
  induction c with
  | nil => intro g off B k x _ h; simp at h
  | cons t c ih =>
    intro g off B k x h hk hn
    obtain ⟨s1, s2, B1, B2, Br, rfl, h0, h1, h2, h3, h4, h5, h6, o1, o2, hr⟩ := h
    rw [List.nodup_append] at hn
    cases k with
    | zero =>
      simp at hk; subst hk
      refine ⟨s1, s2, B1, B2, by simpa using h0, by simpa using h1, by simpa using h2, by simpa using h3, by simpa using h4, by simpa using h5, by simpa using h6, o1, o2, fun j hj => List.mem_append_left _ hj, hn.1, fun w' x' g0 g1 g2 g3 g4 g5 g6 p1 p2 gc gh => ?_⟩
      refine ⟨s1, s2, B1, B2, Br, rfl, by simpa using g0, by simpa using g1, by simpa using g2, by simpa using g3, by simpa using g4, by simpa using g5, by simpa using g6, p1, p2, ?_⟩
      exact OwnCl_mono (fun i hi => gh i (List.mem_append_right _ hi) (fun hb => hn.2.2 i hb i hi rfl)) (fun j hj _ => gc j (by omega)) hr
    | succ k =>
      obtain ⟨s1', s2', C1, C2, a0, a1, a2, a3, a4, a5, a6, p1, p2, a7, a8, a9⟩ := ih hr (by simpa using hk) hn.2.1
      have e : off + 7 + k * 7 = off + (k + 1) * 7 := by omega
      rw [e] at a0 a1 a2 a3 a4 a5 a6 a9
      refine ⟨s1', s2', C1, C2, a0, a1, a2, a3, a4, a5, a6, p1, p2, fun j hj => List.mem_append_right _ (a7 j hj), a8, fun w' x' g0 g1 g2 g3 g4 g5 g6 q1 q2 gc gh => ?_⟩
      have hd : ∀ i, i ∈ B1 ++ B2 → i ∉ C1 ++ C2 := fun i hi hc => hn.2.2 i hi i (a7 i hc) rfl
      refine ⟨s1, s2, B1, B2, Br, rfl, by rw [gc off (by omega)]; exact h0, by rw [gc (off + 1) (by omega)]; exact h1, by rw [gc (off + 2) (by omega)]; exact h2, by rw [gc (off + 3) (by omega)]; exact h3, by rw [gc (off + 4) (by omega)]; exact h4, by rw [gc (off + 5) (by omega)]; exact h5, by rw [gc (off + 6) (by omega)]; exact h6, Own_mono (fun i hi => gh i (List.mem_append_left _ (List.mem_append_left _ hi)) (hd i (List.mem_append_left _ hi))) o1, Own_mono (fun i hi => gh i (List.mem_append_left _ (List.mem_append_right _ hi)) (hd i (List.mem_append_right _ hi))) o2, ?_⟩
      exact a9 w' x' g0 g1 g2 g3 g4 g5 g6 q1 q2 gc (fun i hi hb => gh i (List.mem_append_right _ hi) hb)

/-- What stands while literals are gone through. -/
structure RC (w wr : World) (c : List Lit) (g mb : Nat) (B : List Nat) (k : Nat) : Prop where
  own : OwnCl wr ((giveC (c.take k) []).1 ++ c.drop k) g 0 B
  map : ∃ m, m ≤ k * 2000 ∧ IsAt wr mb m (numF (giveC (c.take k) []).2)
  below : Below w.heap.size w wr
  rng : ∀ j, j ∈ B → w.heap.size ≤ j ∧ j < wr.heap.size
  fr : ∀ j, wr.frozen? ⟨g, j, none⟩ = false
  gl : g < wr.heap.size
theorem RC.step {w wr w1 w2 : World} {c : List Lit} {g mb : Nat} {B : List Nat} {k : Nat} {x : Lit} {s1 s2 : Value} {B1 B2 : List Nat} {m : Nat} (h : RC w wr c g mb B k) (hx : c[k]? = some x) (hgB : g ∉ B) (hmB : mb ∉ B) (hwg : w.heap.size ≤ g) (hwm : w.heap.size ≤ mb)
    (a0 : wr.cell? ⟨g, 0 + k * 7, none⟩ = some (.bool x.1)) (a7 : ∀ j, j ∈ B1 ++ B2 → j ∈ B) (a8 : (B1 ++ B2).Nodup)
    (a9 : ∀ (w' : World) (x' : Lit), w'.cell? ⟨g, 0 + k * 7, none⟩ = some (.bool x'.1) → w'.cell? ⟨g, 0 + k * 7 + 1, none⟩ = some (.int .i64 x'.2.1.v) → w'.cell? ⟨g, 0 + k * 7 + 2, none⟩ = some (.int .i64 x'.2.1.f) → w'.cell? ⟨g, 0 + k * 7 + 3, none⟩ = some s1 → w'.cell? ⟨g, 0 + k * 7 + 4, none⟩ = some (.int .i64 x'.2.2.v) → w'.cell? ⟨g, 0 + k * 7 + 5, none⟩ = some (.int .i64 x'.2.2.f) → w'.cell? ⟨g, 0 + k * 7 + 6, none⟩ = some s2 →
        x'.2.1.Own w' s1 B1 → x'.2.2.Own w' s2 B2 → (∀ j, (j < 0 + k * 7 ∨ 0 + k * 7 + 6 < j) → w'.cell? ⟨g, j, none⟩ = wr.cell? ⟨g, j, none⟩) → (∀ i, i ∈ B → i ∉ B1 ++ B2 → w'.heap[i]? = wr.heap[i]?) → OwnCl w' (((giveC (c.take k) []).1 ++ c.drop k).set k x') g 0 B)
    (t1 : Tc w1 g (k * 7 + 1) (giveT x.2.1 (giveC (c.take k) []).2).1.v (giveT x.2.1 (giveC (c.take k) []).2).1.f s1) (p1 : (giveT x.2.1 (giveC (c.take k) []).2).1.Own w1 s1 B1) (g1 : Chg wr w1 B1 mb g (k * 7 + 1))
    (t2 : Tc w2 g (k * 7 + 4) (giveX x (giveC (c.take k) []).2).2.2.v (giveX x (giveC (c.take k) []).2).2.2.f s2) (p2 : (giveX x (giveC (c.take k) []).2).2.2.Own w2 s2 B2) (g2 : Chg w1 w2 B2 mb g (k * 7 + 4)) (hm : m ≤ (k + 1) * 2000) (hM : IsAt w2 mb m (numF (giveN x (giveC (c.take k) []).2))) :
    RC w w2 c g mb B (k + 1) := by
  have hlt := (List.getElem?_eq_some_iff.1 hx).1
  have hlen : (giveC (c.take k) []).1.length = k := by rw [giveC_length, List.length_take]; omega
  have hz1 := g1.size
  have hz2 := g2.size
  rw [List.nodup_append] at a8
  have hne : ∀ i, i ∈ B → i ≠ g ∧ i ≠ mb := fun i hi => ⟨fun e => hgB (by rw [← e]; exact hi), fun e => hmB (by rw [← e]; exact hi)⟩
  have hset : ((giveC (c.take k) []).1 ++ c.drop k).set k (giveX x (giveC (c.take k) []).2) = (giveC (c.take (k + 1)) []).1 ++ c.drop (k + 1) := by
    rw [giveC_step hx, List.drop_eq_getElem_cons hlt, List.append_assoc]
    have : ∀ (A R : List Lit) (y z : Lit), A.length = k → (A ++ y :: R).set k z = A ++ ([z] ++ R) := fun A R y z hA => by
      rw [List.set_append, if_neg (by omega), hA, Nat.sub_self]; rfl
    exact this _ _ _ _ hlen
  have hp1 : (giveT x.2.1 (giveC (c.take k) []).2).1.Own w2 s1 B1 := Own_mono (fun i hi => g2.block i (by have := (h.rng i (a7 i (List.mem_append_left _ hi))).2; omega) (hne i (a7 i (List.mem_append_left _ hi))).1 (hne i (a7 i (List.mem_append_left _ hi))).2 (fun hb => a8.2.2 i hi i hb rfl)) p1
  refine ⟨?_, ⟨m, hm, by rw [giveC_step hx]; exact hM⟩, ⟨g2.os.trans (g1.os.trans h.below.os), g2.tape.trans (g1.tape.trans h.below.tape), g2.output.trans (g1.output.trans h.below.output), by have := h.below.size; omega, fun i hi => ?_⟩, fun j hj => by have := h.rng j hj; omega, fun j => by rw [g2.fr, g1.fr]; exact h.fr j, by have := h.gl; omega⟩
  · rw [← hset]
    refine a9 w2 _ ?_ ?_ ?_ ?_ ?_ ?_ ?_ hp1 p2 (fun j hj => by rw [g2.cell j (by omega), g1.cell j (by omega)]) (fun i hi hb => ?_)
    · rw [g2.cell _ (by omega), g1.cell _ (by omega)]; exact a0
    · rw [Nat.zero_add, g2.cell _ (by omega)]; exact t1.e0
    · rw [Nat.zero_add, g2.cell _ (by omega)]; exact t1.e1
    · rw [Nat.zero_add, g2.cell _ (by omega)]; exact t1.e2
    · rw [Nat.zero_add]; exact t2.e0
    · rw [Nat.zero_add]; exact t2.e1
    · rw [Nat.zero_add]; exact t2.e2
    · rw [List.mem_append, not_or] at hb
      have hr := (h.rng i hi).2
      rw [g2.block i (by omega) (hne i hi).1 (hne i hi).2 hb.2, g1.block i hr (hne i hi).1 (hne i hi).2 hb.1]
  · have hsz := h.below.size
    have hnB : ∀ C : List Nat, (∀ j, j ∈ C → j ∈ B) → i ∉ C := fun C hC hi' => by have := (h.rng i (hC i hi')).1; omega
    rw [g2.block i (by omega) (by omega) (by omega) (hnB B2 (fun j hj => a7 j (List.mem_append_right _ hj))), g1.block i (by omega) (by omega) (by omega) (hnB B1 (fun j hj => a7 j (List.mem_append_left _ hj)))]
    exact h.below.block i hi

attribute [local go_sem ↓] Go.wp_at_zero Go.wp_at_succ
set_option maxRecDepth 100000 in
set_option maxHeartbeats 2000000 in
theorem renumbered_any (c : List Lit) (ca : Option Addr) (cc : Nat) (w : World) (hl : c.length ≤ 20) (hsz : ∀ x, x ∈ c → LitSz x) (hvr : ∀ x, x ∈ c → (∀ y, y ∈ parts x.2.1 → 0 ≤ y.v ∧ y.v ≤ 1000) ∧ ∀ y, y ∈ parts x.2.2 → 0 ≤ y.v ∧ y.v ≤ 1000) (hc : LitsP w c ca) :
    Calls Try.prog 39 #[.slice ca c.length cc] w fun e w' => ∃ g B, e = .returned (.slice (some ⟨g, 0, none⟩) c.length c.length) ∧ OwnCl w' (giveC c []).1 g 0 B ∧ (g :: B).Nodup ∧ (∀ j, j ∈ g :: B → w.heap.size ≤ j ∧ j < w'.heap.size) ∧ Below w.heap.size w w' := by
  have HC := hide (copyClause_any c ca cc w (by omega) hsz hc)
  have hmm := @run_makeMap Try.prog
  have Hsz := hide hsz
  have Hvr := hide hvr
  clear hsz hvr hc
  go_enter Try.func39, Try.ntmps39
  go_wp2_with fail
  refine HC.out.mono ?_
  rintro e w1 ⟨rfl, B, hcc⟩
  have hgl := hcc.gl
  have hz1 := hcc.below.size
  have hgB : w.heap.size ∉ B := fun h => by have := (hcc.rng _ h).1; omega
  have hmB : w1.heap.size ∉ B := fun h => by have := (hcc.rng _ h).2; omega
  have hBn := hcc.nd
  have HL0 : Hid (RC w (w1.alloc (.map #[] 0)) c w.heap.size w1.heap.size B 0) := by
    have hown := hcc.own
    rw [List.take_length] at hown
    refine ⟨OwnCl_mono (fun j hj => (below1 w1 _).block j (hcc.rng j hj).2) (fun j _ _ => (below1 w1 _).cell (p := ⟨w.heap.size, j, none⟩) hgl) hown, ⟨0, Nat.le_refl _, MapAt.made w1⟩, hcc.below.trans ((below1 w1 _).mono hz1), fun j hj => ?_, fun j => by rw [(below1 w1 _).frozen (p := ⟨w.heap.size, j, none⟩) hgl]; exact hcc.fr j, by rw [World.size_alloc]; omega⟩
    have := hcc.rng j hj
    rw [World.size_alloc]
    omega
  clear HC hcc
  go_wp2_with fail
  go_loopw [11] (fun i wr => ∃ k : Nat, k ≤ c.length ∧ i = .int .i64 (k : Int) ∧ Hid (RC w wr c w.heap.size w1.heap.size B k)) (fun i _ => c.length - (intOf i).toNat)
  case atStart => exact ⟨0, Nat.zero_le _, rfl, HL0⟩
  case round =>
    obtain ⟨k, hk, rfl, HRC⟩ := hrel
    by_cases hlt : k < c.length
    · obtain ⟨x, hx⟩ : ∃ x, c[k]? = some x := ⟨c[k], List.getElem?_eq_getElem hlt⟩
      have hlen : (giveC (c.take k) []).1.length = k := by rw [giveC_length, List.length_take]; omega
      have hxa : ((giveC (c.take k) []).1 ++ c.drop k)[k]? = some x := by
        rw [List.getElem?_append_right (by omega), hlen, Nat.sub_self, List.getElem?_drop, Nat.add_zero]; exact hx
      obtain ⟨s1, s2, B1, B2, a0, a1, a2, a3, a4, a5, a6, o1, o2, a7, a8, a9⟩ := OwnCl_open HRC.out.own hxa hBn
      obtain ⟨m, hm, hM⟩ := HRC.out.map
      have hxc := List.mem_of_getElem? hx
      have hxs := Hsz.out x hxc
      have hxv := Hvr.out x hxc
      have hgr := giveC_grow (c.take k) [] (fun y hy => Hsz.out y (List.mem_of_mem_take hy)) List.nodup_nil
      have hgl2 : (c.take k).length = k := by rw [List.length_take]; omega
      rw [hgl2, List.length_nil, Nat.zero_add] at hgr
      have a8' := a8
      rw [List.nodup_append] at a8'
      have hrg := HRC.out.rng
      have hglr := HRC.out.gl
      have hg1 := (give_grow x.2.1.sz).1 x.2.1 (giveC (c.take k) []).2 (Nat.le_refl _) hgr.1
      rw [Nat.zero_add] at a0 a1 a2 a3 a4 a5 a6
      have h20 := hxs.1
      have h21 := hxs.2
      have HG1 := hide (give_any w1.heap.size x.2.1.sz x.2.1 s1 B1 w.heap.size (k * 7 + 1) m (giveC (c.take k) []).2 wr (Nat.le_refl _) hxs.1 hxv.1 ⟨a1, a2, a3, HRC.out.fr⟩ o1 a8'.1 (fun h => hgB (a7 _ (List.mem_append_left _ h))) (fun h => hmB (a7 _ (List.mem_append_left _ h))) (by omega) hM hgr.1 (by have := hgr.2; omega) (by omega) (fun j hj => (hrg j (a7 j (List.mem_append_left _ hj))).2))
      have HG2 := hide (fun (w2 : World) (m2 : Nat) (g1 : Chg wr w2 B1 w1.heap.size w.heap.size (k * 7 + 1)) (hm2 : m2 ≤ m + x.2.1.sz) (hM2 : IsAt w2 w1.heap.size m2 (numF (giveT x.2.1 (giveC (c.take k) []).2).2)) => give_any w1.heap.size x.2.2.sz x.2.2 s2 B2 w.heap.size (k * 7 + 4) m2 (giveT x.2.1 (giveC (c.take k) []).2).2 w2 (Nat.le_refl _) hxs.2 hxv.2
        ⟨by rw [g1.cell _ (by omega)]; exact a4, by rw [g1.cell _ (by omega)]; exact a5, by rw [g1.cell _ (by omega)]; exact a6, fun j => by rw [g1.fr]; exact HRC.out.fr j⟩
        (Own_mono (fun i hi => g1.block i (hrg i (a7 i (List.mem_append_right _ hi))).2 (fun e => hgB (by rw [← e]; exact a7 i (List.mem_append_right _ hi))) (fun e => hmB (by rw [← e]; exact a7 i (List.mem_append_right _ hi))) (fun hb => a8'.2.2 i hb i hi rfl)) o2) a8'.2.1 (fun h => hgB (a7 _ (List.mem_append_right _ h))) (fun h => hmB (a7 _ (List.mem_append_right _ h))) (by omega) hM2 hg1.1 (by have := hgr.2; have := hg1.2; omega) (by omega) (fun j hj => by have := (hrg j (a7 j (List.mem_append_right _ hj))).2; have := g1.size; omega))
      have HSt := hide (fun (w2 w3 : World) (m3 : Nat) => RC.step (w1 := w2) (w2 := w3) (m := m3) HRC.out hx hgB hmB (Nat.le_refl _) hz1 (by rw [Nat.zero_add]; exact a0) a7 a8 a9)
      have hkI : (k : Int) < c.length := by omega
      have hk0 : (0 : Int) ≤ k := by omega
      have Hm := hide hm
      have Hxs := hide hxs
      clear a0 a1 a2 a3 a4 a5 a6 a7 a8 a8' a9 o1 o2 hM hx hxa hxc hxv hgr hrg hg1 hm hxs h20 h21
      go_wp2_with fail
      refine HG1.out.mono ?_
      rintro e w2 ⟨rfl, t1, p1, ⟨m2, hm2, hM2⟩, g1⟩
      have HG3 := hide (HG2.out w2 m2 g1 hm2 hM2)
      have Ht1 := hide t1
      have Hp1 := hide p1
      have Hg1 := hide g1
      clear HG1 HG2 t1 p1 hM2 g1
      go_wp2_with fail
      refine HG3.out.mono ?_
      rintro e w3 ⟨rfl, t2, p2, ⟨m3, hm3, hM3⟩, g2⟩
      have HN := hide (HSt.out w2 w3 m3 Ht1.out Hp1.out Hg1.out t2 p2 g2 (by have := Hm.out; have := Hxs.out.1; have := Hxs.out.2; omega) hM3)
      clear HG3 HSt t2 p2 hM3 g2 Ht1 Hp1 Hg1
      go_wp2_with fail
      go_roundw
      case rel => exact ⟨k + 1, by omega, by go_num, HN⟩
      case measure => simp [intOf]; omega
    · have hk2 : k = c.length := by omega
      subst hk2
      have hown := HRC.out.own
      rw [List.take_length, List.drop_length, List.append_nil] at hown
      have Hfin : Hid (OwnCl wr (giveC c []).1 w.heap.size 0 B ∧ (w.heap.size :: B).Nodup ∧ (∀ j, j ∈ w.heap.size :: B → w.heap.size ≤ j ∧ j < wr.heap.size) ∧ Below w.heap.size w wr) := by
        refine ⟨hown, List.nodup_cons.2 ⟨hgB, hBn⟩, fun j hj => ?_, HRC.out.below⟩
        rcases List.mem_cons.1 hj with rfl | hj
        · exact ⟨Nat.le_refl _, HRC.out.gl⟩
        · exact HRC.out.rng j hj
      clear hown
      go_wp2_with fail
      go_ret
      exact ⟨_, B, rfl, Hfin.out⟩

/-- What Tidy answers. -/
def tidyS (ar : List Int) (c : List Lit) : List Lit × Int := if clausesErr ar [c] = 0 then ((giveC (needS [] c) []).1, 0) else ([], clausesErr ar [c])
theorem okP_parts_v {ar : List Int} {t : T} (ht : okP ar t) : ∀ y, y ∈ parts t → 0 ≤ y.v ∧ y.v ≤ 1000 := fun y hy => by
  by_cases h : y.v = 0
  · omega
  · have := part_v ht hy h; omega

set_option maxRecDepth 100000 in
set_option maxHeartbeats 400000 in
theorem checkV_any (ar : List Int) (ga : Option Addr) (gcap : Nat) (cs : List (List Lit)) (la : Option Addr) (lc : Nat) (w : World) (hg : Ints w ar ga) (hl : cs.length ≤ 9223372036854775807) (hcl : ∀ c, c ∈ cs → c.length ≤ 9223372036854775807) (hc : ClausesP w cs la) :
    Calls Try.prog 38 #[.agg #[.slice ga ar.length gcap], .slice la cs.length lc] w fun e w' => e = .returned (.int .i64 (clausesErr ar cs)) ∧ Below w.heap.size w w' := by
  have HC := hide (fun o => cCheck_any ar ga gcap cs la lc (w.alloc o) (Ints_alloc o hg) hl hcl (ClausesP_below (below1 w o) hc))
  clear hg hcl hc
  go_enter Try.func38, Try.ntmps38
  go_wp2_with fail
  refine (HC.out _).mono ?_
  rintro e w1 ⟨rfl, hb1⟩
  have Hb := hide ((below1 w _).trans (hb1.mono (by simp)))
  clear hb1 HC
  go_wp2_with fail
  go_ret
  exact ⟨rfl, Hb.out⟩
theorem lits_sz {ar : List Int} {c : List Lit} (h : LitsOk ar c) : ∀ x, x ∈ c → LitSz x := fun x hx => ⟨by have := (h x hx).1.1; omega, by have := (h x hx).2.1; omega⟩
theorem lits_v {ar : List Int} {c : List Lit} (h : LitsOk ar c) : ∀ x, x ∈ c → (∀ y, y ∈ parts x.2.1 → 0 ≤ y.v ∧ y.v ≤ 1000) ∧ ∀ y, y ∈ parts x.2.2 → 0 ≤ y.v ∧ y.v ≤ 1000 := fun x hx => ⟨okP_parts_v (h x hx).1.2, okP_parts_v (h x hx).2.2⟩
theorem need_ok {ar : List Int} {c : List Lit} (h : LitsOk ar c) : LitsOk ar (needS [] c) := fun x hx => by
  rcases need_mem hx with h1 | h1
  · cases h1
  · exact h x h1
/-- A clause handed back. -/
def GivesC (x : List Lit × Int) (base : Nat) (e : Ending) (w' : World) : Prop :=
  ∃ a cap, e = .returned (.tuple #[.slice a x.1.length cap, .int .i64 x.2]) ∧ LitsP w' x.1 a ∧ (x.1 = [] ∨ ∃ g B, a = some ⟨g, 0, none⟩ ∧ cap = x.1.length ∧ OwnCl w' x.1 g 0 B ∧ (g :: B).Nodup ∧ ∀ j, j ∈ g :: B → base ≤ j ∧ j < w'.heap.size)

set_option maxRecDepth 100000 in
set_option maxHeartbeats 1000000 in
theorem Tidy_any (ar : List Int) (ga : Option Addr) (gcap : Nat) (c : List Lit) (ca : Option Addr) (cc : Nat) (w : World) (hg : Ints w ar ga) (hcl : c.length ≤ 9223372036854775807) (hc : LitsP w c ca) :
    Calls Try.prog 13 #[.agg #[.slice ga ar.length gcap], .slice ca c.length cc] w fun e w' => GivesC (tidyS ar c) w.heap.size e w' ∧ Below w.heap.size w w' := by
  have HC := hide (fun o e1 => checkV_any ar ga gcap [c] (some ⟨(w.alloc o).heap.size, 0, none⟩) 1 ((w.alloc o).alloc (.cells #[.slice ca c.length cc] e1)) (Ints_alloc _ (Ints_alloc o hg)) (by simp) (fun c' h => by simp at h; rw [h]; exact hcl) ⟨(w.alloc o).heap.size, 0, ca, cc, rfl, cell_new 0 rfl, LitsP_below (below1 _ _) (LitsP_below (below1 _ _) hc), trivial⟩)
  obtain ⟨E, hE⟩ : ∃ E, E = clausesErr ar [c] := ⟨_, rfl⟩
  rw [← hE] at HC
  have HE := hide hE
  have Hc := hide hc
  clear hg hc hE
  simp only [World.size_alloc] at HC
  go_enter Try.func13, Try.ntmps13
  go_wp2_with fail
  refine (HC.out _ _).mono ?_
  rintro e w1 ⟨rfl, hb1⟩
  have hz1 := hb1.size
  simp at hz1
  have Hb1 : Hid (Below w.heap.size w w1) := (below2 w _ _).trans (hb1.mono (by first | omega | (rw [World.size_alloc, World.size_alloc]; omega)))
  clear hb1 HC
  by_cases h0 : E = 0
  · obtain ⟨_, hl8, hlo⟩ := clauses_ok (HE.out.symm.trans h0)
    have hno := need_ok hlo
    have hnl : (needS [] c).length ≤ 8 := by have := need_len (c := c) (acc := []); simp at this; omega
    have Hsp : Hid (tidyS ar c = ((giveC (needS [] c) []).1, 0)) := by show _ = _; rw [tidyS, if_pos (HE.out.symm.trans h0)]
    have HN := hide (needed_any c ca cc w1 (by omega) (lits_sz hlo) (LitsP_below Hb1.out Hc.out))
    obtain ⟨D, hD⟩ : ∃ D, D = needS [] c := ⟨_, rfl⟩
    rw [← hD] at HN Hsp hno hnl
    have HR := hide (fun (a : Option Addr) (cap : Nat) (w' : World) (h : LitsP w' D a) => renumbered_any D a cap w' (by omega) (lits_sz hno) (lits_v hno) h)
    subst h0
    clear hno hlo hD
    go_wp2_with fail
    refine HN.out.mono ?_
    rintro e w2 ⟨a2, cap2, rfl, hq2, hb2⟩
    have HR2 := hide (HR.out a2 cap2 w2 (LitsQ_lits hq2))
    have Hb2 := hide (Hb1.out.trans (hb2.mono Hb1.out.size))
    clear hq2 hb2 HN HR
    go_wp2_with fail
    refine HR2.out.mono ?_
    rintro e w3 ⟨g, B, rfl, hown, hnd, hrg, hb3⟩
    have Hf := hide (Hb2.out.trans (hb3.mono Hb2.out.size))
    have Hfin : Hid (GivesC (tidyS ar c) w.heap.size (.returned (.tuple #[.slice (some ⟨g, 0, none⟩) D.length D.length, .int .i64 0])) w3) := by
      rw [Hsp.out]
      have hgl : (giveC D []).1.length = D.length := giveC_length _ _
      refine ⟨some ⟨g, 0, none⟩, D.length, by simp only; rw [hgl], OwnCl_lits hown, Or.inr ⟨g, B, rfl, hgl.symm, hown, hnd, fun j hj => ?_⟩⟩
      have h1 := hrg j hj
      have h2 := Hb2.out.size
      exact ⟨by omega, h1.2⟩
    clear hown hnd hrg hb3 HR2
    go_wp2_with fail
    go_ret2
    exact ⟨Hfin.out, Hf.out⟩
  · have e0 : (E != 0) = true := by simpa using h0
    have Hsp : Hid (tidyS ar c = ([], E)) := by show _ = _; rw [tidyS, if_neg (by rw [← HE.out]; exact h0), HE.out]
    clear h0
    go_wp2_with fail
    go_ret2
    exact ⟨by rw [Hsp.out]; exact ⟨none, 0, rfl, trivial, Or.inl rfl⟩, Hb1.out⟩
end Go.Proofs.Ytbkedppkdhfpoab

namespace Go.Proofs.Ytbkedppkdhfpoab
open Go.RowKit Go.Maps

theorem Try.underW : Try.prog.underlying 127 = some (.map 3 28) := by kernel_rfl
theorem Try.zeroW (w : World) : (zeroValue 28).run Try.prog w = .ok (.agg #[.int .i64 0, .int .i64 0, .slice none 0 0]) w := by kernel_rfl
/-- What variables are bound to. -/
abbrev Way := Int → Option T
/-- A map's values are those terms. -/
def GMap (p : Nat → Prop) (w : World) (g : Way) (f : Int → Option Value) : Prop :=
  ∀ v : Int, (g v = none → f v = none) ∧ ∀ u, g v = some u → ∃ a cap, f v = some (.agg #[.int .i64 u.v, .int .i64 u.f, .slice a u.args.length cap]) ∧ InP p w u.args a
theorem GMap.mono {p q : Nat → Prop} {w w' : World} {g : Way} {f : Int → Option Value} (hs : ∀ k, p k → k < w.heap.size → q k ∧ w'.heap[k]? = w.heap[k]?) (h : GMap p w g f) : GMap q w' g f := fun v =>
  ⟨(h v).1, fun u hu => by
    obtain ⟨a, cap, h1, h2⟩ := (h v).2 u hu
    exact ⟨a, cap, h1, InP_mono (fun b o x hp hx => ⟨(hs b hp (lt_of_cell hx)).1, by rw [World.cell?_of_block (w := w) (a := ⟨b, o, none⟩) (hs b hp (lt_of_cell hx)).2]; exact hx⟩) _ _ _ (Nat.le_refl _) h2⟩⟩
/-- A way in memory: in block b, with what lies behind it. -/
def WayAt (p : Nat → Prop) (w : World) (b n : Nat) (g : Way) : Prop := p b ∧ ∃ f, MapAt w b n f ∧ GMap p w g f
theorem WayAt.lt {p : Nat → Prop} {w : World} {b n : Nat} {g : Way} (h : WayAt p w b n g) : b < w.heap.size := by obtain ⟨_, f, hM, _⟩ := h; exact hM.lt
theorem WayAt.mono {p q : Nat → Prop} {w w' : World} {b n : Nat} {g : Way} (hs : ∀ k, p k → k < w.heap.size → q k ∧ w'.heap[k]? = w.heap[k]?) (h : WayAt p w b n g) : WayAt q w' b n g := by
  have hl := h.lt
  obtain ⟨hp, f, hM, hG⟩ := h
  exact ⟨(hs b hp hl).1, f, hM.same (hs b hp hl).2, hG.mono hs⟩
theorem WayAt.below {p : Nat → Prop} {w w' : World} {b n : Nat} {g : Way} (h : WayAt p w b n g) (hb : Below w.heap.size w w') : WayAt p w' b n g := h.mono fun k hp hk => ⟨hp, hb.block k hk⟩
theorem WayAt.imp {p q : Nat → Prop} {w : World} {b n : Nat} {g : Way} (h : WayAt p w b n g) (hi : ∀ k, p k → q k) : WayAt q w b n g := h.mono fun k hp _ => ⟨hi k hp, rfl⟩
/-- The terms are not great. -/
def WaySz (g : Way) : Prop := ∀ v u, g v = some u → u.sz ≤ 1000 ∧ -9223372036854775808 ≤ v ∧ v ≤ 9223372036854775807
/-- Do two of them bind no variable to two things? -/
def agreeP (g o : Way) : Prop := ∀ v t u, g v = some t → o v = some u → t = u
/-- The answer tells whether it is so. -/
def Says (P : Prop) (e : Ending) : Prop := ∃ r : Bool, e = .returned (.bool r) ∧ (r = true ↔ P)
theorem says_yes {P : Prop} (h : P) : Says P (.returned (.bool true)) := ⟨true, rfl, fun _ => h, fun _ => rfl⟩
theorem says_no {P : Prop} (h : ¬ P) : Says P (.returned (.bool false)) := ⟨false, rfl, (fun e => (by cases e)), fun h' => absurd h' h⟩
/-- The step of a loop over such a map. -/
theorem wpList_next_way {w : World} {ops : Array Oper} {rest : List Oper} {o : Oper} {a : Act} {Q : Exit → Act → World → Prop} (hg : o.guard = none) (it : Operand) (hop : o.op = Op.next it false) (b r n : Nat) (D : DataW Value) (left : Go.Lit → Bool) (cnt : Nat) (f : Int → Option Value)
    (hf : ∀ k : Int, Maps.has D (.int .i64 k) = (f k).isSome ∧ ∀ v, f k = some v → ∀ z, D.atKey (.int .i64 k) z = .held v) (hsub : ∀ k : Int, left (.int .i64 k) = true → (f k).isSome = true)
    (hit : a.eval it = .pointer (some ⟨r, 0, none⟩)) (h : w.ranges Try.prog 3 Rv b r n D left cnt)
    (hDone : (∀ k : Int, left (.int .i64 k) = false) → wpList Try.prog ops Q rest (a.put o.dst (.tuple #[.bool false])) w)
    (hMore : ∀ (x : Int) (v : Value) (w' : World) (cnt' : Nat), -9223372036854775808 ≤ x ∧ x ≤ 9223372036854775807 → f x = some v → w'.ranges Try.prog 3 Rv b r n D (fun z => left z && !z.sameKey (.int .i64 x)) cnt' → cnt' < cnt →
      w.grownBy w' (some r) → w'.heap.size = w.heap.size → (Instr.entry (.pointer (some ⟨r, 0, none⟩))).run Try.prog w' = .ok (.tuple #[.int .i64 x, v]) w' → wpList Try.prog ops Q rest (a.put o.dst (.tuple #[.bool true, .int .i64 x, v])) w') :
    wpList Try.prog ops Q (o :: rest) a w := by
  refine wpList_next_ranges w hg it hop 3 Try.key3 Rv (Value.int .i64) id (fun key kl hkey => by obtain ⟨x, rfl, _⟩ := Maps.keyOf_int_inv Try.underlying3 hkey; exact ⟨x, rfl⟩) (fun v y _ => ⟨v, rfl⟩) b r n D left cnt hit h (fun _ hl => hDone (fun k => hl _)) ?_
  intro x v kl y w' cnt' hkey hlk hv hat hrg hlt hgr hsz hen
  obtain ⟨x', ex, rfl, hwx⟩ := Maps.keyOf_int_inv Try.underlying3 hkey
  cases ex
  have h1 := hsub x hlk
  obtain ⟨u, hu⟩ := Option.isSome_iff_exists.1 h1
  have h2 := (hf x).2 u hu .nil
  rw [hat] at h2
  have h3 : y = (.held v, []) := by
    have : Rv v = some y := hv
    rw [Rv] at this
    exact (Option.some.inj this).symm
  rw [h3] at h2
  have h4 : v = u := by simpa using h2
  have hb : -9223372036854775808 ≤ x ∧ x ≤ 9223372036854775807 := by
    have h9 := hwx
    simp [Go.Lit.wf, IntKind.min, IntKind.max, IntKind.signed, IntKind.bits] at h9
    omega
  exact hMore x v w' cnt' hb (by rw [h4]; exact hu) hrg hlt hgr hsz hen
theorem same_key (x k : Int) : (Go.Lit.int .i64 k).sameKey (.int .i64 x) = (k == x) := by
  rw [Bool.eq_iff_iff]
  simp [Go.Lit.sameKey]
theorem grown_none {w w' : World} (hb : Below w.heap.size w w') : w.grownBy w' none := ⟨hb.os, hb.tape, hb.output, hb.size, fun k hk _ => hb.block k hk⟩
attribute [local go_sem ↓] Go.wp_at_zero Go.wp_at_succ
set_option maxRecDepth 100000 in
set_option maxHeartbeats 1000000 in
theorem agrees_any (p : Nat → Prop) (g o : Way) (b n b2 n2 : Nat) (w : World) (hgz : WaySz g) (hg : WayAt p w b n g) (ho : WayAt p w b2 n2 o) :
    Calls Try.prog 89 #[.map (some b), .map (some b2)] w fun e w' => Says (agreeP g o) e ∧ Below w.heap.size w w' := by
  obtain ⟨_, f, ⟨D, hD, hf⟩, hG⟩ := hg
  obtain ⟨_, f2, hM2, hG2⟩ := ho
  have Hf := hide hf
  have HG := hide hG
  have HG2 := hide hG2
  have HM2 := hide hM2
  have Hgz := hide hgz
  clear hf hG hG2 hM2 hgz
  go_enter Try.func89, Try.ntmps89
  go_wp2_with (first | (at_range; refine wpList_range_own _ rfl _ 127 rfl 3 28 Try.key3 Try.underW _ b n D rfl hD ?_; intro w0 hrg0 hg0 hs0) | go_in)
  go_frame
  have Hb0 : Hid (Below w.heap.size w w0) := (Below.refl w.heap.size w).grown hg0 (Nat.le_refl _) (fun k hk => by cases hk)
  have H0 : Hid (∀ k : Int, Maps.has D (.int .i64 k) = true → (f k).isSome = true) := fun k hk => by rw [← (Hf.out k).1]; exact hk
  go_loopw [12] (fun _ wr => ∃ (left : Go.Lit → Bool) (cnt : Nat), Hid (wr.ranges Try.prog 3 Rv b w.heap.size n D left cnt) ∧ Hid (∀ k : Int, left (.int .i64 k) = true → (f k).isSome = true) ∧ Hid (∀ (k : Int) (t u : T), left (.int .i64 k) = false → g k = some t → o k = some u → t = u) ∧ Hid (Below w.heap.size w wr)) (fun _ wr => wr.rangeLeft b w.heap.size)
  case atStart => exact ⟨_, _, hide hrg0, H0, hide (fun k t u hk hk1 _ => by
    obtain ⟨a, cap, h1, _⟩ := (HG.out k).2 t hk1
    rw [(Hf.out k).1, h1] at hk; cases hk), Hb0⟩
  case round =>
    obtain ⟨left, cnt, Hrg, Hsub, Hag, Hb⟩ := hrel
    clear hrg0 hg0 hs0 hD
    go_wp2_with (first | (at_next; refine wpList_next_way rfl _ rfl b w.heap.size n D left cnt f Hf.out Hsub.out rfl Hrg.out ?_ ?_) | go_in)
    · intro hl0
      have Hend : Hid (agreeP g o) := (fun v t u h1 h2 => Hag.out v t u (hl0 v) h1 h2)
      clear hl0
      go_wp2_with fail
      go_ret
      exact ⟨says_yes Hend.out, Hb.out⟩
    · intro x v w1 cnt1 hxI hxJ hfx hrg1 hlt hg1 hs1 hen
      have Hb1 : Hid (Below w.heap.size w w1) := Hb.out.grown hg1 Hb.out.size (fun k hk => by cases hk; exact Nat.le_refl _)
      obtain ⟨t, htx⟩ : ∃ t, g x = some t := by
        cases hgx : g x with
        | none => rw [(HG.out x).1 hgx] at hfx; cases hfx
        | some t => exact ⟨t, rfl⟩
      obtain ⟨a, cap, hfv, hin⟩ := (HG.out x).2 t htx
      obtain rfl : v = .agg #[.int .i64 t.v, .int .i64 t.f, .slice a t.args.length cap] := Option.some.inj (hfx.symm.trans hfv)
      have Hin := hide (InP_imp (q := fun _ => True) (fun _ _ => trivial) (InP_below Hb1.out hin))
      have htz := (Hgz.out x t htx).1
      have hlook := fun o1 => (HM2.out.below (Hb1.out.trans ((below1 w1 o1).mono Hb1.out.size))).look_ok (t := 127) Try.underW (Try.zeroW _) (k := x) hxI hxJ
      have Hrg1 := hide hrg1
      have Hmes := hide (show ∀ wr' : World, wr'.ranges Try.prog 3 Rv b w.heap.size n D (fun z => left z && !z.sameKey (.int .i64 x)) cnt1 → wr'.rangeLeft b w.heap.size < wr.rangeLeft b w.heap.size from fun wr' h => by rw [h.left_eq, Hrg.out.left_eq]; exact hlt)
      have Hkp := hide (fun (w' : World) (hb : Below w1.heap.size w1 w') => hrg1.kept (grown_none hb) (by simp) (by simp))
      have Hsub' : Hid (∀ k : Int, (left (.int .i64 k) && !(Go.Lit.int .i64 k).sameKey (.int .i64 x)) = true → (f k).isSome = true) := fun k hk => Hsub.out k (by rw [Bool.and_eq_true] at hk; exact hk.1)
      have Hag' : Hid ((∀ u, o x = some u → t = u) → ∀ (k : Int) (t' u : T), (left (.int .i64 k) && !(Go.Lit.int .i64 k).sameKey (.int .i64 x)) = false → g k = some t' → o k = some u → t' = u) := by
        intro h9 k t' u hk h1 h2
        rw [same_key] at hk
        by_cases hkx : k = x
        · subst hkx
          rw [htx] at h1
          obtain rfl := Option.some.inj h1
          exact h9 u h2
        · have : (k == x) = false := by simpa using hkx
          rw [this] at hk
          exact Hag.out k t' u (by simpa using hk) h1 h2
      have Htx := hide htx
      have HrB := hide hg1
      clear hrg1 hlt hg1 hfx hfv hin htx
      cases hox : o x with
      | none =>
        rw [(HG2.out x).1 hox] at hlook
        have Hag2 := hide (Hag'.out (fun u hu => by rw [hox] at hu; cases hu))
        clear hox Hag'
        simp only [Option.getD_none, Option.isSome_none] at hlook
        go_wp2_with fail
        go_roundw
        case rel => exact ⟨_, cnt1, hide (Hkp.out _ (below2 _ _ _)), Hsub', Hag2, hide (Hb1.out.trans ((below2 _ _ _).mono Hb1.out.size))⟩
        case measure => exact Hmes.out _ (Hkp.out _ (below2 _ _ _))
      | some u =>
        obtain ⟨a2, cap2, hf2, hin2⟩ := (HG2.out x).2 u hox
        rw [hf2] at hlook
        have Hin2 := hide (InP_imp (q := fun _ => True) (fun _ _ => trivial) (InP_below Hb1.out hin2))
        have HS := hide (fun o1 o2 => treeSame_any t.sz t u a cap a2 cap2 ((w1.alloc o1).alloc o2) (Nat.le_refl _) htz (InP_alloc o2 (InP_alloc o1 Hin.out)) (InP_alloc o2 (InP_alloc o1 Hin2.out)))
        simp only [Option.getD_some, Option.isSome_some] at hlook
        have Hox := hide hox
        clear hox hf2 hin2
        go_wp2_with fail
        refine (HS.out _ _).mono ?_
        rintro e w2 ⟨rfl, hb2⟩
        have Hb2 := hide ((below2 w1 _ _).trans (hb2.mono (by simp; omega)))
        clear hb2 HS
        by_cases htu : sameT t u = true
        · have Hag2 := hide (Hag'.out (fun u' hu' => by rw [Hox.out] at hu'; obtain rfl := Option.some.inj hu'; exact sameT_iff.1 htu))
          rw [htu]
          clear htu Hag'
          go_wp2_with fail
          go_roundw
          case rel => exact ⟨_, cnt1, hide (Hkp.out _ Hb2.out), Hsub', Hag2, hide (Hb1.out.trans (Hb2.out.mono Hb1.out.size))⟩
          case measure => exact Hmes.out _ (Hkp.out _ Hb2.out)
        · have htu' : sameT t u = false := by simpa using htu
          have Hend : Hid (¬ agreeP g o) := (fun h => htu (sameT_iff.2 (h x t u Htx.out Hox.out)))
          rw [htu']
          clear htu htu'
          go_wp2_with fail
          go_ret
          exact ⟨says_no Hend.out, Hb1.out.trans (Hb2.out.mono Hb1.out.size)⟩
end Go.Proofs.Ytbkedppkdhfpoab

namespace Go.Proofs.Ytbkedppkdhfpoab
open Go.RowKit Go.Maps

/-- The variables, sorted. -/
def keysB (bs : List (Int × T)) : List Int := (bs.map (·.1)).mergeSort (fun x y => decide (x ≤ y))
/-- The bindings, sorted by variables. -/
def sortB (bs : List (Int × T)) : List (Int × T) := (keysB bs).map (fun v => (v, (lookB bs v).getD zeroT))
theorem keysB_length (bs : List (Int × T)) : (keysB bs).length = bs.length := by rw [keysB, List.length_mergeSort, List.length_map]
theorem sortB_length (bs : List (Int × T)) : (sortB bs).length = bs.length := by rw [sortB, List.length_map, keysB_length]
theorem lookB_isSome {bs : List (Int × T)} {v : Int} : v ∈ bs.map (·.1) ↔ (lookB bs v).isSome = true := by
  induction bs with
  | nil => simp [lookB]
  | cons x bs ih =>
    obtain ⟨w, u⟩ := x
    rw [List.map_cons, List.mem_cons, lookB]
    by_cases h : w = v
    · rw [if_pos h]; simp [h]
    · rw [if_neg h, ← ih]
      constructor
      · rintro (e | e)
        · exact absurd e.symm h
        · exact e
      · exact Or.inr
theorem once_nodup {bs : List (Int × T)} (h : Once bs) : (bs.map (·.1)).Nodup := by
  rw [List.nodup_iff_pairwise_ne, List.pairwise_iff_getElem]
  intro i j hi hj hij e
  rw [List.length_map] at hi hj
  simp only [List.getElem_map] at e
  have := h i j bs[i] bs[j] (List.getElem?_eq_getElem hi) (List.getElem?_eq_getElem hj) e
  omega
theorem keysB_at {bs : List (Int × T)} {k : Nat} {v : Int} (h : (keysB bs)[k]? = some v) : ∃ u, lookB bs v = some u ∧ (sortB bs)[k]? = some (v, u) := by
  have hm := List.mem_of_getElem? h
  rw [keysB, List.mem_mergeSort] at hm
  obtain ⟨u, hu⟩ := Option.isSome_iff_exists.1 (lookB_isSome.1 hm)
  exact ⟨u, hu, by rw [sortB, List.getElem?_map, h]; simp [hu]⟩

set_option maxRecDepth 100000 in
set_option maxHeartbeats 2000000 in
theorem bindingsP_any (q : Nat → Prop) (b : Nat) (bs : List (Int × T)) (w : World) (ho : Once bs) (hl : bs.length ≤ 1000) (hr : ∀ x, x ∈ bs → 1 ≤ x.1 ∧ x.1 ≤ 1000) (hM : MB q b bs w) :
    Calls Try.prog 101 #[.map (some b)] w fun e w' => ∃ a cap, e = .returned (.slice a bs.length cap) ∧ Binds (fun k => w.heap.size ≤ k) w' (sortB bs) a ∧ Below w.heap.size w w' := by
  obtain ⟨⟨f, hMf, hBf⟩, hsz⟩ := hM
  have HK := hide (show ∀ x, x ∈ bs.map (·.1) ↔ (f x).isSome = true from fun x => by
    rw [lookB_isSome]
    cases h : lookB bs x with
    | none => rw [(hBf x).1 h]; simp
    | some u => obtain ⟨a, cap, hf, _⟩ := (hBf x).2 u h; rw [hf]; simp)
  have hlen : ∀ ty, (Builtin.len_ #[142] ty #[.map (some b)]).run Try.prog w = .ok (.int .i64 (bs.length : Nat)) w := fun ty => by
    obtain ⟨D, hD, hf⟩ := hMf
    have hp := keys_perm hD hf (once_nodup ho) HK.out
    have e1 : Maps.size D = bs.length := by
      have h1 := hp.length_eq
      rw [List.length_map] at h1
      rw [h1]
      obtain ⟨es, rfl⟩ := hD.isMap
      simp [intKeys, Maps.size]
    rw [hD.len Try.underlying142 ty, e1]
  have hmk := run_make4 bs.length (by omega)
  have HM := hide hMf
  have HB := hide hBf
  have Hsz := hide hsz
  have Ho := hide ho
  have Hr := hide hr
  obtain ⟨ti, hi, hzz⟩ := Option.map_eq_some_iff.1 Try.info167
  simp only [Prod.mk.injEq] at hzz
  obtain ⟨hz0, hz1, hz2⟩ := hzz
  clear hMf hBf hsz ho hr
  go_enter Try.func101, Try.ntmps101
  go_wp2_with (first
    | (go_at_call 120; refine (keysB_any _ _).mono ?_; rintro e w' ⟨rfl, rfl⟩)
    | (go_at_call 119; refine (sortedB_any b bs.length f (bs.map (·.1)) (by omega) (once_nodup Ho.out) HK.out _ _ (HM.out.below (below2 _ _ _)) (by rw [cell_new 0 (by simp)]; rfl)).mono ?_; rintro e w1 ⟨v1, rfl, hown1, hb1⟩; obtain ⟨va, vc, rfl, hints1, _⟩ := own_ints hown1))
  have hz1' : w.heap.size + 2 ≤ w1.heap.size := by have := hb1.size; simp at this; omega
  have Hbw1 : Hid (Below w.heap.size w w1) := (below2 _ _ _).trans (hb1.mono (by simp; omega))
  have Hl0 : Hid (OutsB (fun _ => False) w.heap.size w1 (.slice (some ⟨w.heap.size, 0, none⟩) 0 bs.length) []) := OutsB_below (OutsB_below (OutsB_made (Nat.le_refl _) (by omega)) (below1 _ _)) hb1
  have Hkeys : Hid (∀ (k : Nat) (v : Int), (keysB bs)[k]? = some v → ∃ b1 off1, va = some ⟨b1, off1, none⟩ ∧ b1 ≠ w.heap.size ∧ b1 < w1.heap.size ∧ w1.cell? ⟨b1, off1 + k, none⟩ = some (.int .i64 v)) := fun k v hv => by
    have hlt : k < (keysB bs).length := by
      rcases Nat.lt_or_ge k (keysB bs).length with h | h
      · exact h
      · rw [List.getElem?_eq_none h] at hv; cases hv
    have hpos : 0 < (keysB bs).length := by omega
    obtain ⟨b1, off1, rfl, hc⟩ := Ints_some hints1 hpos
    have h1 := hc k hlt
    rw [List.getD_eq_getElem?_getD, show ((bs.map (·.1)).mergeSort (fun x y => decide (x ≤ y)))[k]? = some v from hv] at h1
    have h2 := own_lt hown1 b1 rfl
    simp at h2
    exact ⟨b1, off1, rfl, by omega, lt_of_cell h1, h1⟩
  clear hb1 hown1 hints1 hlen hmk
  go_wp2_with fail
  go_loopw [3, 13] (fun l i wr => ∃ k : Nat, k ≤ bs.length ∧ i = .int .i64 k ∧ OutsB (fun _ => False) w.heap.size wr l ((sortB bs).take k) ∧ Grw w1 wr (some w.heap.size) l.ownBlock) (fun _ i _ => bs.length - (intOf i).toNat)
  case atStart => exact ⟨0, Nat.zero_le _, rfl, Hl0.out, Grw.refl _ _⟩
  case round =>
    obtain ⟨k, hk, rfl, hout, hgrw⟩ := hrel
    have Hout := hide hout
    have Hgrw := hide hgrw
    have hzr := hgrw.gr.size
    clear hout hgrw
    have HbR : Hid (Below w.heap.size w wr) := Hbw1.out.trans (Hgrw.out.below (by omega) (fun g hg => by cases hg; exact Nat.le_refl _))
    by_cases hlt : k < bs.length
    · obtain ⟨v, hv⟩ : ∃ v, (keysB bs)[k]? = some v := ⟨(keysB bs)[k]'(by rw [keysB_length]; exact hlt), List.getElem?_eq_getElem _⟩
      obtain ⟨u, hlk, hst⟩ := keysB_at hv
      obtain ⟨b1, off1, rfl, hb1n, hb1l, hc1⟩ := Hkeys.out k v hv
      have hcr : wr.cell? ⟨b1, off1 + k, none⟩ = some (.int .i64 v) := by
        rw [World.cell?_of_block (w := w1) (a := ⟨b1, off1 + k, none⟩) (Hgrw.out.gr.block b1 hb1l (fun e => hb1n (by cases e; rfl)))]; exact hc1
      obtain ⟨a1, cap1, hf, hin1⟩ := (HB.out v).2 u hlk
      have husz := Hsz.out _ _ (lookB_mem hlk)
      have hvr := Hr.out _ (lookB_mem hlk)
      have hvr1 : 1 ≤ v := hvr.1
      have hvr2 : v ≤ 1000 := hvr.2
      have hlook := (HM.out.below HbR.out).look (t := 142) Try.underlying142 (Try.zero28 _) (k := v) (by omega) (by omega)
      rw [hf] at hlook
      have HT1 := hide (show (sortB bs).take (k + 1) = (sortB bs).take k ++ [(v, u)] by rw [List.take_add_one, hst]; rfl)
      have Htk : Hid (((sortB bs).take k).length = k) := by show _ = _; rw [List.length_take, sortB_length]; omega
      have HC := hide (copyOf_any (u.sz + 1) u a1 cap1 wr (by omega) husz (InP_imp (q := fun _ => True) (fun _ _ => trivial) (InP_below HbR.out hin1)))
      have hkI : (k : Int) < bs.length := by omega
      have hk0 : (0 : Int) ≤ k := by omega
      clear hv hlk hst hc1 hf hin1 hvr Hkeys
      go_wp2_with (first
        | (go_at_call 68
           refine HC.out.mono ?_
           rintro e w2 ⟨s, Bc, rfl, hown, _, hrg, hb2⟩
           obtain ⟨a2, cap2, rfl, hin2⟩ := In_iff.1 (Own_inP hown)
           have hzw2 := hb2.size
           have Hout2 := hide (OutsB_below Hout.out hb2)
           obtain ⟨xs, hownL, hkids⟩ := Hout2.out
           have HO := hide (fun o1 => own_same hownL (w' := w2.alloc o1) (fun g hg => (below1 w2 o1).block g (own_lt hownL g hg).2))
           have HCi : Hid (InP (fun k' => (False ∨ w.heap.size ≤ k') ∧ u3.ownBlock ≠ some k') w2 u.args a2) := InP_imp (fun k' hk' => by
             have h8 := (hrg k' hk').1
             refine ⟨Or.inr (by omega), fun e => ?_⟩
             obtain ⟨xs0, h0, _⟩ := Hout.out
             have := (own_lt h0 k' e).2
             omega) hin2
           have Hg2 := hide (Hgrw.out.trans (Grw.of_below _ hb2))
           clear hown hrg hin2 hb2)
        | (at_builtin
           go_must (refine wpList_append_lies _ rfl (.tmp 17) (.tmp 24) 98 rfl w.heap.size 167 ti (.agg #[.int .i64 0, .int .i64 0, .int .i64 0, .slice none 0 0]) 4 48 Try.underlying98 hi hz0 hz1 hz2 rfl (by decide) u3 ((sortB bs).take k).length xs rfl (HO.out _) ⟨w2.heap.size, 0, none⟩ 1 1 [.int .i64 v, .int .i64 u.v, .int .i64 u.f, .slice a2 u.args.length cap2] rfl rfl (four_new (by first | rfl | simp)) (by simp [Value.oneCell']) (by decide) (by have := Htk.out; unfold maxLen; omega) (by have := Htk.out; omega) (by simp; omega) _ rfl ?_)
           intro g capg w3 hown3 hgr3 hat3 hlt3))
      have hO3 := OutsB_step (x := (v, u)) (KidsB_mono (fun k' hk' hlt' => ⟨hk', (below1 w2 _).block k' hlt'⟩) hkids) (InP_alloc _ HCi.out) hown3 hgr3 (hat3.imp id (fun h => by rw [h]))
      have hG3 : Grw w1 w3 (some w.heap.size) (Value.slice (some ⟨g, 0, none⟩) (((sortB bs).take k).length + 1) capg).ownBlock := Hg2.out.trans ((Grw.of_below _ (below1 _ _)).trans ⟨hgr3, by
        rcases hat3 with h | h
        · exact Or.inl h.symm
        · exact Or.inr ⟨g, rfl, by rw [h]; simp⟩⟩)
      rw [← HT1.out, Htk.out] at hO3
      rw [Htk.out] at hG3
      have hmin : min k (sortB bs).length = k := by rw [sortB_length]; omega
      go_roundw
      case rel => exact ⟨k + 1, by omega, by go_num, by rw [hmin]; exact hO3, by rw [hmin]; exact hG3⟩
      case measure => simp [intOf]; omega
    · have hk2 : k = (sortB bs).length := by rw [sortB_length]; omega
      rw [hk2, List.take_length] at Hout
      obtain ⟨la, lc, rfl, hinL⟩ := OutsB_end Hout.out
      rw [sortB_length] at hk2
      subst hk2
      have HinL := hide hinL
      rw [sortB_length]
      clear hinL Hout
      go_wp2_with fail
      go_ret
      exact ⟨la, lc, rfl, Binds_imp (fun k' hk' => by rcases hk' with h | h; exact h.elim; exact h) HinL.out, HbR.out⟩

end Go.Proofs.Ytbkedppkdhfpoab

namespace Go.Proofs.Ytbkedppkdhfpoab

theorem okP_var {ar : List Int} {t : T} (h : okP ar t) (hv : t.v ≠ 0) : t.args = [] := by
  have h1 := (okP_iff.1 h).1
  rw [partErr_var hv, varErr] at h1
  by_cases h2 : t.v < 1 ∨ 1000 < t.v
  · rw [if_pos h2] at h1; cases h1
  · rw [if_neg h2] at h1
    by_cases h3 : t.args.length ≠ 0 ∨ t.f ≠ 0
    · rw [if_pos h3] at h1; cases h1
    · exact List.length_eq_zero_iff.1 (by omega)
end Go.Proofs.Ytbkedppkdhfpoab

namespace Go.Proofs.Ytbkedppkdhfpoab

/-- The head of a part. -/
def hd (P : List Pt) (k : Nat) : Nat := (headF P (P.length + 1) k).getD 0
section
variable {P : List Pt} {x y : Nat} {p q : Pt}
end
end Go.Proofs.Ytbkedppkdhfpoab

namespace Go.Proofs.Ytbkedppkdhfpoab

/-- Variables made what θ says. -/
def sub (θ : Int → T) : T → T
  | ⟨v, f, args⟩ => if v = 0 then ⟨0, f, subL args⟩ else θ v
  where
  subL : List T → List T
    | [] => []
    | t :: ts => sub θ t :: subL ts
theorem subL_map (θ : Int → T) (ts : List T) : sub.subL θ ts = ts.map (sub θ) := by
  induction ts with
  | nil => rfl
  | cons t ts ih => rw [sub.subL, ih]; rfl
theorem sub_fn {θ : Int → T} {t : T} (h : t.v = 0) : sub θ t = ⟨0, t.f, t.args.map (sub θ)⟩ := by
  cases t; rw [sub, if_pos h, subL_map]
theorem sub_var {θ : Int → T} {t : T} (h : t.v ≠ 0) : sub θ t = θ t.v := by
  cases t; rw [sub, if_neg h]

/-- A variable stands in a term. -/
def occ (v : Int) : T → Prop
  | ⟨w, _, args⟩ => w = v ∨ occL args
  where
  occL : List T → Prop
    | [] => False
    | t :: ts => occ v t ∨ occL ts
theorem occ_iff {v : Int} {t : T} : occ v t ↔ t.v = v ∨ occ.occL v t.args := by cases t; exact Iff.rfl
theorem occL_mem {v : Int} {ts : List T} (h : occ.occL v ts) : ∃ (i : Nat) (t : T), ts[i]? = some t ∧ occ v t := by
  induction ts with
  | nil => exact h.elim
  | cons t ts ih =>
    rcases h with h | h
    · exact ⟨0, t, rfl, h⟩
    · obtain ⟨i, x, h1, h2⟩ := ih h
      exact ⟨i + 1, x, by simpa using h1, h2⟩

end Go.Proofs.Ytbkedppkdhfpoab

namespace Go.Proofs.Ytbkedppkdhfpoab

/-- What variables are by bindings. -/
def byB (bs : List (Int × T)) (v : Int) : T := (putIn bs v).getD ⟨v, 0, []⟩
theorem apply_sub {ar : List Int} {bs : List (Int × T)} : ∀ (n : Nat) (t : T), t.sz ≤ n → okP ar t → applyT bs t = sub (byB bs) t := by
  intro n
  induction n with
  | zero => intro t h; have := t.sz_pos; omega
  | succ n ih =>
    intro t h ht
    by_cases hv : t.v = 0
    · rw [applyT_fn hv, sub_fn hv]
      have : t.args.map (applyT bs) = t.args.map (sub (byB bs)) := List.map_congr_left fun a ha => by
        have := arg_sz ha
        exact ih a (by omega) (okArg ht ha)
      rw [this]
    · rw [sub_var hv, byB]
      cases hp : putIn bs t.v with
      | some u => rw [applyT_some hp]; rfl
      | none =>
        rw [applyT_none hp, (ok_var ht hv).1, (ok_var ht hv).2]; rfl
theorem occL_of {v : Int} {a : T} {l : List T} (ha : a ∈ l) (hv : occ v a) : occ.occL v l := by
  induction l with
  | nil => cases ha
  | cons b l ihl =>
    rcases List.mem_cons.1 ha with rfl | ha
    · exact Or.inl hv
    · exact Or.inr (ihl ha)
theorem sub_congr {θ σ : Int → T} : ∀ (n : Nat) (t : T), t.sz ≤ n → (∀ v, v ≠ 0 → occ v t → θ v = σ v) → sub θ t = sub σ t := by
  intro n
  induction n with
  | zero => intro t h; have := t.sz_pos; omega
  | succ n ih =>
    intro t ht h
    by_cases hv : t.v = 0
    · rw [sub_fn hv, sub_fn hv]
      have : t.args.map (sub θ) = t.args.map (sub σ) := List.map_congr_left fun a ha => by
        have := arg_sz ha
        exact ih a (by omega) fun v h0 hv => h v h0 (occ_iff.2 (Or.inr (occL_of ha hv)))
      rw [this]
    · rw [sub_var hv, sub_var hv]; exact h _ hv (occ_iff.2 (Or.inl rfl))

end Go.Proofs.Ytbkedppkdhfpoab

namespace Go.Proofs.Ytbkedppkdhfpoab
open Go.RowKit

/-- A term's functions stand in another one. -/
def Cov : T → T → Prop
  | ⟨v, f, args⟩, t => v ≠ 0 ∨ (t.v = 0 ∧ f = t.f ∧ CovL args t.args)
  where
  CovL : List T → List T → Prop
  | [], us => us = []
  | p :: ps, us => ∃ t ts, us = t :: ts ∧ Cov p t ∧ CovL ps ts
theorem Cov_iff (p t : T) : Cov p t ↔ (p.v ≠ 0 ∨ (t.v = 0 ∧ p.f = t.f ∧ Cov.CovL p.args t.args)) := by cases p; rw [Cov]
theorem CovL_iff : ∀ (ps us : List T), Cov.CovL ps us ↔ (ps.length = us.length ∧ ∀ (i : Nat) (p u : T), ps[i]? = some p → us[i]? = some u → Cov p u) := by
  intro ps
  induction ps with
  | nil =>
    intro us
    rw [Cov.CovL]
    constructor
    · rintro rfl; exact ⟨rfl, fun i p u h => by simp at h⟩
    · rintro ⟨h, _⟩; exact List.length_eq_zero_iff.1 h.symm
  | cons p ps ih =>
    intro us
    rw [Cov.CovL]
    constructor
    · rintro ⟨t, ts, rfl, h1, h2⟩
      obtain ⟨h3, h4⟩ := (ih ts).1 h2
      refine ⟨by simp [h3], fun i q u hq hu => ?_⟩
      cases i with
      | zero =>
        rw [List.getElem?_cons_zero] at hq hu
        obtain rfl := Option.some.inj hq
        obtain rfl := Option.some.inj hu
        exact h1
      | succ i => exact h4 i q u (by simpa using hq) (by simpa using hu)
    · rintro ⟨h1, h2⟩
      cases us with
      | nil => simp at h1
      | cons t ts => exact ⟨t, ts, rfl, h2 0 p t rfl rfl, (ih ts).2 ⟨by simpa using h1, fun i q u hq hu => h2 (i + 1) q u (by simpa using hq) (by simpa using hu)⟩⟩
/-- What can be made another one covers it. -/
theorem cov_sub {ar : List Int} {θ : Int → T} : ∀ (n : Nat) (p : T), p.sz ≤ n → okP ar p → Cov p (sub θ p) := by
  intro n
  induction n with
  | zero => intro p h; have := p.sz_pos; omega
  | succ n ih =>
    intro p h hp
    by_cases hv : p.v = 0
    · rw [Cov_iff, sub_fn hv]
      refine Or.inr ⟨rfl, rfl, (CovL_iff _ _).2 ⟨by simp, fun i q u hq hu => ?_⟩⟩
      simp only [List.getElem?_map, hq, Option.map_some, Option.some.injEq] at hu
      rw [← hu]
      have hm := List.mem_of_getElem? hq
      exact ih q (by have := arg_sz hm; omega) (okArg hp hm)
    · rw [Cov_iff]; exact Or.inl hv

attribute [local go_sem ↓] Go.wp_at_zero Go.wp_at_succ
set_option maxRecDepth 100000 in
set_option maxHeartbeats 1000000 in
theorem equalCov_any (n : Nat) (hc : ∀ (t u : T) (a : Option Addr) (cap : Nat) (a2 : Option Addr) (cap2 : Nat) (w : World), t.sz ≤ n → InL w t.args a → InL w u.args a2 →
      Calls Try.prog 125 #[.agg #[.int .i64 t.v, .int .i64 t.f, .slice a t.args.length cap], .agg #[.int .i64 u.v, .int .i64 u.f, .slice a2 u.args.length cap2]] w fun e w' => Says (Cov t u) e ∧ Below w.heap.size w w')
    (ts us : List T) (a : Option Addr) (cap : Nat) (a2 : Option Addr) (cap2 : Nat) (w : World) (hn : T.sz.szL ts ≤ n) (h1000 : T.sz.szL ts ≤ 1000) (hin : InL w ts a) (hin2 : InL w us a2) :
    Calls Try.prog 109 #[.slice a ts.length cap, .slice a2 us.length cap2, .func (.func 125) #[] #[]] w fun e w' => Says (Cov.CovL ts us) e ∧ Below w.heap.size w w' := by
  have Hc := hide hc
  clear hc
  by_cases h3 : ts.length = us.length
  · have e3 : ((ts.length : Int) != us.length) = false := by simp; omega
    have H3 := hide h3
    clear h3
    go_enter Try.func109, Try.ntmps109
    go_wp2_with fail
    go_loopw [17] (fun i wr => ∃ k : Nat, k ≤ ts.length ∧ i = .int .i64 k ∧ Hid (∀ (i : Nat) (p u : T), i < k → ts[i]? = some p → us[i]? = some u → Cov p u) ∧ Below w.heap.size w wr) (fun i _ => ts.length - (intOf i).toNat)
    case atStart => exact ⟨0, Nat.zero_le _, rfl, hide (fun i p u h => by omega), Below.refl _ _⟩
    case round =>
      obtain ⟨k, hk, rfl, HL, hb⟩ := hrel
      by_cases hlt : k < ts.length
      · have hlt2 : k < us.length := by have := H3.out; omega
        obtain ⟨b, off, rfl⟩ := InP_some hin (by omega)
        obtain ⟨b2, off2, rfl⟩ := InP_some hin2 (by omega)
        obtain ⟨x, hx⟩ : ∃ x, ts[k]? = some x := ⟨ts[k], List.getElem?_eq_getElem hlt⟩
        obtain ⟨y, hy⟩ : ∃ y, us[k]? = some y := ⟨us[k], List.getElem?_eq_getElem hlt2⟩
        obtain ⟨a3, cap3, _, k0, k1, k2, hinx⟩ := InP_at (InP_below hb hin) hx
        obtain ⟨a4, cap4, _, m0, m1, m2, hiny⟩ := InP_at (InP_below hb hin2) hy
        have hxsz := T.szL_mem (List.mem_of_getElem? hx)
        have hk3 : k ≤ 1000 := by have := T.length_le ts; omega
        have hkI : (k : Int) < ts.length := by omega
        have hkJ : (k : Int) < us.length := by omega
        have hk0 : (0 : Int) ≤ k := by omega
        have hb1 := lt_of_cell k0
        have hb2 := lt_of_cell m0
        have Hx := hide (fun o1 o2 => Hc.out x y a3 cap3 a4 cap4 ((wr.alloc o1).alloc o2) (by omega) (InP_alloc o2 (InP_alloc o1 hinx)) (InP_alloc o2 (InP_alloc o1 hiny)))
        have Hb := hide hb
        have hz := hb.size
        have Hxy := hide (And.intro hx hy)
        clear hx hy hinx hiny hb
        go_wp2_with fail
        refine (Hx.out _ _).mono ?_
        rintro e w3 ⟨⟨r, rfl, hr⟩, hb3⟩
        have Hb3 := hide (Hb.out.trans (((below2 wr _ _).trans (hb3.mono (by simp; omega))).mono hz))
        have Hr := hide hr
        clear hb3 hr
        cases r with
        | true =>
          have Hgo : Hid (∀ (i : Nat) (p u : T), i < k + 1 → ts[i]? = some p → us[i]? = some u → Cov p u) := by
            intro i p u hi hp hu
            by_cases hik : i = k
            · subst hik
              rw [Hxy.out.1] at hp
              rw [Hxy.out.2] at hu
              obtain rfl := Option.some.inj hp
              obtain rfl := Option.some.inj hu
              exact Hr.out.1 rfl
            · exact HL.out i p u (by omega) hp hu
          go_wp2_with fail
          go_roundw
          case rel => exact ⟨k + 1, by omega, by go_num, Hgo, Hb3.out⟩
          case measure => simp [intOf]; omega
        | false =>
          have Hno : Hid (¬ Cov.CovL ts us) := fun h => by
            have h9 := ((CovL_iff ts us).1 h).2 k x y Hxy.out.1 Hxy.out.2
            exact absurd (Hr.out.2 h9) (by simp)
          go_wp2_with fail
          go_ret
          exact ⟨says_no Hno.out, Hb3.out⟩
      · have hk2 : k = ts.length := by omega
        subst hk2
        have Hyes : Hid (Cov.CovL ts us) := (CovL_iff ts us).2 ⟨H3.out, fun i p u hp hu => HL.out i p u (List.getElem?_eq_some_iff.1 hp).1 hp hu⟩
        go_wp2_with fail
        go_ret
        exact ⟨says_yes Hyes.out, hb⟩
  · have Hno : Hid (¬ Cov.CovL ts us) := fun h => h3 ((CovL_iff ts us).1 h).1
    have e3 : ((ts.length : Int) != us.length) = true := by simp; omega
    clear h3
    go_enter Try.func109, Try.ntmps109
    go_wp2_with fail
    go_ret
    exact ⟨says_no Hno.out, Below.refl _ _⟩
set_option maxRecDepth 100000 in
set_option maxHeartbeats 1000000 in
theorem covers_any (N : Nat) : ∀ (t u : T) (a : Option Addr) (cap : Nat) (a2 : Option Addr) (cap2 : Nat) (w : World), t.sz ≤ N → t.sz ≤ 1000 → InL w t.args a → InL w u.args a2 →
    Calls Try.prog 125 #[.agg #[.int .i64 t.v, .int .i64 t.f, .slice a t.args.length cap], .agg #[.int .i64 u.v, .int .i64 u.f, .slice a2 u.args.length cap2]] w fun e w' => Says (Cov t u) e ∧ Below w.heap.size w w' := by
  induction N with
  | zero => intro t u a cap a2 cap2 w hN; have := t.sz_pos; omega
  | succ N ih =>
    intro t u a cap a2 cap2 w hN h1000 hin hin2
    have hte := T.sz_eq t
    by_cases h0 : t.v = 0
    · have e0 : (t.v != 0) = false := by simpa using h0
      by_cases h1 : u.v = 0
      · have e1 : (u.v == 0) = true := by simpa using h1
        by_cases h2 : t.f = u.f
        · have HE := hide (fun o1 o2 => equalCov_any (min N 1000) (fun t' u' a' cap' a2' cap2' w' hn' hi hi2 => ih t' u' a' cap' a2' cap2' w' (by omega) (by omega) hi hi2) t.args u.args a cap a2 cap2 ((w.alloc o1).alloc o2) (by omega) (by omega) (InP_alloc o2 (InP_alloc o1 hin)) (InP_alloc o2 (InP_alloc o1 hin2)))
          have e2 : (t.f == u.f) = true := by simpa using h2
          have Hfin : Hid (Cov t u ↔ Cov.CovL t.args u.args) := by
            show _ ↔ _
            rw [Cov_iff]
            exact ⟨fun h => (h.resolve_left (by simpa using h0)).2.2, fun h => Or.inr ⟨h1, h2, h⟩⟩
          clear h0 h1 h2 ih
          go_enter Try.func125, Try.ntmps125
          go_wp2_with fail
          refine (HE.out _ _).mono ?_
          rintro e w1 ⟨⟨r, rfl, hr⟩, hb1⟩
          have Hb := hide ((below2 w _ _).trans (hb1.mono (by simp; omega)))
          have Hr := hide hr
          clear hb1 hr
          go_wp2_with fail
          go_ret
          exact ⟨⟨r, rfl, Hr.out.trans Hfin.out.symm⟩, Hb.out⟩
        · have e2 : (t.f == u.f) = false := by simpa using h2
          have Hno : Hid (¬ Cov t u) := by
            show ¬ _
            rw [Cov_iff]
            exact fun h => h2 (h.resolve_left (by simpa using h0)).2.1
          clear h0 h1 h2 ih
          go_enter Try.func125, Try.ntmps125
          go_wp2_with fail
          go_ret
          exact ⟨says_no Hno.out, below2 _ _ _⟩
      · have e1 : (u.v == 0) = false := by simpa using h1
        have Hno : Hid (¬ Cov t u) := by
          show ¬ _
          rw [Cov_iff]
          exact fun h => h1 (h.resolve_left (by simpa using h0)).1
        clear h0 h1 ih
        go_enter Try.func125, Try.ntmps125
        go_wp2_with fail
        go_ret
        exact ⟨says_no Hno.out, below2 _ _ _⟩
    · have e0 : (t.v != 0) = true := by simpa using h0
      have Hyes : Hid (Cov t u) := by show Cov _ _; rw [Cov_iff]; exact Or.inl h0
      clear h0 ih
      go_enter Try.func125, Try.ntmps125
      go_wp2_with fail
      go_ret
      exact ⟨says_yes Hyes.out, below2 _ _ _⟩
end Go.Proofs.Ytbkedppkdhfpoab
