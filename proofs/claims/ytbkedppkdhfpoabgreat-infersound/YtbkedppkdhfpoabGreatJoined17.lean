/- Clauses whose variables are numbered anew; Tidy. Inferences: bindings applied to a clause, which is tidied. Inferences: of two sides that are made the same. Inferences: two variables made of what Sides answers, in whatever order they are laid. -/
import Derived.Deep.RegionHeld3
import Derived.Test.YtbkedppkdhfpoabGreatJoined16
namespace Go.Proofs.YtbkedppkdhfpoabGreat
open Go.RowKit Go.Maps
def giveC : List Lit → List Int → List Lit × List Int
  | [], ns => ([], ns)
  | x :: c, ns => ((x.1, (giveT x.2.1 ns).1, (giveT x.2.2 (giveT x.2.1 ns).2).1) :: (giveC c (giveT x.2.2 (giveT x.2.1 ns).2).2).1, (giveC c (giveT x.2.2 (giveT x.2.1 ns).2).2).2)
def giveX (x : Lit) (ns : List Int) : Lit := (x.1, (giveT x.2.1 ns).1, (giveT x.2.2 (giveT x.2.1 ns).2).1)
def giveN (x : Lit) (ns : List Int) : List Int := (giveT x.2.2 (giveT x.2.1 ns).2).2
theorem giveC_snoc (x : Lit) : ∀ (c : List Lit) (ns : List Int), giveC (c ++ [x]) ns = ((giveC c ns).1 ++ [giveX x (giveC c ns).2], giveN x (giveC c ns).2) := by
  intro c
  induction c with
  | nil => intro ns; rfl
  | cons y c ih => intro ns; rw [List.cons_append, giveC, ih]; rfl
theorem giveC_step {c : List Lit} {k : Nat} {x : Lit} (h : c[k]? = some x) (ns : List Int) : giveC (c.take (k + 1)) ns = ((giveC (c.take k) ns).1 ++ [giveX x (giveC (c.take k) ns).2], giveN x (giveC (c.take k) ns).2) := by
  rw [List.take_add_one, h]; exact giveC_snoc x _ ns
theorem giveC_length : ∀ (c : List Lit) (ns : List Int), (giveC c ns).1.length = c.length := by
  intro c
  induction c with
  | nil => intro ns; rfl
  | cons x c ih => intro ns; rw [giveC, List.length_cons, List.length_cons, ih]
theorem giveC_grow : ∀ (c : List Lit) (ns : List Int), (∀ x, x ∈ c → LitSz x) → ns.Nodup → (giveC c ns).2.Nodup ∧ (giveC c ns).2.length ≤ ns.length + c.length * 2000 := by
  intro c
  induction c with
  | nil => intro ns _ hn; exact ⟨hn, Nat.le_add_right _ _⟩
  | cons x c ih =>
    intro ns hs hn
    have hx := hs x List.mem_cons_self
    have h1 := (give_grow x.2.1.sz).1 x.2.1 ns (Nat.le_refl _) hn
    have h2 := (give_grow x.2.2.sz).1 x.2.2 _ (Nat.le_refl _) h1.1
    have h3 := ih _ (fun y hy => hs y (List.mem_cons_of_mem _ hy)) h2.1
    rw [giveC, List.length_cons]
    refine ⟨h3.1, ?_⟩
    have := hx.1
    have := hx.2
    have h4 := h3.2
    have h5 := h2.2
    have h6 := h1.2
    show (giveC c (giveT x.2.2 (giveT x.2.1 ns).2).2).2.length ≤ _
    omega
theorem OwnCl_open {w : World} : ∀ {c : List Lit} {g off : Nat} {B : List Nat} {k : Nat} {x : Lit}, OwnCl w c g off B → c[k]? = some x → B.Nodup →
    ∃ s1 s2 B1 B2, w.cell? ⟨g, off + k * 7, none⟩ = some (.bool x.1) ∧ w.cell? ⟨g, off + k * 7 + 1, none⟩ = some (.int .i64 x.2.1.v) ∧ w.cell? ⟨g, off + k * 7 + 2, none⟩ = some (.int .i64 x.2.1.f) ∧ w.cell? ⟨g, off + k * 7 + 3, none⟩ = some s1 ∧ w.cell? ⟨g, off + k * 7 + 4, none⟩ = some (.int .i64 x.2.2.v) ∧ w.cell? ⟨g, off + k * 7 + 5, none⟩ = some (.int .i64 x.2.2.f) ∧ w.cell? ⟨g, off + k * 7 + 6, none⟩ = some s2 ∧
      x.2.1.Own w s1 B1 ∧ x.2.2.Own w s2 B2 ∧ (∀ j, j ∈ B1 ++ B2 → j ∈ B) ∧ (B1 ++ B2).Nodup ∧
      ∀ (w' : World) (x' : Lit), w'.cell? ⟨g, off + k * 7, none⟩ = some (.bool x'.1) → w'.cell? ⟨g, off + k * 7 + 1, none⟩ = some (.int .i64 x'.2.1.v) → w'.cell? ⟨g, off + k * 7 + 2, none⟩ = some (.int .i64 x'.2.1.f) → w'.cell? ⟨g, off + k * 7 + 3, none⟩ = some s1 → w'.cell? ⟨g, off + k * 7 + 4, none⟩ = some (.int .i64 x'.2.2.v) → w'.cell? ⟨g, off + k * 7 + 5, none⟩ = some (.int .i64 x'.2.2.f) → w'.cell? ⟨g, off + k * 7 + 6, none⟩ = some s2 →
        x'.2.1.Own w' s1 B1 → x'.2.2.Own w' s2 B2 → (∀ j, (j < off + k * 7 ∨ off + k * 7 + 6 < j) → w'.cell? ⟨g, j, none⟩ = w.cell? ⟨g, j, none⟩) → (∀ i, i ∈ B → i ∉ B1 ++ B2 → w'.heap[i]? = w.heap[i]?) → OwnCl w' (c.set k x') g off B := by
  intro c
  induction c with
  | nil => intro g off B k x _ h; simp at h
  | cons t c ih =>
    intro g off B k x h hk hn
    obtain ⟨s1, s2, B1, B2, Br, rfl, h0, h1, h2, h3, h4, h5, h6, o1, o2, hr⟩ := h
    rw [List.nodup_append] at hn
    cases k with
    | zero =>
      simp at hk; subst hk
      refine ⟨s1, s2, B1, B2, by simpa using h0, by simpa using h1, by simpa using h2, by simpa using h3, by simpa using h4, by simpa using h5, by simpa using h6, o1, o2, fun j hj => List.mem_append_left _ hj, hn.1, fun w' x' g0 g1 g2 g3 g4 g5 g6 p1 p2 gc gh => ?_⟩
      refine ⟨s1, s2, B1, B2, Br, rfl, by simpa using g0, by simpa using g1, by simpa using g2, by simpa using g3, by simpa using g4, by simpa using g5, by simpa using g6, p1, p2, ?_⟩
      exact OwnCl_mono (fun i hi => gh i (List.mem_append_right _ hi) (fun hb => hn.2.2 i hb i hi rfl)) (fun j hj _ => gc j (by omega)) hr
    | succ k =>
      obtain ⟨s1', s2', C1, C2, a0, a1, a2, a3, a4, a5, a6, p1, p2, a7, a8, a9⟩ := ih hr (by simpa using hk) hn.2.1
      have e : off + 7 + k * 7 = off + (k + 1) * 7 := by omega
      rw [e] at a0 a1 a2 a3 a4 a5 a6 a9
      refine ⟨s1', s2', C1, C2, a0, a1, a2, a3, a4, a5, a6, p1, p2, fun j hj => List.mem_append_right _ (a7 j hj), a8, fun w' x' g0 g1 g2 g3 g4 g5 g6 q1 q2 gc gh => ?_⟩
      have hd : ∀ i, i ∈ B1 ++ B2 → i ∉ C1 ++ C2 := fun i hi hc => hn.2.2 i hi i (a7 i hc) rfl
      refine ⟨s1, s2, B1, B2, Br, rfl, by rw [gc off (by omega)]; exact h0, by rw [gc (off + 1) (by omega)]; exact h1, by rw [gc (off + 2) (by omega)]; exact h2, by rw [gc (off + 3) (by omega)]; exact h3, by rw [gc (off + 4) (by omega)]; exact h4, by rw [gc (off + 5) (by omega)]; exact h5, by rw [gc (off + 6) (by omega)]; exact h6, Own_mono (fun i hi => gh i (List.mem_append_left _ (List.mem_append_left _ hi)) (hd i (List.mem_append_left _ hi))) o1, Own_mono (fun i hi => gh i (List.mem_append_left _ (List.mem_append_right _ hi)) (hd i (List.mem_append_right _ hi))) o2, ?_⟩
      exact a9 w' x' g0 g1 g2 g3 g4 g5 g6 q1 q2 gc (fun i hi hb => gh i (List.mem_append_right _ hi) hb)
structure RC (w wr : World) (c : List Lit) (g mb : Nat) (B : List Nat) (k : Nat) : Prop where
  own : OwnCl wr ((giveC (c.take k) []).1 ++ c.drop k) g 0 B
  map : ∃ m, m ≤ k * 2000 ∧ IsAt wr mb m (numF (giveC (c.take k) []).2)
  below : Below w.heap.size w wr
  rng : ∀ j, j ∈ B → w.heap.size ≤ j ∧ j < wr.heap.size
  fr : ∀ j, wr.frozen? ⟨g, j, none⟩ = false
  gl : g < wr.heap.size
theorem RC.step {w wr w1 w2 : World} {c : List Lit} {g mb : Nat} {B : List Nat} {k : Nat} {x : Lit} {s1 s2 : Value} {B1 B2 : List Nat} {m : Nat} (h : RC w wr c g mb B k) (hx : c[k]? = some x) (hgB : g ∉ B) (hmB : mb ∉ B) (hwg : w.heap.size ≤ g) (hwm : w.heap.size ≤ mb)
    (a0 : wr.cell? ⟨g, 0 + k * 7, none⟩ = some (.bool x.1)) (a7 : ∀ j, j ∈ B1 ++ B2 → j ∈ B) (a8 : (B1 ++ B2).Nodup)
    (a9 : ∀ (w' : World) (x' : Lit), w'.cell? ⟨g, 0 + k * 7, none⟩ = some (.bool x'.1) → w'.cell? ⟨g, 0 + k * 7 + 1, none⟩ = some (.int .i64 x'.2.1.v) → w'.cell? ⟨g, 0 + k * 7 + 2, none⟩ = some (.int .i64 x'.2.1.f) → w'.cell? ⟨g, 0 + k * 7 + 3, none⟩ = some s1 → w'.cell? ⟨g, 0 + k * 7 + 4, none⟩ = some (.int .i64 x'.2.2.v) → w'.cell? ⟨g, 0 + k * 7 + 5, none⟩ = some (.int .i64 x'.2.2.f) → w'.cell? ⟨g, 0 + k * 7 + 6, none⟩ = some s2 →
        x'.2.1.Own w' s1 B1 → x'.2.2.Own w' s2 B2 → (∀ j, (j < 0 + k * 7 ∨ 0 + k * 7 + 6 < j) → w'.cell? ⟨g, j, none⟩ = wr.cell? ⟨g, j, none⟩) → (∀ i, i ∈ B → i ∉ B1 ++ B2 → w'.heap[i]? = wr.heap[i]?) → OwnCl w' (((giveC (c.take k) []).1 ++ c.drop k).set k x') g 0 B)
    (t1 : Tc w1 g (k * 7 + 1) (giveT x.2.1 (giveC (c.take k) []).2).1.v (giveT x.2.1 (giveC (c.take k) []).2).1.f s1) (p1 : (giveT x.2.1 (giveC (c.take k) []).2).1.Own w1 s1 B1) (g1 : Chg wr w1 B1 mb g (k * 7 + 1))
    (t2 : Tc w2 g (k * 7 + 4) (giveX x (giveC (c.take k) []).2).2.2.v (giveX x (giveC (c.take k) []).2).2.2.f s2) (p2 : (giveX x (giveC (c.take k) []).2).2.2.Own w2 s2 B2) (g2 : Chg w1 w2 B2 mb g (k * 7 + 4)) (hm : m ≤ (k + 1) * 2000) (hM : IsAt w2 mb m (numF (giveN x (giveC (c.take k) []).2))) :
    RC w w2 c g mb B (k + 1) := by
  have hlt := (List.getElem?_eq_some_iff.1 hx).1
  have hlen : (giveC (c.take k) []).1.length = k := by rw [giveC_length, List.length_take]; omega
  have hz1 := g1.size
  have hz2 := g2.size
  rw [List.nodup_append] at a8
  have hne : ∀ i, i ∈ B → i ≠ g ∧ i ≠ mb := fun i hi => ⟨fun e => hgB (by rw [← e]; exact hi), fun e => hmB (by rw [← e]; exact hi)⟩
  have hset : ((giveC (c.take k) []).1 ++ c.drop k).set k (giveX x (giveC (c.take k) []).2) = (giveC (c.take (k + 1)) []).1 ++ c.drop (k + 1) := by
    rw [giveC_step hx, List.drop_eq_getElem_cons hlt, List.append_assoc]
    have : ∀ (A R : List Lit) (y z : Lit), A.length = k → (A ++ y :: R).set k z = A ++ ([z] ++ R) := fun A R y z hA => by
      rw [List.set_append, if_neg (by omega), hA, Nat.sub_self]; rfl
    exact this _ _ _ _ hlen
  have hp1 : (giveT x.2.1 (giveC (c.take k) []).2).1.Own w2 s1 B1 := Own_mono (fun i hi => g2.block i (by have := (h.rng i (a7 i (List.mem_append_left _ hi))).2; omega) (hne i (a7 i (List.mem_append_left _ hi))).1 (hne i (a7 i (List.mem_append_left _ hi))).2 (fun hb => a8.2.2 i hi i hb rfl)) p1
  refine ⟨?_, ⟨m, hm, by rw [giveC_step hx]; exact hM⟩, ⟨g2.os.trans (g1.os.trans h.below.os), g2.tape.trans (g1.tape.trans h.below.tape), g2.output.trans (g1.output.trans h.below.output), by have := h.below.size; omega, fun i hi => ?_⟩, fun j hj => by have := h.rng j hj; omega, fun j => by rw [g2.fr, g1.fr]; exact h.fr j, by have := h.gl; omega⟩
  · rw [← hset]
    refine a9 w2 _ ?_ ?_ ?_ ?_ ?_ ?_ ?_ hp1 p2 (fun j hj => by rw [g2.cell j (by omega), g1.cell j (by omega)]) (fun i hi hb => ?_)
    · rw [g2.cell _ (by omega), g1.cell _ (by omega)]; exact a0
    · rw [Nat.zero_add, g2.cell _ (by omega)]; exact t1.e0
    · rw [Nat.zero_add, g2.cell _ (by omega)]; exact t1.e1
    · rw [Nat.zero_add, g2.cell _ (by omega)]; exact t1.e2
    · rw [Nat.zero_add]; exact t2.e0
    · rw [Nat.zero_add]; exact t2.e1
    · rw [Nat.zero_add]; exact t2.e2
    · rw [List.mem_append, not_or] at hb
      have hr := (h.rng i hi).2
      rw [g2.block i (by omega) (hne i hi).1 (hne i hi).2 hb.2, g1.block i hr (hne i hi).1 (hne i hi).2 hb.1]
  · have hsz := h.below.size
    have hnB : ∀ C : List Nat, (∀ j, j ∈ C → j ∈ B) → i ∉ C := fun C hC hi' => by have := (h.rng i (hC i hi')).1; omega
    rw [g2.block i (by omega) (by omega) (by omega) (hnB B2 (fun j hj => a7 j (List.mem_append_right _ hj))), g1.block i (by omega) (by omega) (by omega) (hnB B1 (fun j hj => a7 j (List.mem_append_left _ hj)))]
    exact h.below.block i hi
attribute [local go_sem ↓] Go.wp_at_zero Go.wp_at_succ
set_option maxRecDepth 100000 in
set_option maxHeartbeats 2000000 in
theorem renumbered_any (c : List Lit) (ca : Option Addr) (cc : Nat) (w : World) (hl : c.length ≤ 20) (hsz : ∀ x, x ∈ c → LitSz x) (hvr : ∀ x, x ∈ c → (∀ y, y ∈ parts x.2.1 → 0 ≤ y.v ∧ y.v ≤ 1000) ∧ ∀ y, y ∈ parts x.2.2 → 0 ≤ y.v ∧ y.v ≤ 1000) (hc : LitsP w c ca) :
    Calls Tryz.prog 42 #[.slice ca c.length cc] w fun e w' => ∃ g B, e = .returned (.slice (some ⟨g, 0, none⟩) c.length c.length) ∧ OwnCl w' (giveC c []).1 g 0 B ∧ (g :: B).Nodup ∧ (∀ j, j ∈ g :: B → w.heap.size ≤ j ∧ j < w'.heap.size) ∧ Below w.heap.size w w' := by
  have HC := hide (copyClause_any c ca cc w (by omega) hsz hc)
  have hmm := @run_makeMap Tryz.prog
  have Hsz := hide hsz
  have Hvr := hide hvr
  clear hsz hvr hc
  go_enter Tryz.func42, Tryz.ntmps42
  go_wp2_with fail
  refine HC.out.mono ?_
  rintro e w1 ⟨rfl, B, hcc⟩
  have hgl := hcc.gl
  have hz1 := hcc.below.size
  have hgB : w.heap.size ∉ B := fun h => by have := (hcc.rng _ h).1; omega
  have hmB : w1.heap.size ∉ B := fun h => by have := (hcc.rng _ h).2; omega
  have hBn := hcc.nd
  have HL0 : Hid (RC w (w1.alloc (.map #[] 0)) c w.heap.size w1.heap.size B 0) := by
    have hown := hcc.own
    rw [List.take_length] at hown
    refine ⟨OwnCl_mono (fun j hj => (below1 w1 _).block j (hcc.rng j hj).2) (fun j _ _ => (below1 w1 _).cell (p := ⟨w.heap.size, j, none⟩) hgl) hown, ⟨0, Nat.le_refl _, MapAt.made w1⟩, hcc.below.trans ((below1 w1 _).mono hz1), fun j hj => ?_, fun j => by rw [(below1 w1 _).frozen (p := ⟨w.heap.size, j, none⟩) hgl]; exact hcc.fr j, by rw [World.size_alloc]; omega⟩
    have := hcc.rng j hj
    rw [World.size_alloc]
    omega
  clear HC hcc
  go_wp2_with fail
  go_loopw [11] (fun i wr => ∃ k : Nat, k ≤ c.length ∧ i = .int .i64 (k : Int) ∧ Hid (RC w wr c w.heap.size w1.heap.size B k)) (fun i _ => c.length - (intOf i).toNat)
  case atStart => exact ⟨0, Nat.zero_le _, rfl, HL0⟩
  case round =>
    obtain ⟨k, hk, rfl, HRC⟩ := hrel
    by_cases hlt : k < c.length
    · obtain ⟨x, hx⟩ : ∃ x, c[k]? = some x := ⟨c[k], List.getElem?_eq_getElem hlt⟩
      have hlen : (giveC (c.take k) []).1.length = k := by rw [giveC_length, List.length_take]; omega
      have hxa : ((giveC (c.take k) []).1 ++ c.drop k)[k]? = some x := by
        rw [List.getElem?_append_right (by omega), hlen, Nat.sub_self, List.getElem?_drop, Nat.add_zero]; exact hx
      obtain ⟨s1, s2, B1, B2, a0, a1, a2, a3, a4, a5, a6, o1, o2, a7, a8, a9⟩ := OwnCl_open HRC.out.own hxa hBn
      obtain ⟨m, hm, hM⟩ := HRC.out.map
      have hxc := List.mem_of_getElem? hx
      have hxs := Hsz.out x hxc
      have hxv := Hvr.out x hxc
      have hgr := giveC_grow (c.take k) [] (fun y hy => Hsz.out y (List.mem_of_mem_take hy)) List.nodup_nil
      have hgl2 : (c.take k).length = k := by rw [List.length_take]; omega
      rw [hgl2, List.length_nil, Nat.zero_add] at hgr
      have a8' := a8
      rw [List.nodup_append] at a8'
      have hrg := HRC.out.rng
      have hglr := HRC.out.gl
      have hg1 := (give_grow x.2.1.sz).1 x.2.1 (giveC (c.take k) []).2 (Nat.le_refl _) hgr.1
      rw [Nat.zero_add] at a0 a1 a2 a3 a4 a5 a6
      have h20 := hxs.1
      have h21 := hxs.2
      have HG1 := hide (give_any w1.heap.size x.2.1.sz x.2.1 s1 B1 w.heap.size (k * 7 + 1) m (giveC (c.take k) []).2 wr (Nat.le_refl _) hxs.1 hxv.1 ⟨a1, a2, a3, HRC.out.fr⟩ o1 a8'.1 (fun h => hgB (a7 _ (List.mem_append_left _ h))) (fun h => hmB (a7 _ (List.mem_append_left _ h))) (by omega) hM hgr.1 (by have := hgr.2; omega) (by omega) (fun j hj => (hrg j (a7 j (List.mem_append_left _ hj))).2))
      have HG2 := hide (fun (w2 : World) (m2 : Nat) (g1 : Chg wr w2 B1 w1.heap.size w.heap.size (k * 7 + 1)) (hm2 : m2 ≤ m + x.2.1.sz) (hM2 : IsAt w2 w1.heap.size m2 (numF (giveT x.2.1 (giveC (c.take k) []).2).2)) => give_any w1.heap.size x.2.2.sz x.2.2 s2 B2 w.heap.size (k * 7 + 4) m2 (giveT x.2.1 (giveC (c.take k) []).2).2 w2 (Nat.le_refl _) hxs.2 hxv.2
        ⟨by rw [g1.cell _ (by omega)]; exact a4, by rw [g1.cell _ (by omega)]; exact a5, by rw [g1.cell _ (by omega)]; exact a6, fun j => by rw [g1.fr]; exact HRC.out.fr j⟩
        (Own_mono (fun i hi => g1.block i (hrg i (a7 i (List.mem_append_right _ hi))).2 (fun e => hgB (by rw [← e]; exact a7 i (List.mem_append_right _ hi))) (fun e => hmB (by rw [← e]; exact a7 i (List.mem_append_right _ hi))) (fun hb => a8'.2.2 i hb i hi rfl)) o2) a8'.2.1 (fun h => hgB (a7 _ (List.mem_append_right _ h))) (fun h => hmB (a7 _ (List.mem_append_right _ h))) (by omega) hM2 hg1.1 (by have := hgr.2; have := hg1.2; omega) (by omega) (fun j hj => by have := (hrg j (a7 j (List.mem_append_right _ hj))).2; have := g1.size; omega))
      have HSt := hide (fun (w2 w3 : World) (m3 : Nat) => RC.step (w1 := w2) (w2 := w3) (m := m3) HRC.out hx hgB hmB (Nat.le_refl _) hz1 (by rw [Nat.zero_add]; exact a0) a7 a8 a9)
      have hkI : (k : Int) < c.length := by omega
      have hk0 : (0 : Int) ≤ k := by omega
      have Hm := hide hm
      have Hxs := hide hxs
      clear a0 a1 a2 a3 a4 a5 a6 a7 a8 a8' a9 o1 o2 hM hx hxa hxc hxv hgr hrg hg1 hm hxs h20 h21
      go_wp2_with fail
      refine HG1.out.mono ?_
      rintro e w2 ⟨rfl, t1, p1, ⟨m2, hm2, hM2⟩, g1⟩
      have HG3 := hide (HG2.out w2 m2 g1 hm2 hM2)
      have Ht1 := hide t1
      have Hp1 := hide p1
      have Hg1 := hide g1
      clear HG1 HG2 t1 p1 hM2 g1
      go_wp2_with fail
      refine HG3.out.mono ?_
      rintro e w3 ⟨rfl, t2, p2, ⟨m3, hm3, hM3⟩, g2⟩
      have HN := hide (HSt.out w2 w3 m3 Ht1.out Hp1.out Hg1.out t2 p2 g2 (by have := Hm.out; have := Hxs.out.1; have := Hxs.out.2; omega) hM3)
      clear HG3 HSt t2 p2 hM3 g2 Ht1 Hp1 Hg1
      go_wp2_with fail
      go_roundw
      case rel => exact ⟨k + 1, by omega, by go_num, HN⟩
      case measure => simp [intOf]; omega
    · have hk2 : k = c.length := by omega
      subst hk2
      have hown := HRC.out.own
      rw [List.take_length, List.drop_length, List.append_nil] at hown
      have Hfin : Hid (OwnCl wr (giveC c []).1 w.heap.size 0 B ∧ (w.heap.size :: B).Nodup ∧ (∀ j, j ∈ w.heap.size :: B → w.heap.size ≤ j ∧ j < wr.heap.size) ∧ Below w.heap.size w wr) := by
        refine ⟨hown, List.nodup_cons.2 ⟨hgB, hBn⟩, fun j hj => ?_, HRC.out.below⟩
        rcases List.mem_cons.1 hj with rfl | hj
        · exact ⟨Nat.le_refl _, HRC.out.gl⟩
        · exact HRC.out.rng j hj
      clear hown
      go_wp2_with fail
      go_ret
      exact ⟨_, B, rfl, Hfin.out⟩
def tidyS (ar : List Int) (c : List Lit) : List Lit × Int := if clausesErr ar [c] = 0 then ((giveC (needS [] c) []).1, 0) else ([], clausesErr ar [c])
theorem okP_parts_v {ar : List Int} {t : T} (ht : okP ar t) : ∀ y, y ∈ parts t → 0 ≤ y.v ∧ y.v ≤ 1000 := fun y hy => by
  by_cases h : y.v = 0
  · omega
  · have := part_v ht hy h; omega
set_option maxRecDepth 100000 in
set_option maxHeartbeats 400000 in
theorem checkV_any (ar : List Int) (ga : Option Addr) (gcap : Nat) (cs : List (List Lit)) (la : Option Addr) (lc : Nat) (w : World) (hg : Ints w ar ga) (hl : cs.length ≤ 9223372036854775807) (hcl : ∀ c, c ∈ cs → c.length ≤ 9223372036854775807) (hc : ClausesP w cs la) :
    Calls Tryz.prog 41 #[.agg #[.slice ga ar.length gcap], .slice la cs.length lc] w fun e w' => e = .returned (.int .i64 (clausesErr ar cs)) ∧ Below w.heap.size w w' := by
  have HC := hide (fun o => cCheck_any ar ga gcap cs la lc (w.alloc o) (Ints_alloc o hg) hl hcl (ClausesP_below (below1 w o) hc))
  clear hg hcl hc
  go_enter Tryz.func41, Tryz.ntmps41
  go_wp2_with fail
  refine (HC.out _).mono ?_
  rintro e w1 ⟨rfl, hb1⟩
  have Hb := hide ((below1 w _).trans (hb1.mono (by simp)))
  clear hb1 HC
  go_wp2_with fail
  go_ret
  exact ⟨rfl, Hb.out⟩
theorem lits_sz {ar : List Int} {c : List Lit} (h : LitsOk ar c) : ∀ x, x ∈ c → LitSz x := fun x hx => ⟨by have := (h x hx).1.1; omega, by have := (h x hx).2.1; omega⟩
theorem lits_v {ar : List Int} {c : List Lit} (h : LitsOk ar c) : ∀ x, x ∈ c → (∀ y, y ∈ parts x.2.1 → 0 ≤ y.v ∧ y.v ≤ 1000) ∧ ∀ y, y ∈ parts x.2.2 → 0 ≤ y.v ∧ y.v ≤ 1000 := fun x hx => ⟨okP_parts_v (h x hx).1.2, okP_parts_v (h x hx).2.2⟩
theorem need_ok {ar : List Int} {c : List Lit} (h : LitsOk ar c) : LitsOk ar (needS [] c) := fun x hx => by
  rcases need_mem hx with h1 | h1
  · cases h1
  · exact h x h1
def GivesC (x : List Lit × Int) (base : Nat) (e : Ending) (w' : World) : Prop :=
  ∃ a cap, e = .returned (.tuple #[.slice a x.1.length cap, .int .i64 x.2]) ∧ LitsP w' x.1 a ∧ (x.1 = [] ∨ ∃ g B, a = some ⟨g, 0, none⟩ ∧ cap = x.1.length ∧ OwnCl w' x.1 g 0 B ∧ (g :: B).Nodup ∧ ∀ j, j ∈ g :: B → base ≤ j ∧ j < w'.heap.size)
set_option maxRecDepth 100000 in
set_option maxHeartbeats 1000000 in
theorem Tidy_any (ar : List Int) (ga : Option Addr) (gcap : Nat) (c : List Lit) (ca : Option Addr) (cc : Nat) (w : World) (hg : Ints w ar ga) (hcl : c.length ≤ 9223372036854775807) (hc : LitsP w c ca) :
    Calls Tryz.prog 12 #[.agg #[.slice ga ar.length gcap], .slice ca c.length cc] w fun e w' => GivesC (tidyS ar c) w.heap.size e w' ∧ Below w.heap.size w w' := by
  have HC := hide (fun o e1 => checkV_any ar ga gcap [c] (some ⟨(w.alloc o).heap.size, 0, none⟩) 1 ((w.alloc o).alloc (.cells #[.slice ca c.length cc] e1)) (Ints_alloc _ (Ints_alloc o hg)) (by simp) (fun c' h => by simp at h; rw [h]; exact hcl) ⟨(w.alloc o).heap.size, 0, ca, cc, rfl, cell_new 0 rfl, LitsP_below (below1 _ _) (LitsP_below (below1 _ _) hc), trivial⟩)
  obtain ⟨E, hE⟩ : ∃ E, E = clausesErr ar [c] := ⟨_, rfl⟩
  rw [← hE] at HC
  have HE := hide hE
  have Hc := hide hc
  clear hg hc hE
  simp only [World.size_alloc] at HC
  go_enter Tryz.func12, Tryz.ntmps12
  go_wp2_with fail
  refine (HC.out _ _).mono ?_
  rintro e w1 ⟨rfl, hb1⟩
  have hz1 := hb1.size
  simp at hz1
  have Hb1 : Hid (Below w.heap.size w w1) := (below2 w _ _).trans (hb1.mono (by first | omega | (rw [World.size_alloc, World.size_alloc]; omega)))
  clear hb1 HC
  by_cases h0 : E = 0
  · obtain ⟨_, hl8, hlo⟩ := clauses_ok (HE.out.symm.trans h0)
    have hno := need_ok hlo
    have hnl : (needS [] c).length ≤ 8 := by have := need_len (c := c) (acc := []); simp at this; omega
    have Hsp : Hid (tidyS ar c = ((giveC (needS [] c) []).1, 0)) := by show _ = _; rw [tidyS, if_pos (HE.out.symm.trans h0)]
    have HN := hide (needed_any c ca cc w1 (by omega) (lits_sz hlo) (LitsP_below Hb1.out Hc.out))
    obtain ⟨D, hD⟩ : ∃ D, D = needS [] c := ⟨_, rfl⟩
    rw [← hD] at HN Hsp hno hnl
    have HR := hide (fun (a : Option Addr) (cap : Nat) (w' : World) (h : LitsP w' D a) => renumbered_any D a cap w' (by omega) (lits_sz hno) (lits_v hno) h)
    subst h0
    clear hno hlo hD
    go_wp2_with fail
    refine HN.out.mono ?_
    rintro e w2 ⟨a2, cap2, rfl, hq2, hb2⟩
    have HR2 := hide (HR.out a2 cap2 w2 (LitsQ_lits hq2))
    have Hb2 := hide (Hb1.out.trans (hb2.mono Hb1.out.size))
    clear hq2 hb2 HN HR
    go_wp2_with fail
    refine HR2.out.mono ?_
    rintro e w3 ⟨g, B, rfl, hown, hnd, hrg, hb3⟩
    have Hf := hide (Hb2.out.trans (hb3.mono Hb2.out.size))
    have Hfin : Hid (GivesC (tidyS ar c) w.heap.size (.returned (.tuple #[.slice (some ⟨g, 0, none⟩) D.length D.length, .int .i64 0])) w3) := by
      rw [Hsp.out]
      have hgl : (giveC D []).1.length = D.length := giveC_length _ _
      refine ⟨some ⟨g, 0, none⟩, D.length, by simp only; rw [hgl], OwnCl_lits hown, Or.inr ⟨g, B, rfl, hgl.symm, hown, hnd, fun j hj => ?_⟩⟩
      have h1 := hrg j hj
      have h2 := Hb2.out.size
      exact ⟨by omega, h1.2⟩
    clear hown hnd hrg hb3 HR2
    go_wp2_with fail
    go_ret2
    exact ⟨Hfin.out, Hf.out⟩
  · have e0 : (E != 0) = true := by simpa using h0
    have Hsp : Hid (tidyS ar c = ([], E)) := by show _ = _; rw [tidyS, if_neg (by rw [← HE.out]; exact h0), HE.out]
    clear h0
    go_wp2_with fail
    go_ret2
    exact ⟨by rw [Hsp.out]; exact ⟨none, 0, rfl, trivial, Or.inl rfl⟩, Hb1.out⟩
end Go.Proofs.YtbkedppkdhfpoabGreat

namespace Go.Proofs.YtbkedppkdhfpoabGreat
open Go.RowKit
structure MadeL (w wr : World) (R n : Nat) (d : List Lit) : Prop where
  lits : ∃ xs, KidsL (fun k => k ≠ R) wr d xs ∧ ∀ j u, xs[j]? = some u → wr.cell? ⟨R, j, none⟩ = some u
  cells : ∀ j, j < n * 7 → ∃ u, wr.cell? ⟨R, j, none⟩ = some u
  fr : ∀ j, wr.frozen? ⟨R, j, none⟩ = false
  below : Below w.heap.size w wr
  lo : w.heap.size ≤ R
  gl : R < wr.heap.size
theorem MadeL.start {w wr : World} {n : Nat} (hb : Below w.heap.size w wr) : MadeL w (wr.alloc (.cells (row7 n) 79)) wr.heap.size n [] := by
  refine ⟨⟨[], rfl, fun j u h => by simp at h⟩, fun j hj => ?_, fun j => ?_, hb.trans ((below1 wr _).mono hb.size), hb.size, by simp⟩
  · have hs : j < (row7 n).size := by rw [row7, size_madeCells]; exact hj
    exact ⟨(row7 n)[j], by rw [cell_new j rfl]; simp [hs]⟩
  · exact frozen_of_heap (heap_alloc_new wr _) j
theorem MadeL.keep {w wr w2 : World} {R n : Nat} {d : List Lit} (h : MadeL w wr R n d) (hb : Below wr.heap.size wr w2) : MadeL w w2 R n d := by
  obtain ⟨xs, h1, h2⟩ := h.lits
  exact ⟨⟨xs, KidsL_mono (fun k hk hlt => ⟨hk, hb.block k hlt⟩) h1, fun j u hu => cell_below hb (h2 j u hu)⟩, fun j hj => by obtain ⟨u, hu⟩ := h.cells j hj; exact ⟨u, cell_below hb hu⟩, fun j => by rw [hb.frozen (p := ⟨R, j, none⟩) h.gl]; exact h.fr j, h.below.trans (hb.mono h.below.size), h.lo, Nat.lt_of_lt_of_le h.gl hb.size⟩
theorem MadeL.step {w w2 : World} {R n : Nat} {d : List Lit} {x : Lit} {a1 : Option Addr} {c1 : Nat} {a2 : Option Addr} {c2 : Nat} (h : MadeL w w2 R n d) (hd : d.length < n) (i1 : InP (fun k => k ≠ R) w2 x.2.1.args a1) (i2 : InP (fun k => k ≠ R) w2 x.2.2.args a2) :
    MadeL w (set7 w2 R (d.length * 7) (.bool x.1) (.int .i64 x.2.1.v) (.int .i64 x.2.1.f) (.slice a1 x.2.1.args.length c1) (.int .i64 x.2.2.v) (.int .i64 x.2.2.f) (.slice a2 x.2.2.args.length c2)) R n (d ++ [x]) := by
  obtain ⟨xs, h1, h2⟩ := h.lits
  have hxl := KidsL_len h1
  obtain ⟨WS, hWS⟩ : ∃ WS, WS = set7 w2 R (d.length * 7) (.bool x.1) (.int .i64 x.2.1.v) (.int .i64 x.2.1.f) (.slice a1 x.2.1.args.length c1) (.int .i64 x.2.2.v) (.int .i64 x.2.2.f) (.slice a2 x.2.2.args.length c2) := ⟨_, rfl⟩
  have hfar : ∀ j, (j < d.length * 7 ∨ d.length * 7 + 6 < j) → WS.cell? ⟨R, j, none⟩ = w2.cell? ⟨R, j, none⟩ := fun j hj => by rw [hWS]; exact set7_far hj
  have hblk : ∀ j, j ≠ R → WS.heap[j]? = w2.heap[j]? := fun j hj => by rw [hWS]; exact set7_block hj
  have hsz2 : WS.heap.size = w2.heap.size := by rw [hWS]; exact set7_size
  have hfr2 : ∀ a, WS.frozen? a = w2.frozen? a := fun a => by rw [hWS]; exact set7_fr a
  have e0 : WS.cell? ⟨R, d.length * 7, none⟩ = some (.bool x.1) := by obtain ⟨u, hu⟩ := h.cells (d.length * 7) (by omega); rw [hWS, set7_cell hu]; simp
  have e1 : WS.cell? ⟨R, d.length * 7 + 1, none⟩ = some (.int .i64 x.2.1.v) := by obtain ⟨u, hu⟩ := h.cells (d.length * 7 + 1) (by omega); rw [hWS, set7_cell hu]; simp
  have e2 : WS.cell? ⟨R, d.length * 7 + 2, none⟩ = some (.int .i64 x.2.1.f) := by obtain ⟨u, hu⟩ := h.cells (d.length * 7 + 2) (by omega); rw [hWS, set7_cell hu]; simp
  have e3 : WS.cell? ⟨R, d.length * 7 + 3, none⟩ = some (.slice a1 x.2.1.args.length c1) := by obtain ⟨u, hu⟩ := h.cells (d.length * 7 + 3) (by omega); rw [hWS, set7_cell hu]; simp
  have e4 : WS.cell? ⟨R, d.length * 7 + 4, none⟩ = some (.int .i64 x.2.2.v) := by obtain ⟨u, hu⟩ := h.cells (d.length * 7 + 4) (by omega); rw [hWS, set7_cell hu]; simp
  have e5 : WS.cell? ⟨R, d.length * 7 + 5, none⟩ = some (.int .i64 x.2.2.f) := by obtain ⟨u, hu⟩ := h.cells (d.length * 7 + 5) (by omega); rw [hWS, set7_cell hu]; simp
  have e6 : WS.cell? ⟨R, d.length * 7 + 6, none⟩ = some (.slice a2 x.2.2.args.length c2) := by obtain ⟨u, hu⟩ := h.cells (d.length * 7 + 6) (by omega); rw [hWS, set7_cell hu]; simp
  have ecell : ∀ j, j < n * 7 → ∃ u, WS.cell? ⟨R, j, none⟩ = some u := fun j hj => by obtain ⟨u, hu⟩ := h.cells j hj; exact ⟨_, by rw [hWS]; exact set7_cell hu⟩
  have hos : WS.os = w2.os ∧ WS.tape = w2.tape ∧ WS.output = w2.output := by rw [hWS]; exact set7_io
  rw [← hWS]
  clear hWS
  have hI : ∀ {ts : List T} {y : Option Addr}, InP (fun k => k ≠ R) w2 ts y → InP (fun k => k ≠ R) WS ts y := fun hi => InP_same (fun k hk _ => hblk k hk) hi
  refine ⟨⟨xs ++ [.bool x.1, .int .i64 x.2.1.v, .int .i64 x.2.1.f, .slice a1 x.2.1.args.length c1, .int .i64 x.2.2.v, .int .i64 x.2.2.f, .slice a2 x.2.2.args.length c2], KidsL_append (KidsL_mono (fun k hk _ => ⟨hk, hblk k hk⟩) h1) ⟨a1, c1, a2, c2, [], rfl, hI i1, hI i2, rfl⟩, fun j u hu => ?_⟩, ecell, fun j => by rw [hfr2]; exact h.fr j, ?_, h.lo, by rw [hsz2]; exact h.gl⟩
  · by_cases hj : j < xs.length
    · rw [List.getElem?_append_left hj] at hu
      rw [hfar j (Or.inl (by omega))]; exact h2 j u hu
    · rw [List.getElem?_append_right (by omega)] at hu
      obtain ⟨t, rfl⟩ : ∃ t, j = xs.length + t := ⟨j - xs.length, by omega⟩
      rw [Nat.add_sub_cancel_left] at hu
      rw [hxl]
      match t, hu with
      | 0, hu => simp at hu; subst hu; exact e0
      | 1, hu => simp at hu; subst hu; exact e1
      | 2, hu => simp at hu; subst hu; exact e2
      | 3, hu => simp at hu; subst hu; exact e3
      | 4, hu => simp at hu; subst hu; exact e4
      | 5, hu => simp at hu; subst hu; exact e5
      | 6, hu => simp at hu; subst hu; exact e6
      | t + 7, hu => simp at hu
  · have hb2 := h.below
    exact ⟨hos.1.trans hb2.os, hos.2.1.trans hb2.tape, hos.2.2.trans hb2.output, by rw [hsz2]; exact hb2.size, fun j hj => by rw [hblk j (by have := h.lo; omega)]; exact hb2.block j hj⟩
theorem MadeL.end_ {w wr : World} {R n : Nat} {d : List Lit} (h : MadeL w wr R n d) : LitsP wr d (some ⟨R, 0, none⟩) := by
  obtain ⟨xs, h1, h2⟩ := h.lits
  exact LitsQ_lits (KidsL_in (p := fun _ => True) trivial (KidsL_mono (fun k _ _ => ⟨trivial, rfl⟩) h1) (fun j u hu => by rw [Nat.zero_add]; exact h2 j u hu))
def appL (ar : List Int) (bs : List (Int × T)) (x : Lit) : Lit := (x.1, (applySpec ar bs x.2.1).1, (applySpec ar bs x.2.2).1)
def litE (ar : List Int) (bs : List (Int × T)) (x : Lit) : Int := if (applySpec ar bs x.2.1).2 = 0 then (applySpec ar bs x.2.2).2 else (applySpec ar bs x.2.1).2
def appE (ar : List Int) (bs : List (Int × T)) : List Lit → Int
  | [] => 0
  | x :: c => if litE ar bs x = 0 then appE ar bs c else litE ar bs x
theorem appE_step {ar : List Int} {bs : List (Int × T)} {c : List Lit} {k : Nat} {x : Lit} (hx : c[k]? = some x) : appE ar bs (c.drop k) = if litE ar bs x = 0 then appE ar bs (c.drop (k + 1)) else litE ar bs x := by
  rw [List.drop_eq_getElem_cons (List.getElem?_eq_some_iff.1 hx).1, (List.getElem?_eq_some_iff.1 hx).2, appE]
def appliedS (ar : List Int) (bs : List (Int × T)) (c : List Lit) : List Lit × Int := if appE ar bs c = 0 then tidyS ar (needS [] (c.map (appL ar bs))) else ([], appE ar bs c)
theorem appL_sz {ar : List Int} {bs : List (Int × T)} {x : Lit} : LitSz (appL ar bs x) := ⟨Nat.le_trans apply_sz (by decide), Nat.le_trans apply_sz (by decide)⟩
theorem map_take {α β : Type} {f : α → β} {c : List α} {k : Nat} {x : α} (hx : c[k]? = some x) : (c.take (k + 1)).map f = (c.take k).map f ++ [f x] := by
  rw [List.take_add_one, hx, List.map_append]; rfl
attribute [local go_sem ↓] Go.wp_at_zero Go.wp_at_succ
set_option maxRecDepth 100000 in
set_option maxHeartbeats 1500000 in
theorem applied_any (ar : List Int) (ga : Option Addr) (gcap : Nat) (bs : List (Int × T)) (ba : Option Addr) (bc : Nat) (c : List Lit) (ca : Option Addr) (cc : Nat) (w : World) (hl : bs.length ≤ 1000) (hcl : c.length ≤ 1000) (hbe : bindsErr ar bs = 0) (hte : ∀ x, x ∈ c → termErr ar x.2.1 = 0 ∧ termErr ar x.2.2 = 0) (hg : Ints w ar ga) (hbs : Binds (fun _ => True) w bs ba) (hc : LitsP w c ca) :
    Calls Tryz.prog 178 #[.agg #[.slice ga ar.length gcap], .slice ba bs.length bc, .slice ca c.length cc] w fun e w' => GivesC (appliedS ar bs c) w.heap.size e w' ∧ Below w.heap.size w w' := by
  have hmk := run_make7 c.length (by omega)
  have Hc := hide hc
  have Hte := hide hte
  have HM0 : Hid (MadeL w ((w.alloc (.cells #[.slice ga ar.length gcap] 24)).alloc (.cells (row7 c.length) 79)) (w.heap.size + 1) c.length []) := by
    have := MadeL.start (w := w) (n := c.length) (below1 w (.cells #[.slice ga ar.length gcap] 24))
    rw [show (w.alloc (.cells #[.slice ga ar.length gcap] 24)).heap.size = w.heap.size + 1 by simp] at this
    exact this
  have Hcg : Hid (((w.alloc (.cells #[.slice ga ar.length gcap] 24)).alloc (.cells (row7 c.length) 79)).cell? ⟨w.heap.size, 0, none⟩ = some (.slice ga ar.length gcap)) := by
    show _ = _
    rw [cell_alloc_lt (by simp)]; exact cell_new 0 rfl
  have HA := hide (fun (p : Nat → Prop) (t : T) (a : Option Addr) (cap : Nat) (w' : World) (hp : ∀ k, w'.heap.size ≤ k → p k) (ht : termErr ar t = 0) (hb : Below w.heap.size w w') (hin : InP p w' t.args a) => applyE_any p ar ga gcap bs ba bc t a cap w' hp hl hbe ht (Ints_below hb hg) (Binds_below hb hbs) hin)
  have Hg := hide hg
  clear hc hte hg hbs
  go_enter Tryz.func178, Tryz.ntmps178
  go_wp2_with fail
  go_loopw [19] (fun i wr => ∃ (k : Nat), k ≤ c.length ∧ i = .int .i64 k ∧ Hid (MadeL w wr (w.heap.size + 1) c.length ((c.take k).map (appL ar bs))) ∧ Hid (wr.cell? ⟨w.heap.size, 0, none⟩ = some (.slice ga ar.length gcap)) ∧ Hid (appE ar bs (c.drop k) = appE ar bs c)) (fun i _ => c.length - (intOf i).toNat)
  case atStart => exact ⟨0, Nat.zero_le _, rfl, HM0, Hcg, rfl⟩
  case round =>
    obtain ⟨k, hk, rfl, HM, HG, HE⟩ := hrel
    have hzr := HM.out.below.size
    by_cases hlt : k < c.length
    · obtain ⟨x, hx⟩ : ∃ x, c[k]? = some x := ⟨c[k], List.getElem?_eq_getElem hlt⟩
      obtain ⟨b, off, rfl⟩ := LitsP_some Hc.out (by omega)
      obtain ⟨a1, c1, a2, c2, _, k0, k1, k2, k3, k4, k5, k6, i1, i2⟩ := LitsQ_at (LitsQ_below HM.out.below (LitsP_lt Hc.out)) hx
      have hkI : (k : Int) < c.length := by omega
      have hk0 : (0 : Int) ≤ k := by omega
      obtain ⟨W1, hW1⟩ : ∃ W1, W1 = wr.alloc (.cells #[.bool x.1, .int .i64 x.2.1.v, .int .i64 x.2.1.f, .slice a1 x.2.1.args.length c1, .int .i64 x.2.2.v, .int .i64 x.2.2.f, .slice a2 x.2.2.args.length c2] 79) := ⟨_, rfl⟩
      have HW1 := hide hW1
      have hbW : Below wr.heap.size wr W1 := by rw [hW1]; exact below1 _ _
      have hx7 : L7 W1 wr.heap.size 0 x a1 c1 a2 c2 := by rw [hW1]; exact L7.new _ rfl
      have hR := HM.out.gl
      have hzW : W1.heap.size = wr.heap.size + 1 := by rw [hW1]; simp
      have HBW := hide (HM.out.below.trans (hbW.mono HM.out.below.size))
      have hxt := Hte.out x (List.mem_of_getElem? hx)
      have HA1 := hide (HA.out (fun j => j ≠ w.heap.size + 1) x.2.1 a1 c1 W1 (fun j hj => by omega) hxt.1 HBW.out (InP_imp (fun j hj => by omega) (InP_below hbW i1)))
      have HA2 := hide (fun (w' : World) (hb : Below W1.heap.size W1 w') => HA.out (fun j => j ≠ w.heap.size + 1) x.2.2 a2 c2 w' (fun j hj => by have := hb.size; omega) hxt.2 (HBW.out.trans (hb.mono HBW.out.size)) (InP_imp (fun j hj => by omega) (InP_below hb (InP_below hbW i2))))
      obtain ⟨X, hX⟩ : ∃ X, X = applySpec ar bs x.2.1 := ⟨_, rfl⟩
      obtain ⟨Y, hY⟩ : ∃ Y, Y = applySpec ar bs x.2.2 := ⟨_, rfl⟩
      have HE2 := hide (appE_step (ar := ar) (bs := bs) hx)
      have HL : Hid (litE ar bs x = if X.2 = 0 then Y.2 else X.2) := by show _ = _; rw [litE, hX, hY]
      have HaL : Hid (appL ar bs x = (x.1, X.1, Y.1)) := by show _ = _; rw [appL, hX, hY]
      have Hmt := hide (map_take (f := appL ar bs) hx)
      have Hkl : Hid (((c.take k).map (appL ar bs)).length = k) := by show _ = _; rw [List.length_map, List.length_take]; omega
      rw [← hX] at HA1
      rw [← hY] at HA2
      have Hx7 := hide hx7
      have HbW := hide hbW
      have HGW := hide (cell_below hbW HG.out)
      have g0 := HG.out
      have hzw : w.heap.size < wr.heap.size := by omega
      clear hW1 hbW hx7 i1 i2 hx hX hY hxt
      go_wp2_with fail
      rw [← HW1.out]
      refine HA1.out.mono ?_
      rintro e w1 ⟨⟨xa, xc, rfl, hi1⟩, hb1⟩
      have Hb1 := hide hb1
      have Hi1 := hide hi1
      have HB1 := hide (HBW.out.trans (hb1.mono HBW.out.size))
      have HbR := hide (HbW.out.trans (hb1.mono HbW.out.size))
      obtain ⟨p0, p1, p2, p3, p4, p5, p6⟩ := Hx7.out.below hb1
      have g1 := cell_below hb1 HGW.out
      have P0 := hide p0
      have G1 := hide g1
      have g1a := fun o => cell_below (below1 w1 o) g1
      have p4a := fun o => cell_below (below1 w1 o) p4
      have p5a := fun o => cell_below (below1 w1 o) p5
      have p6a := fun o => cell_below (below1 w1 o) p6
      simp only [Nat.zero_add] at p4a p5a p6a
      clear p0 p1 p2 p3 p4 p5 p6 g1
      have hz1 := hb1.size
      have hzl : wr.heap.size < w1.heap.size := by omega
      clear hb1 hi1 k0 k1 k2 k3 k4 k5 k6 HW1 HA1 g0
      by_cases hX0 : X.2 = 0
      · have ex : (X.2 != 0) = false := by simpa using hX0
        have HX0 := hide hX0
        clear hX0
        obtain ⟨W2, hW2⟩ : ∃ W2, W2 = w1.alloc (.cells #[.int .i64 X.1.v, .int .i64 X.1.f, .slice xa X.1.args.length xc] 77) := ⟨_, rfl⟩
        have hbW2 : Below w1.heap.size w1 W2 := by rw [hW2]; exact below1 _ _
        have H3x : Hid (Three W2 w1.heap.size (.int .i64 X.1.v) (.int .i64 X.1.f) (.slice xa X.1.args.length xc)) := by rw [hW2]; exact Three.new _ rfl
        have HW2 := hide hW2
        have HbW2 := hide hbW2
        have hzW2 : W2.heap.size = w1.heap.size + 1 := by rw [hW2]; simp
        have Hb12 := hide (Hb1.out.trans (hbW2.mono Hb1.out.size))
        have HA3 := hide (HA2.out W2 Hb12.out)
        clear hW2 hbW2
        go_wp2_with fail
        rw [← HW2.out]
        refine HA3.out.mono ?_
        rintro e w2 ⟨⟨ya, yc, rfl, hi2⟩, hb2⟩
        have Hb2 := hide (HbW2.out.trans (hb2.mono HbW2.out.size))
        have HbR2 := hide (HbR.out.trans (Hb2.out.mono HbR.out.size))
        have Hi2 := hide hi2
        have hz2 := hb2.size
        obtain ⟨t0, t1, t2, _, _, _⟩ := H3x.out.below hb2
        have p02 := cell_below Hb2.out P0.out
        have hzl2 : w1.heap.size < w2.heap.size := by omega
        have HM2 := hide (HM.out.keep HbR2.out)
        have HG2 := hide (cell_below Hb2.out G1.out)
        clear g1a p4a p5a p6a HA3 hb2 hi2 HW2
        by_cases hY0 : Y.2 = 0
        · have ey : (Y.2 != 0) = false := by simpa using hY0
          have HY0 := hide hY0
          clear hY0
          obtain ⟨W3, hW3⟩ : ∃ W3, W3 = w2.alloc (.cells #[.int .i64 Y.1.v, .int .i64 Y.1.f, .slice ya Y.1.args.length yc] 77) := ⟨_, rfl⟩
          have hbW3 : Below w2.heap.size w2 W3 := by rw [hW3]; exact below1 _ _
          have HM3 := HM2.out.keep hbW3
          have HW3 := hide hW3
          have hRow : ∀ j, j < 7 → ∃ u, W3.cell? ⟨w.heap.size + 1, k * 7 + j, none⟩ = some u := fun j hj => HM3.cells (k * 7 + j) (by omega)
          have hFr : ∀ j, W3.frozen? ⟨w.heap.size + 1, j, none⟩ = false := HM3.fr
          obtain ⟨v0, e0⟩ : ∃ u, W3.cell? ⟨w.heap.size + 1, k * 7, none⟩ = some u := HM3.cells (k * 7) (by omega)
          obtain ⟨v1, e1⟩ := hRow 1 (by omega)
          obtain ⟨v2, e2⟩ := hRow 2 (by omega)
          obtain ⟨v3, e3⟩ := hRow 3 (by omega)
          obtain ⟨v4, e4⟩ := hRow 4 (by omega)
          obtain ⟨v5, e5⟩ := hRow 5 (by omega)
          obtain ⟨v6, e6⟩ := hRow 6 (by omega)
          have f0 := hFr (k * 7)
          have f1 := hFr (k * 7 + 1)
          have f2 := hFr (k * 7 + 2)
          have f3 := hFr (k * 7 + 3)
          have f4 := hFr (k * 7 + 4)
          have f5 := hFr (k * 7 + 5)
          have f6 := hFr (k * 7 + 6)
          obtain ⟨s0, s1, s2, _, _, _⟩ : Three W3 w2.heap.size (.int .i64 Y.1.v) (.int .i64 Y.1.f) (.slice ya Y.1.args.length yc) := by rw [hW3]; exact Three.new _ rfl
          have t0b := cell_below hbW3 t0
          have t1b := cell_below hbW3 t1
          have t2b := cell_below hbW3 t2
          have p0b := cell_below hbW3 p02
          have HN : Hid (MadeL w (set7 W3 (w.heap.size + 1) (k * 7) (.bool x.1) (.int .i64 X.1.v) (.int .i64 X.1.f) (.slice xa X.1.args.length xc) (.int .i64 Y.1.v) (.int .i64 Y.1.f) (.slice ya Y.1.args.length yc)) (w.heap.size + 1) c.length ((c.take (k + 1)).map (appL ar bs))) := by
            have h9 := HM3.step (x := (x.1, X.1, Y.1)) (c1 := xc) (c2 := yc) (by rw [Hkl.out]; exact hlt) (InP_below hbW3 (InP_below Hb2.out Hi1.out)) (InP_below hbW3 Hi2.out)
            rw [Hkl.out] at h9
            show MadeL _ _ _ _ _
            rw [Hmt.out, HaL.out]
            exact h9
          have HGN : Hid ((set7 W3 (w.heap.size + 1) (k * 7) (.bool x.1) (.int .i64 X.1.v) (.int .i64 X.1.f) (.slice xa X.1.args.length xc) (.int .i64 Y.1.v) (.int .i64 Y.1.f) (.slice ya Y.1.args.length yc)).cell? ⟨w.heap.size, 0, none⟩ = some (.slice ga ar.length gcap)) := by
            show _ = _
            rw [World.cell?_of_block (w := W3) (a := ⟨w.heap.size, 0, none⟩) (set7_block (show w.heap.size ≠ _ by omega))]
            exact cell_below hbW3 HG2.out
          have HEN : Hid (appE ar bs (c.drop (k + 1)) = appE ar bs c) := by
            have h9 := HE2.out
            rw [if_pos (by rw [HL.out, if_pos HX0.out]; exact HY0.out), HE.out] at h9
            exact h9.symm
          clear hW3 hbW3 HM3 hRow hFr t0 t1 t2 p02
          go_upto_region 11 with fail
          rw [← HW3.out]
          clear HA HE2 HL HaL Hmt Hkl Hx7 HbW HGW Hb1 Hi1 HB1 HbR P0 G1 HbW2 Hb12 Hb2 HbR2 Hi2 HM2 HG2 HM HG HE HM0 Hcg Hte HA2 HBW HW3 H3x
          go_wp2_with fail
          go_roundw
          case rel => exact ⟨k + 1, by omega, by go_num, HN, HGN, HEN⟩
          case measure => simp [intOf]; omega
        · have ey : (Y.2 != 0) = true := by simpa using hY0
          have Hsp : Hid (appliedS ar bs c = ([], Y.2)) := by
            have h9 := HE2.out
            have hne : litE ar bs x = Y.2 := by rw [HL.out, if_pos HX0.out]
            rw [hne, if_neg hY0, HE.out] at h9
            show _ = _
            rw [appliedS, h9, if_neg hY0]
          clear hY0
          go_wp2_with fail
          go_ret2
          exact ⟨by rw [Hsp.out]; exact ⟨none, 0, rfl, trivial, Or.inl rfl⟩, HM2.out.below.trans ((below1 w2 _).mono HM2.out.below.size)⟩
      · have ex : (X.2 != 0) = true := by simpa using hX0
        have Hsp : Hid (appliedS ar bs c = ([], X.2)) := by
          have h9 := HE2.out
          have hne : litE ar bs x = X.2 := by rw [HL.out, if_neg hX0]
          rw [hne, if_neg hX0, HE.out] at h9
          show _ = _
          rw [appliedS, h9, if_neg hX0]
        clear hX0
        go_wp2_with fail
        go_ret2
        exact ⟨by rw [Hsp.out]; exact ⟨none, 0, rfl, trivial, Or.inl rfl⟩, HB1.out.trans ((below1 w1 _).mono HB1.out.size)⟩
    · have hk2 : k = c.length := by omega
      subst hk2
      rw [List.take_length] at HM
      have Hsp : Hid (appliedS ar bs c = tidyS ar (needS [] (c.map (appL ar bs)))) := by
        have h9 := HE.out
        rw [List.drop_length] at h9
        show _ = _
        rw [appliedS, ← h9]; rfl
      have hml : (c.map (appL ar bs)).length = c.length := List.length_map _
      have HN := hide (fun (w' : World) (hb : Below wr.heap.size wr w') => needed_any (c.map (appL ar bs)) (some ⟨w.heap.size + 1, 0, none⟩) c.length w' (by omega) (fun y hy => by
        obtain ⟨x, _, rfl⟩ := List.mem_map.1 hy
        exact appL_sz) (HM.out.keep hb).end_)
      obtain ⟨D, hD⟩ : ∃ D, D = needS [] (c.map (appL ar bs)) := ⟨_, rfl⟩
      have hDl : D.length ≤ 1000 := by have := need_len (c := c.map (appL ar bs)) (acc := []); rw [← hD] at this; simp at this; omega
      have HT := hide (fun (a : Option Addr) (cap : Nat) (w' : World) (hb : Below w.heap.size w w') (h : LitsP w' D a) => Tidy_any ar ga gcap D a cap w' (Ints_below hb Hg.out) (by omega) h)
      rw [← hD] at HN Hsp
      rw [hml] at HN
      obtain ⟨Z, hZ⟩ : ∃ Z, Z = tidyS ar D := ⟨_, rfl⟩
      rw [← hZ] at HT Hsp
      have g0 := HG.out
      have hS := hide (fun (w' : World) (hb : Below wr.heap.size wr w') => (show w'.cell? ⟨w.heap.size, 0, none⟩ = some (.slice ga ar.length gcap) from cell_below hb HG.out))
      have HR := hide (Below.refl wr.heap.size wr)
      have HBr := hide HM.out.below
      clear hZ hD hml hmk HA HM0 Hcg HE HM HG
      go_upto_region 13 with fail
      go_region_held3 (fun w' => w'.cell? ⟨w.heap.size, 0, none⟩ = some (.slice ga ar.length gcap)) ((first | (refine hS.out _ ?_; (repeat' (first | with_reducible exact Hid.out ‹Hid (Below wr.heap.size _ _)› | with_reducible exact Below.refl _ _ | (with_reducible refine Below.drew ?_))); done) | go_keep)) ((first
        | (go_at_call 43
           with_reducible refine (HN.out _ ?_).mono ?_
           · (repeat' (first | with_reducible exact Hid.out ‹Hid (Below wr.heap.size _ _)› | with_reducible exact Below.refl _ _ | (with_reducible refine Below.drew ?_)))
           rintro e wA ⟨aA, capA, rfl, hqA, hbA⟩
           have HbA : Hid (Below wr.heap.size wr wA) := by first | exact hbA | exact below_undrew hbA
           have HqA := hide (LitsQ_lits hqA)
           clear hqA hbA)
        | (go_at_call 12
           with_reducible refine (HT.out _ _ _ ?_ HqA.out).mono ?_
           · exact HBr.out.trans (HbA.out.mono HBr.out.size)
           rintro e wB ⟨hgB, hbB⟩
           obtain ⟨aB, capB, rfl, hlB, hoB⟩ := hgB
           have HbB : Hid (Below wA.heap.size wA wB) := by first | exact hbB | exact below_undrew hbB
           have HbC := hide (HbA.out.trans (HbB.out.mono HbA.out.size))
           have HfB := hide (And.intro hlB hoB)
           clear hlB hoB hbB)))
      go_wp2_with fail
      go_ret2
      have hbr := HBr.out.size
      have hba := HbA.out.size
      refine ⟨?_, HBr.out.trans (HbC.out.mono HBr.out.size)⟩
      rw [Hsp.out]
      refine ⟨aB, capB, rfl, HfB.out.1, ?_⟩
      rcases HfB.out.2 with h | ⟨g, B, h1, h2, h3, h4, h5⟩
      · exact Or.inl h
      · exact Or.inr ⟨g, B, h1, h2, h3, h4, fun j hj => by have := h5 j hj; omega⟩
end Go.Proofs.YtbkedppkdhfpoabGreat

namespace Go.Proofs.YtbkedppkdhfpoabGreat
open Go.RowKit
theorem bindErr_up2 {ar : List Int} : ∀ {bs : List (Int × T)} {last : Int}, (bs.map Prod.fst).Pairwise (· < ·) → (∀ v u, (v, u) ∈ bs → (last < v ∧ 1 ≤ v ∧ v ≤ 1000) ∧ okP ar u ∧ u.sz ≤ 120) → bindErr ar last bs = 0 := by
  intro bs
  induction bs with
  | nil => intro last _ _; rfl
  | cons x bs ih =>
    intro last hp hb
    obtain ⟨v, u⟩ := x
    rw [List.map_cons, List.pairwise_cons] at hp
    obtain ⟨h1, h2, h3⟩ := hb v u List.mem_cons_self
    rw [bindErr, if_neg (by simp only; omega), if_neg (by simp only; omega), if_pos (termErr_iff.2 ⟨h3, h2⟩)]
    refine ih hp.2 fun w y hy => ?_
    obtain ⟨g1, g2, g3⟩ := hb w y (List.mem_cons_of_mem _ hy)
    exact ⟨⟨hp.1 w (List.mem_map_of_mem (f := Prod.fst) hy), g1.2⟩, g2, g3⟩
theorem bs_err {ar : List Int} {bs : List (Int × T)} (hs : sigErr ar = 0) (h : BsOk ar bs) : bindsErr ar bs = 0 := by
  rw [bindsErr, if_pos hs]
  refine bindErr_up2 h.rise fun v u hv => ?_
  have := h.each v u hv
  exact ⟨by omega, this.2.1, this.2.2.1⟩
theorem uniE_ok {ar : List Int} {s t : T} (hs : sigErr ar = 0) (h : (uniE ar s t).2 = 0) : bindsErr ar (uniE ar s t).1 = 0 ∧ (uniE ar s t).1.length ≤ 1000 := by
  rw [uniE] at h ⊢
  simp only at h ⊢
  by_cases h0 : (unifyS ar s t).2.2 = 0
  · rw [if_pos h0] at h
    cases h1 : (unifyS ar s t).2.1 with
    | false => rw [h1] at h; simp at h
    | true =>
      obtain ⟨σ, bs, _, e, _, hb, _, _⟩ := uni_some h0 h1
      rw [e]
      exact ⟨bs_err hs hb, hb.len⟩
  · rw [if_neg h0] at h; exact absurd h h0
def infSame (ar : List Int) (c : List Lit) (k : Nat) (x : Lit) : List Lit × Int := if (uniE ar x.2.1 x.2.2).2 = 0 then appliedS ar (uniE ar x.2.1 x.2.2).1 (c.eraseIdx k) else ([], (uniE ar x.2.1 x.2.2).2)
attribute [local go_sem ↓] Go.wp_at_zero Go.wp_at_succ
set_option maxRecDepth 100000 in
set_option maxHeartbeats 1000000 in
theorem same_any (ar : List Int) (ga : Option Addr) (gcap : Nat) (c : List Lit) (ca : Option Addr) (cc : Nat) (i : Inf) (pa : Option Addr) (pc : Nat) (k : Nat) (x : Lit) (w : World) (hs : sigErr ar = 0) (hcl : c.length ≤ 1000) (hte : ∀ x, x ∈ c → termErr ar x.2.1 = 0 ∧ termErr ar x.2.2 = 0) (hik : i.la = (k : Int)) (hx : c[k]? = some x) (hg : Ints w ar ga) (hc : LitsP w c ca) :
    Calls Tryz.prog 138 #[.agg #[.slice ga ar.length gcap], .slice ca c.length cc, infV i pa pc] w fun e w' => GivesC (infSame ar c k x) w.heap.size e w' ∧ Below w.heap.size w w' := by
  have hlt := (List.getElem?_eq_some_iff.1 hx).1
  obtain ⟨b, off, rfl⟩ := LitsP_some hc (by omega)
  obtain ⟨W1, hW1⟩ : ∃ W1, W1 = (w.alloc (.cells #[.slice ga ar.length gcap] 24)).alloc (.cells #[.int .i64 i.kind, .int .i64 i.left, .int .i64 i.right, .int .i64 i.la, .int .i64 i.ra, .bool i.lt, .bool i.rt, .slice pa i.place.length pc] 47) := ⟨_, rfl⟩
  have hbW : Below w.heap.size w W1 := by rw [hW1]; exact below2 _ _ _
  have hcg : W1.cell? ⟨w.heap.size, 0, none⟩ = some (.slice ga ar.length gcap) := by rw [hW1, cell_alloc_lt (by simp)]; exact cell_new 0 rfl
  have h8 : W1.cell? ⟨w.heap.size + 1, 3, none⟩ = some (.int .i64 (k : Int)) := by rw [← hik, hW1]; exact (I8.new _ (by simp)).e3
  obtain ⟨a1, c1, a2, c2, k0, k1, k2, k3, k4, k5, k6, i1, i2⟩ := LitsP_at (LitsP_below hbW hc) hx
  have hS := hide (fun (w' : World) (hb : Below W1.heap.size W1 w') => (show w'.cell? ⟨w.heap.size, 0, none⟩ = some (.slice ga ar.length gcap) ∧ w'.cell? ⟨w.heap.size + 1, 3, none⟩ = some (.int .i64 (k : Int)) ∧ w'.cell? ⟨b, off + k * 7 + 1, none⟩ = some (.int .i64 x.2.1.v) ∧ w'.cell? ⟨b, off + k * 7 + 2, none⟩ = some (.int .i64 x.2.1.f) ∧ w'.cell? ⟨b, off + k * 7 + 3, none⟩ = some (.slice a1 x.2.1.args.length c1) ∧ w'.cell? ⟨b, off + k * 7 + 4, none⟩ = some (.int .i64 x.2.2.v) ∧ w'.cell? ⟨b, off + k * 7 + 5, none⟩ = some (.int .i64 x.2.2.f) ∧ w'.cell? ⟨b, off + k * 7 + 6, none⟩ = some (.slice a2 x.2.2.args.length c2) from
    ⟨cellB hb hcg, cellB hb h8, cellB hb k1, cellB hb k2, cellB hb k3, cellB hb k4, cellB hb k5, cellB hb k6⟩))
  have HU := hide (fun (w' : World) (hb : Below W1.heap.size W1 w') => unifyE_any ar ga gcap x.2.1 a1 c1 x.2.2 a2 c2 w' (Ints_below (hbW.trans (hb.mono hbW.size)) hg) (InP_below hb i1) (InP_below hb i2))
  have HO := hide (fun (w' : World) (hb : Below W1.heap.size W1 w') => without_any c (some ⟨b, off, none⟩) cc k w' hlt hcl (LitsP_below (hbW.trans (hb.mono hbW.size)) hc))
  obtain ⟨U, hU⟩ : ∃ U, U = uniE ar x.2.1 x.2.2 := ⟨_, rfl⟩
  have HP := hide (fun (h0 : U.2 = 0) (ba : Option Addr) (bc : Nat) (da : Option Addr) (dc : Nat) (w' : World) (hb : Below W1.heap.size W1 w') (hbs : Binds (fun _ => True) w' U.1 ba) (hd : LitsP w' (c.eraseIdx k) da) => applied_any ar ga gcap U.1 ba bc (c.eraseIdx k) da dc w' (by rw [hU] at h0 ⊢; exact (uniE_ok hs h0).2) (by rw [List.length_eraseIdx]; split <;> omega) (by rw [hU] at h0 ⊢; exact (uniE_ok hs h0).1) (fun y hy => hte y (List.mem_of_mem_eraseIdx hy)) (Ints_below (hbW.trans (hb.mono hbW.size)) hg) hbs hd)
  have Hsp : Hid (infSame ar c k x = if U.2 = 0 then appliedS ar U.1 (c.eraseIdx k) else ([], U.2)) := by show _ = _; rw [infSame, ← hU]
  rw [← hU] at HU
  have hkI : (k : Int) < c.length := by omega
  have hk0 : (0 : Int) ≤ k := by omega
  have HW1 := hide hW1
  have HbW := hide hbW
  have HR := hide (Below.refl W1.heap.size W1)
  clear hW1 hbW hcg h8 k0 k1 k2 k3 k4 k5 k6 i1 i2 hx hg hc hte hik hU
  go_enter Tryz.func138, Tryz.ntmps138
  go_upto_region 1 with fail
  rw [← HW1.out]
  obtain ⟨l0, l1, l2, l3, l4, l5, l6, l7⟩ := hS.out W1 HR.out
  go_region_held3 (fun w' => w'.cell? ⟨w.heap.size, 0, none⟩ = some (.slice ga ar.length gcap) ∧ w'.cell? ⟨w.heap.size + 1, 3, none⟩ = some (.int .i64 (k : Int)) ∧ w'.cell? ⟨b, off + k * 7 + 1, none⟩ = some (.int .i64 x.2.1.v) ∧ w'.cell? ⟨b, off + k * 7 + 2, none⟩ = some (.int .i64 x.2.1.f) ∧ w'.cell? ⟨b, off + k * 7 + 3, none⟩ = some (.slice a1 x.2.1.args.length c1) ∧ w'.cell? ⟨b, off + k * 7 + 4, none⟩ = some (.int .i64 x.2.2.v) ∧ w'.cell? ⟨b, off + k * 7 + 5, none⟩ = some (.int .i64 x.2.2.f) ∧ w'.cell? ⟨b, off + k * 7 + 6, none⟩ = some (.slice a2 x.2.2.args.length c2)) ((first | (refine hS.out _ ?_; (repeat' (first | with_reducible exact Hid.out ‹Hid (Below W1.heap.size _ _)› | with_reducible exact Below.refl _ _ | (with_reducible refine Below.drew ?_))); done) | go_keep)) ((first
        | (go_at_call 177
           with_reducible refine (HU.out _ ?_).mono ?_
           · (repeat' (first | with_reducible exact Hid.out ‹Hid (Below W1.heap.size _ _)› | with_reducible exact Below.refl _ _ | (with_reducible refine Below.drew ?_)))
           rintro e wA ⟨aA, capA, rfl, hqA, hbA⟩
           have HbA : Hid (Below W1.heap.size W1 wA) := by first | exact hbA | exact below_undrew hbA
           have HqA := hide (Binds_imp (q := fun _ => True) (fun _ _ => trivial) hqA)
           clear hqA hbA)))
  clear l0 l1 l2 l3 l4 l5 l6 l7
  obtain ⟨l0, l1, l2, l3, l4, l5, l6, l7⟩ := hS.out wA HbA.out
  by_cases hU0 : U.2 = 0
  · have eu : (U.2 != 0) = false := by simpa using hU0
    have HU0 := hide hU0
    clear hU0
    go_upto_region 4 with fail
    go_region_held3 (fun w' => w'.cell? ⟨w.heap.size, 0, none⟩ = some (.slice ga ar.length gcap) ∧ w'.cell? ⟨w.heap.size + 1, 3, none⟩ = some (.int .i64 (k : Int)) ∧ w'.cell? ⟨b, off + k * 7 + 1, none⟩ = some (.int .i64 x.2.1.v) ∧ w'.cell? ⟨b, off + k * 7 + 2, none⟩ = some (.int .i64 x.2.1.f) ∧ w'.cell? ⟨b, off + k * 7 + 3, none⟩ = some (.slice a1 x.2.1.args.length c1) ∧ w'.cell? ⟨b, off + k * 7 + 4, none⟩ = some (.int .i64 x.2.2.v) ∧ w'.cell? ⟨b, off + k * 7 + 5, none⟩ = some (.int .i64 x.2.2.f) ∧ w'.cell? ⟨b, off + k * 7 + 6, none⟩ = some (.slice a2 x.2.2.args.length c2)) ((first | (refine hS.out _ ?_; (repeat' (first | with_reducible exact Hid.out ‹Hid (Below W1.heap.size _ wC)› | with_reducible exact Hid.out ‹Hid (Below W1.heap.size _ wB)› | with_reducible exact Hid.out ‹Hid (Below W1.heap.size _ _)› | with_reducible exact Below.refl _ _ | (with_reducible refine Below.drew ?_))); done) | go_keep)) ((first
        | (go_at_call 179
           with_reducible refine (HO.out _ ?_).mono ?_
           · (repeat' (first | with_reducible exact Hid.out ‹Hid (Below W1.heap.size _ _)› | with_reducible exact Below.refl _ _ | (with_reducible refine Below.drew ?_)))
           rintro e wB ⟨vB, rfl, hkB, hbB⟩
           obtain ⟨dB, capB, rfl, hlB⟩ := OutsL_end hkB.outs
           have Hb2 : Hid (Below wA.heap.size wA wB) := by first | exact hbB | exact below_undrew hbB
           have HbB : Hid (Below W1.heap.size W1 wB) := HbA.out.trans (Hb2.out.mono HbA.out.size)
           have HlB := hide (LitsQ_lits hlB)
           have HqB := hide (Binds_below Hb2.out HqA.out)
           clear hkB hbB hlB)
        | (go_at_call 178
           with_reducible refine (HP.out HU0.out _ _ _ _ _ ?_ HqB.out HlB.out).mono ?_
           · exact HbB.out
           rintro e wC ⟨hgC, hbC⟩
           obtain ⟨aC, capC, rfl, hlC, hoC⟩ := hgC
           have Hb3 : Hid (Below wB.heap.size wB wC) := by first | exact hbC | exact below_undrew hbC
           have HbC : Hid (Below W1.heap.size W1 wC) := HbB.out.trans (Hb3.out.mono HbB.out.size)
           have HfC := hide (And.intro hlC hoC)
           clear hlC hoC hbC)))
    go_wp2_with fail
    go_ret2
    have hbr := HbW.out.size
    have hba := HbB.out.size
    refine ⟨?_, HbW.out.trans (HbC.out.mono HbW.out.size)⟩
    rw [Hsp.out, if_pos HU0.out]
    refine ⟨aC, capC, rfl, HfC.out.1, ?_⟩
    rcases HfC.out.2 with h | ⟨g, B, h1, h2, h3, h4, h5⟩
    · exact Or.inl h
    · exact Or.inr ⟨g, B, h1, h2, h3, h4, fun j hj => by have := h5 j hj; omega⟩
  · have eu : (U.2 != 0) = true := by simpa using hU0
    have HU0 := hide hU0
    clear hU0
    go_wp2_with fail
    go_ret2
    exact ⟨by rw [Hsp.out, if_neg HU0.out]; exact ⟨none, 0, rfl, trivial, Or.inl rfl⟩, HbW.out.trans (HbA.out.mono HbW.out.size)⟩
end Go.Proofs.YtbkedppkdhfpoabGreat

namespace Go.Proofs.YtbkedppkdhfpoabGreat
open Go.RowKit
theorem side1_mem {ar : List Int} {x : Lit} (tu : Bool) (h : termErr ar x.2.1 = 0 ∧ termErr ar x.2.2 = 0) : termErr ar (side1 x tu) = 0 ∧ termErr ar (side2 x tu) = 0 := by
  cases tu
  · exact h
  · exact ⟨h.2, h.1⟩
theorem side_in {w : World} {x : Lit} {a1 a2 : Option Addr} (tu : Bool) (i1 : InL w x.2.1.args a1) (i2 : InL w x.2.2.args a2) : InL w (side1 x tu).args (if tu then a2 else a1) ∧ InL w (side2 x tu).args (if tu then a1 else a2) := by
  cases tu
  · exact ⟨i1, i2⟩
  · exact ⟨i2, i1⟩
theorem three_at {X wA : World} {n : Nat} {v0 v1 v2 : Value} {e : TypeId} (hb : Below X.heap.size X wA) (h : X.heap[n]? = some (.cells #[v0, v1, v2] e)) : Three wA n v0 v1 v2 := (Three.of_heap h).below hb
theorem heap_alloc_old (w : World) (o o2 : Obj) : ((w.alloc o).alloc o2).heap[w.heap.size]? = some o := by rw [(below1 (w.alloc o) o2).block _ (by simp)]; exact heap_alloc_self w o
theorem heap_alloc_two (w : World) (o o2 : Obj) : ((w.alloc o).alloc o2).heap[w.heap.size + 1]? = some o2 := by
  have := heap_alloc_self (w.alloc o) o2
  rwa [World.size_alloc] at this
structure TwoV (W w' : World) (p q : Nat) (s0 s1 s2 t0 t1 t2 : Value) : Prop where
  lp : W.heap.size ≤ p
  lq : W.heap.size ≤ q
  ne : p ≠ q
  one : Three w' p s0 s1 s2
  two : Three w' q t0 t1 t2
  below : Below W.heap.size W w'
theorem TwoV.swap {W w' : World} {p q : Nat} {s0 s1 s2 t0 t1 t2 : Value} (h : TwoV W w' p q s0 s1 s2 t0 t1 t2) : TwoV W w' q p t0 t1 t2 s0 s1 s2 := ⟨h.lq, h.lp, h.ne.symm, h.two, h.one, h.below⟩
theorem twoV_new {W wA : World} (hb : Below W.heap.size W wA) (s0 s1 s2 t0 t1 t2 : Value) (e e' : TypeId) : TwoV W ((wA.alloc (.cells #[s0, s1, s2] e)).alloc (.cells #[t0, t1, t2] e')) wA.heap.size (wA.heap.size + 1) s0 s1 s2 t0 t1 t2 :=
  ⟨hb.size, by have := hb.size; omega, by omega, (Three.new _ rfl).alloc _, Three.new _ (by simp), hb.trans ((below2 wA _ _).mono hb.size)⟩
theorem twoV_one {W wA : World} {P : Nat} {z0 z1 z2 : Value} (hb : Below W.heap.size W wA) (hP : W.heap.size ≤ P) (h3 : Three wA P z0 z1 z2) (s0 s1 s2 t0 t1 t2 : Value) (e : TypeId) :
    TwoV W ((((wA.setCell ⟨P, 0, none⟩ s0).setCell ⟨P, 1, none⟩ s1).setCell ⟨P, 2, none⟩ s2).alloc (.cells #[t0, t1, t2] e)) P wA.heap.size s0 s1 s2 t0 t1 t2 := by
  have hl := h3.lt
  have hs : (set3 wA P 0 s0 s1 s2).heap.size = wA.heap.size := set3_size
  have hb2 : Below W.heap.size W (set3 wA P 0 s0 s1 s2) := below_set3 hb hP _ _ _
  exact ⟨hP, hb.size, by omega, (h3.set s0 s1 s2).alloc _, Three.new _ hs.symm, hb2.trans ((below1 _ _).mono hb2.size)⟩
theorem twoV_two {W wA : World} {P Q : Nat} {z0 z1 z2 y0 y1 y2 : Value} (hb : Below W.heap.size W wA) (hP : W.heap.size ≤ P) (hQ : W.heap.size ≤ Q) (hne : P ≠ Q) (h3 : Three wA P z0 z1 z2) (h4 : Three wA Q y0 y1 y2) (s0 s1 s2 t0 t1 t2 : Value) :
    TwoV W ((((((wA.setCell ⟨P, 0, none⟩ s0).setCell ⟨P, 1, none⟩ s1).setCell ⟨P, 2, none⟩ s2).setCell ⟨Q, 0, none⟩ t0).setCell ⟨Q, 1, none⟩ t1).setCell ⟨Q, 2, none⟩ t2) P Q s0 s1 s2 t0 t1 t2 := by
  have h1 : Three (set3 wA P 0 s0 s1 s2) Q y0 y1 y2 := h4.same (set3_block hne.symm)
  have h2 : Three (set3 (set3 wA P 0 s0 s1 s2) Q 0 t0 t1 t2) Q t0 t1 t2 := h1.set _ _ _
  have h5 : Three (set3 (set3 wA P 0 s0 s1 s2) Q 0 t0 t1 t2) P s0 s1 s2 := (h3.set s0 s1 s2).same (set3_block hne)
  exact ⟨hP, hQ, hne, h5, h2, below_set3 (below_set3 hb hP _ _ _) hQ _ _ _⟩
end Go.Proofs.YtbkedppkdhfpoabGreat
