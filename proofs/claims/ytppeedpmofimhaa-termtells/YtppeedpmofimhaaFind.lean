/- The program's Size, and its way to a place. -/
import Derived.Test.YtppeedpmofimhaaCheck
namespace Go.Proofs.Ytppeedpmofimhaa
open Go.RowKit

set_option maxRecDepth 100000 in
set_option maxHeartbeats 400000 in
theorem Size_any (ar : List Int) (ga : Option Addr) (gcap : Nat) (t : T) (a : Option Addr) (cap : Nat) (w : World) (hg : Ints w ar ga) (hin : InL w t.args a) :
    Calls Try.prog 12 #[.agg #[.slice ga ar.length gcap], .agg #[.int .i64 t.v, .int .i64 t.f, .slice a t.args.length cap]] w fun e w' =>
      e = .returned (.tuple #[.int .i64 (if allErr ar [t] = 0 then min (t.sz : Int) 121 else 0), .int .i64 (allErr ar [t])]) ∧ Below w.heap.size w w' := by
  have Hg := hide (fun o1 o2 o3 => Ints_alloc o3 (Ints_alloc o2 (Ints_alloc o1 hg)))
  have Hin := hide (fun o1 o2 e => InP_new1 (n := w.heap.size + 1 + 1) (cap := cap) e (by simp) trivial (InP_alloc o2 (InP_alloc o1 hin)))
  have hs1 : T.sz.szL [t] = t.sz := by rw [T.szL_cons, T.szL_nil]; omega
  have Hs1 := hide hs1
  clear hg hs1
  go_enter Try.func12, Try.ntmps12
  go_wp2_with fail
  refine (check_any ar ga gcap [t] _ 1 _ (Hg.out _ _ _) (Hin.out _ _ _) (by simp)).mono ?_
  rintro e w1 ⟨rfl, hb1⟩
  have hbw : Below w.heap.size w w1 := (((below1 _ _).alloc (by simp) _).alloc (by simp; omega) _).trans (hb1.mono (by simp; omega))
  have hz1 : w.heap.size + 1 < w1.heap.size := by have := hb1.size; simp at this; omega
  have hd : ∀ j, w1.cell? ⟨w.heap.size + 1, j, none⟩ = #[Value.int .i64 t.v, .int .i64 t.f, .slice a t.args.length cap][j]? := fun j => by
    rw [hb1.cell (p := ⟨w.heap.size + 1, j, none⟩) (by simp), cell_alloc_lt (by simp), cell_new _ (by simp)]
  have d0 := hd 0
  have d1 := hd 1
  have d2 := hd 2
  simp only [List.getElem?_toArray, List.getElem?_cons_zero, List.getElem?_cons_succ] at d0 d1 d2
  clear hd hb1
  by_cases hs : allErr ar [t] = 0
  · rw [hs]
    have Hin2 := hide (fun e => InP_new1 (n := w1.heap.size) (cap := cap) e rfl trivial (InP_below hbw hin))
    go_wp2_with fail
    refine (size_any (t.sz + 1) [t] 120 _ 1 _ (by rw [Hs1.out]; omega) (by omega) (by omega) (Hin2.out _)).mono ?_
    rintro e w2 ⟨rfl, hb2⟩
    rw [Hs1.out]
    go_wp2_with fail
    go_ret2
    exact ⟨rfl, (hbw.alloc (by omega) _).trans (hb2.mono (by simp; omega))⟩
  · have hs1 : (allErr ar [t] != 0) = true := by simpa using hs
    go_wp2_with fail
    go_ret2
    exact ⟨rfl, hbw⟩

/-- A block of three cells, which may be written. -/
structure Three (w : World) (b : Nat) (v0 v1 v2 : Value) : Prop where
  c0 : w.cell? ⟨b, 0, none⟩ = some v0
  c1 : w.cell? ⟨b, 1, none⟩ = some v1
  c2 : w.cell? ⟨b, 2, none⟩ = some v2
  f0 : w.frozen? ⟨b, 0, none⟩ = false
  f1 : w.frozen? ⟨b, 1, none⟩ = false
  f2 : w.frozen? ⟨b, 2, none⟩ = false
theorem Three.new {w : World} {v0 v1 v2 : Value} {n : Nat} (e : TypeId) (hn : n = w.heap.size) : Three (w.alloc (.cells #[v0, v1, v2] e)) n v0 v1 v2 := by
  subst hn
  exact ⟨World.cell?_alloc_mark _ _ _ _ _, World.cell?_alloc_mark _ _ _ _ _, World.cell?_alloc_mark _ _ _ _ _, by simp, by simp, by simp⟩
theorem Three.same {w w' : World} {b : Nat} {v0 v1 v2 : Value} (h : Three w b v0 v1 v2) (hs : w'.heap[b]? = w.heap[b]?) : Three w' b v0 v1 v2 := by
  obtain ⟨c0, c1, c2, f0, f1, f2⟩ := h
  refine ⟨?_, ?_, ?_, ?_, ?_, ?_⟩
  · rw [World.cell?_of_block (w := w) (a := ⟨b, 0, none⟩) hs]; exact c0
  · rw [World.cell?_of_block (w := w) (a := ⟨b, 1, none⟩) hs]; exact c1
  · rw [World.cell?_of_block (w := w) (a := ⟨b, 2, none⟩) hs]; exact c2
  · rw [World.frozen?_of_block (w := w) (a := ⟨b, 0, none⟩) hs]; exact f0
  · rw [World.frozen?_of_block (w := w) (a := ⟨b, 1, none⟩) hs]; exact f1
  · rw [World.frozen?_of_block (w := w) (a := ⟨b, 2, none⟩) hs]; exact f2
theorem Three.lt {w : World} {b : Nat} {v0 v1 v2 : Value} (h : Three w b v0 v1 v2) : b < w.heap.size := lt_of_cell h.c0
theorem Three.below {w w' : World} {b : Nat} {v0 v1 v2 : Value} (h : Three w b v0 v1 v2) (hb : Below w.heap.size w w') : Three w' b v0 v1 v2 := h.same (hb.block b h.lt)
theorem Three.alloc {w : World} {b : Nat} {v0 v1 v2 : Value} (h : Three w b v0 v1 v2) (o : Obj) : Three (w.alloc o) b v0 v1 v2 := h.below (below1 _ _)

/-- Three cells stored. -/
abbrev set3 (w : World) (b off : Nat) (u0 u1 u2 : Value) : World := ((w.setCell ⟨b, off, none⟩ u0).setCell ⟨b, off + 1, none⟩ u1).setCell ⟨b, off + 2, none⟩ u2
theorem Three.set {w : World} {b : Nat} {v0 v1 v2 : Value} (h : Three w b v0 v1 v2) (u0 u1 u2 : Value) : Three (set3 w b 0 u0 u1 u2) b u0 u1 u2 := by
  obtain ⟨c0, c1, c2, f0, f1, f2⟩ := h
  have e0 : (w.setCell ⟨b, 0, none⟩ u0).cell? ⟨b, 0, none⟩ = some u0 := World.cell?_setCell_same _ _ _ c0
  have e1 : (w.setCell ⟨b, 0, none⟩ u0).cell? ⟨b, 1, none⟩ = some v1 := by rw [World.cell?_setCell_other _ _ _ _ (by simp)]; exact c1
  have e2 : (w.setCell ⟨b, 0, none⟩ u0).cell? ⟨b, 2, none⟩ = some v2 := by rw [World.cell?_setCell_other _ _ _ _ (by simp)]; exact c2
  have g1 : ((w.setCell ⟨b, 0, none⟩ u0).setCell ⟨b, 1, none⟩ u1).cell? ⟨b, 1, none⟩ = some u1 := World.cell?_setCell_same _ _ _ e1
  have g0 : ((w.setCell ⟨b, 0, none⟩ u0).setCell ⟨b, 1, none⟩ u1).cell? ⟨b, 0, none⟩ = some u0 := by rw [World.cell?_setCell_other _ _ _ _ (by simp)]; exact e0
  have g2 : ((w.setCell ⟨b, 0, none⟩ u0).setCell ⟨b, 1, none⟩ u1).cell? ⟨b, 2, none⟩ = some v2 := by rw [World.cell?_setCell_other _ _ _ _ (by simp)]; exact e2
  refine ⟨?_, ?_, World.cell?_setCell_same _ _ _ g2, ?_, ?_, ?_⟩
  · rw [World.cell?_setCell_other _ _ _ _ (by simp)]; exact g0
  · rw [World.cell?_setCell_other _ _ _ _ (by simp)]; exact g1
  · rw [World.frozen?_setCell, World.frozen?_setCell, World.frozen?_setCell]; exact f0
  · rw [World.frozen?_setCell, World.frozen?_setCell, World.frozen?_setCell]; exact f1
  · rw [World.frozen?_setCell, World.frozen?_setCell, World.frozen?_setCell]; exact f2
theorem set3_block {w : World} {b off k : Nat} {u0 u1 u2 : Value} (h : k ≠ b) : (set3 w b off u0 u1 u2).heap[k]? = w.heap[k]? := by
  rw [Below.heap_setCell _ _ _ _ h, Below.heap_setCell _ _ _ _ h, Below.heap_setCell _ _ _ _ h]
theorem set3_size {w : World} {b off : Nat} {u0 u1 u2 : Value} : (set3 w b off u0 u1 u2).heap.size = w.heap.size := by simp [set3, World.setCell]
theorem below_set3 {B : Nat} {a w : World} (h : Below B a w) {b off : Nat} (hB : B ≤ b) (u0 u1 u2 : Value) : Below B a (set3 w b off u0 u1 u2) :=
  ((h.setCell (p := ⟨b, off, none⟩) hB u0).setCell (p := ⟨b, off + 1, none⟩) hB u1).setCell (p := ⟨b, off + 2, none⟩) hB u2

/-- What the way to a place comes to. -/
def Found (t : T) (place : List Int) (w : World) (e : Ending) : Prop :=
  (∃ u a1 cap1, atT t place = some u ∧ e = .returned (.tuple #[.agg #[.int .i64 u.v, .int .i64 u.f, .slice a1 u.args.length cap1], .bool true]) ∧ InL w u.args a1) ∨
  (atT t place = none ∧ e = .returned (.tuple #[.agg #[.int .i64 0, .int .i64 0, .slice none 0 0], .bool false]))

set_option maxRecDepth 100000 in
set_option maxHeartbeats 400000 in
theorem find_any (t : T) (a : Option Addr) (cap : Nat) (place : List Int) (pa : Option Addr) (pcap : Nat) (w : World) (hp : Ints w place pa) (hin : InL w t.args a) (hl : place.length ≤ 9223372036854775807) :
    Calls Try.prog 64 #[.agg #[.int .i64 t.v, .int .i64 t.f, .slice a t.args.length cap], .slice pa place.length pcap] w fun e w' => Found t place w e ∧ Below w.heap.size w w' := by
  go_enter Try.func64, Try.ntmps64
  go_wp2_with fail
  go_loopw [7, 10] (fun _ i wr => ∃ (k : Nat) (u : T) (a1 : Option Addr) (cap1 : Nat), k ≤ place.length ∧ i = .int .i64 k ∧ Hid (atT t (place.take k) = some u) ∧ InL w u.args a1 ∧
      Three wr w.heap.size (.int .i64 u.v) (.int .i64 u.f) (.slice a1 u.args.length cap1) ∧ Three wr (w.heap.size + 1) (.int .i64 0) (.int .i64 0) (.slice none 0 0) ∧ Below w.heap.size w wr) (fun _ i _ => place.length - (intOf i).toNat)
  case atStart => exact ⟨0, t, a, cap, Nat.zero_le _, rfl, rfl, hin, (Three.new _ rfl).alloc _, Three.new _ (by simp), (below1 _ _).alloc (by simp) _⟩
  case round =>
    obtain ⟨k, u, a1, cap1, hk, rfl, HA, hin1, h3, h4, hb⟩ := hrel
    have hzr := hb.size
    have H3 := hide h3
    have H4 := hide h4
    obtain ⟨c0, c1, c2, f0, f1, f2⟩ := h3
    obtain ⟨d0, d1, d2, g0, g1, g2⟩ := h4
    by_cases hlt : k < place.length
    · obtain ⟨b, off, rfl, hc⟩ := Ints_some hp (by omega)
      have hck : wr.cell? ⟨b, off + k, none⟩ = some (.int .i64 (place.getD k 0)) := by rw [hb.cell (p := ⟨b, off + k, none⟩) (lt_of_cell (hc k hlt))]; exact hc k hlt
      have Hst := hide (atT_step hlt HA.out)
      clear hc
      generalize place.getD k 0 = i at *
      by_cases hi0 : i < 0
      · have hno := hide (Hst.out.2 (by omega))
        go_wp2_with fail
        exact bodyPost_ret (v := .tuple #[.agg #[.int .i64 0, .int .i64 0, .slice none 0 0], .bool false]) (by simp [results, Try.results64, go_sem, d0, d1, d2]) rfl ⟨Or.inr ⟨hno.out, rfl⟩, below_set3 hb (by omega) _ _ _⟩
      · obtain ⟨n, rfl⟩ := Int.eq_ofNat_of_zero_le (show 0 ≤ i by omega)
        by_cases hi1 : u.args.length ≤ n
        · have hno := hide (Hst.out.2 (by omega))
          have hi2 : (u.args.length : Int) ≤ n := by omega
          go_wp2_with fail
          exact bodyPost_ret (v := .tuple #[.agg #[.int .i64 0, .int .i64 0, .slice none 0 0], .bool false]) (by simp [results, Try.results64, go_sem, d0, d1, d2]) rfl ⟨Or.inr ⟨hno.out, rfl⟩, below_set3 hb (by omega) _ _ _⟩
        · have hi2 : n < u.args.length := by omega
          obtain ⟨b1, off1, rfl⟩ := InP_some hin1 (by omega)
          obtain ⟨t1, ht1⟩ : ∃ t1, u.args[n]? = some t1 := ⟨u.args[n], List.getElem?_eq_getElem hi2⟩
          obtain ⟨a2, cap2, _, k0, k1, k2, hin2⟩ := InP_at hin1 ht1
          have hgo := hide (Hst.out.1 t1 (by omega) (by omega) (by simpa using ht1))
          have hb1 := lt_of_cell k0
          rw [← hb.cell (p := ⟨b1, off1 + n * 3, none⟩) hb1] at k0
          rw [← hb.cell (p := ⟨b1, off1 + n * 3 + 1, none⟩) hb1] at k1
          rw [← hb.cell (p := ⟨b1, off1 + n * 3 + 2, none⟩) hb1] at k2
          clear ht1
          go_wp2_with fail
          go_roundw
          case rel => exact ⟨k + 1, t1, a2, cap2, by omega, by go_num, hgo, hin2, H3.out.set _ _ _, H4.out.same (set3_block (by omega)), below_set3 hb (Nat.le_refl _) _ _ _⟩
          case measure => simp [intOf]; omega
    · have hk2 : k = place.length := by omega
      subst hk2
      rw [List.take_length] at HA
      go_wp2_with fail
      have H5 := H4.out.set (.int .i64 u.v) (.int .i64 u.f) (.slice a1 u.args.length cap1)
      exact bodyPost_ret (v := .tuple #[.agg #[.int .i64 u.v, .int .i64 u.f, .slice a1 u.args.length cap1], .bool true]) (by simp [results, Try.results64, go_sem, d0, d1, d2]) rfl ⟨Or.inl ⟨u, a1, cap1, HA.out, rfl, hin1⟩, below_set3 hb (by omega) _ _ _⟩

end Go.Proofs.Ytppeedpmofimhaa
