/- The program's collecting of the variables of a term. The program's Size, and its way to a place. The contracts of the library that the program calls, laid at this program in plain words. The program's Vars: the variables, sorted, each once. The document's own checks, as the statements have them: numbers, signatures, sizes. Terms that the program has made itself: every list of arguments in a block of its own. -/
import Derived.Deep.AppendLies
import Derived.Deep.DeepCutAuto
import Derived.Deep.DrawnRows
import Derived.Deep.RegionHeld3
import Derived.Deep.RegionWith
import Derived.Shelf.Slices.CompactI
import Derived.Shelf.Slices.In.SortNone
import Derived.Shelf.Sort.Plain
import Derived.Test.YtbkedppkdhfpoaaProg
import Derived.Test.YtbkedppkdhfpoaaJoined1
namespace Go.Proofs.Ytbkedppkdhfpoaa
open Go.RowKit

/-- The block of the slice that a variable's block holds. -/
def slFoot : Option Obj → Nat → Prop := fun o k => ∃ a n c t fr, o = some (.cells #[.slice (some a) n c] t fr) ∧ k = a.block

theorem own_same {w w' : World} {base : Nat} {e : TypeId} {size : Nat} {v : Value} {n : Nat} {xs : List Value} (h : w.ownsRow base e size v n xs) (hs : ∀ g, v.ownBlock = some g → w'.heap[g]? = w.heap[g]?) : w'.ownsRow base e size v n xs := by
  obtain ⟨h1, h2⟩ := h
  refine ⟨h1, ?_⟩
  rcases h2 with h2 | ⟨g, cap, cur, hv, hg, hh, r⟩
  · exact Or.inl h2
  · exact Or.inr ⟨g, cap, cur, hv, hg, by rw [hs g (by rw [hv]; rfl)]; exact hh, r⟩
theorem own_lt {w : World} {base : Nat} {e : TypeId} {size : Nat} {v : Value} {n : Nat} {xs : List Value} (h : w.ownsRow base e size v n xs) : ∀ g, v.ownBlock = some g → base ≤ g ∧ g < w.heap.size := by
  intro g hg
  rcases h.2 with ⟨rfl, _⟩ | ⟨g', cap, cur, rfl, hb, hh, _⟩
  · cases hg
  · simp only [Value.ownBlock, Option.some.injEq] at hg
    subst hg
    refine ⟨hb, ?_⟩
    rcases Nat.lt_or_ge g' w.heap.size with h | h
    · exact h
    · rw [Array.getElem?_eq_none h] at hh; cases hh
theorem own_shape {w : World} {base : Nat} {e : TypeId} {size : Nat} {v : Value} {n : Nat} {xs : List Value} (h : w.ownsRow base e size v n xs) : ∃ a c, v = .slice a n c := by
  rcases h.2 with ⟨rfl, rfl⟩ | ⟨g', cap, cur, rfl, _⟩
  · exact ⟨_, _, rfl⟩
  · exact ⟨_, _, rfl⟩

/-- The variables so far, in a slice of the call's own that the variable at x holds. -/
structure VarsAt (x B : Nat) (w : World) (zs : List Int) : Prop where
  ex : ∃ v, w.heap[x]? = some (.cells #[v] 22 (0, 0)) ∧ w.ownsRow B 3 1 v zs.length (zs.map (Value.int .i64))

theorem foot_of {x : Nat} {w : World} {v : Value} {e : TypeId} {fr : Nat × Nat} (h : w.heap[x]? = some (.cells #[v] e fr)) (k : Nat) : slFoot w.heap[x]? k ↔ v.ownBlock = some k := by
  rw [h]
  constructor
  · rintro ⟨a, n, c, t, fr', h1, rfl⟩
    simp only [Option.some.injEq, Obj.cells.injEq] at h1
    obtain ⟨h1, _, _⟩ := h1
    have : v = .slice (some a) n c := by simpa using h1
    rw [this]; rfl
  · intro h1
    cases v with
    | slice a n c =>
      cases a with
      | none => cases h1
      | some a => exact ⟨a, n, c, e, fr, rfl, by simpa [Value.ownBlock] using h1.symm⟩
    | _ => cases h1

theorem VarsAt.below {x B : Nat} {w w' : World} {zs : List Int} (h : VarsAt x B w zs) (hb : Below w.heap.size w w') : VarsAt x B w' zs := by
  obtain ⟨v, h1, h2⟩ := h
  have hx : x < w.heap.size := by
    rcases Nat.lt_or_ge x w.heap.size with h | h
    · exact h
    · rw [Array.getElem?_eq_none h] at h1; cases h1
  exact ⟨v, by rw [hb.block x hx]; exact h1, own_same h2 (fun g hg => hb.block g (own_lt h2 g hg).2)⟩

def varStep : List Int → T → List Int × Bool := fun zs t => (if t.v = 0 then zs else zs ++ [t.v], true)

theorem Try.info3 : (Try.prog.info? 3).map (fun i => (i.zero, i.size, i.bytes)) = some (some (.int .i64 0), 1, 8) := by kernel_rfl

theorem one_new {w : World} {v : Value} {e : TypeId} {n : Nat} (hn : n = w.heap.size) : ∀ (j : Nat) (u : Value), [v][j]? = some u → (w.alloc (.cells #[v] e)).cell? ((⟨n, 0, none⟩ : Addr).add j) = some u := by
  subst hn; exact cell_one_new _ _ _

/-- What the append and the store behind it make. -/
theorem VarsAt.grown {x B : Nat} {w w2 : World} {zs : List Int} {v : Value} {n : Int} {g cap H : Nat} (hxB : x < B) (hB : B ≤ w.heap.size) (hv : w.heap[x]? = some (.cells #[v] 22 (0, 0))) (hown : w.ownsRow B 3 1 v zs.length (zs.map (Value.int .i64)))
    (hH : w.heap.size ≤ H) (W : World) (hW : Below w.heap.size w W)
    (hown2 : w2.ownsRow B 3 1 (.slice (some ⟨g, 0, none⟩) (zs.length + 1) cap) (zs.length + 1) (zs.map (Value.int .i64) ++ [.int .i64 n])) (hgr : W.grownBy w2 v.ownBlock) (hat : v.ownBlock = some g ∨ g = H) (hlt : g < w2.heap.size) :
    VarsAt x B (w2.setCell ⟨x, 0, none⟩ (.slice (some ⟨g, 0, none⟩) (zs.length + 1) cap)) (zs ++ [n]) ∧ Keeps x slFoot w (w2.setCell ⟨x, 0, none⟩ (.slice (some ⟨g, 0, none⟩) (zs.length + 1) cap)) := by
  have hx : x < w.heap.size := by omega
  have hxv : v.ownBlock ≠ some x := fun e => by have := (own_lt hown x e).1; omega
  have hwsz := hW.size
  have hgs := hgr.size
  have hx2 : w2.heap[x]? = some (.cells #[v] 22 (0, 0)) := by rw [hgr.block x (by omega) (fun e => hxv e.symm), hW.block x hx]; exact hv
  have hx3 : (w2.setCell ⟨x, 0, none⟩ (.slice (some ⟨g, 0, none⟩) (zs.length + 1) cap)).heap[x]? = some (.cells #[.slice (some ⟨g, 0, none⟩) (zs.length + 1) cap] 22 (0, 0)) := by
    simp [World.setCell, Array.getElem?_modify, hx2]
  have hg := own_lt hown2 g rfl
  refine ⟨⟨_, hx3, ?_⟩, hgr.os.trans hW.os, hgr.tape.trans hW.tape, hgr.output.trans hW.output, ?_, fun k hk hkx hkF => ?_, fun k hkF => ?_⟩
  · rw [List.length_append, List.map_append]
    exact ownsRow_setCell_below hown2 hxB _
  · simp [World.setCell]; omega
  · rw [foot_of hv] at hkF
    rw [Below.heap_setCell _ _ _ _ hkx, hgr.block k (by omega) (fun e => hkF e.symm), hW.block k hk]
  · rw [foot_of hx3] at hkF
    simp only [Value.ownBlock, Option.some.injEq] at hkF
    subst hkF
    rcases hat with hat | rfl
    · exact Or.inl ((foot_of hv _).2 hat)
    · exact Or.inr ⟨hH, by simp [World.setCell]; omega⟩

set_option maxRecDepth 100000 in
set_option maxHeartbeats 400000 in
theorem varsC_any (x B : Nat) (w : World) (zs : List Int) (t : T) (a : Option Addr) (cap : Nat) (hxB : x < B) (hB : B ≤ w.heap.size) (hz : zs.length < 1000) (h : VarsAt x B w zs) :
    Calls Try.prog 55 #[.agg #[.int .i64 t.v, .int .i64 t.f, .slice a t.args.length cap], .pointer (some ⟨x, 0, none⟩)] w fun e w' =>
      e = .returned (.bool (varStep zs t).2) ∧ VarsAt x B w' (varStep zs t).1 ∧ Keeps x slFoot w w' := by
  have hx : x < w.heap.size := by omega
  by_cases ht : t.v = 0
  · have h1 : varStep zs t = (zs, true) := by rw [varStep, if_pos ht]
    rw [h1]
    have ht' : (t.v != 0) = false := by simpa using ht
    have H := hide h
    clear h h1 ht
    go_enter Try.func55, Try.ntmps55
    go_wp2_with fail
    go_ret
    exact ⟨rfl, H.out.below (below1 _ _), Keeps.of_below hx (below1 _ _)⟩
  · have h1 : varStep zs t = (zs ++ [t.v], true) := by rw [varStep, if_neg ht]
    rw [h1]
    have ht' : (t.v != 0) = true := by simpa using ht
    obtain ⟨v, hv, hown⟩ := h
    obtain ⟨va, vc, rfl⟩ := own_shape hown
    have cv : w.cell? ⟨x, 0, none⟩ = some (.slice va zs.length vc) := by simp [World.cell?, hv]
    have Hv := hide hv
    have Hown := hide hown
    clear h1 ht hv hown
    obtain ⟨i, hi, hzz⟩ := Option.map_eq_some_iff.1 Try.info3
    simp only [Prod.mk.injEq] at hzz
    obtain ⟨hz0, hz1, hz2⟩ := hzz
    have HO := hide (fun o1 o2 => own_same Hown.out (w' := (w.alloc o1).alloc o2) (fun g hg => (below2 w o1 o2).block g (own_lt Hown.out g hg).2))
    go_enter Try.func55, Try.ntmps55
    go_wp2_with (at_builtin; go_must (refine wpList_append_lies _ rfl (.tmp 7) (.tmp 10) 22 rfl B 3 i (.int .i64 0) 1 8 Try.underlying22 hi hz0 hz1 hz2 rfl (by decide) (.slice va zs.length vc) zs.length (zs.map (Value.int .i64)) rfl (HO.out _ _) ⟨w.heap.size + 1, 0, none⟩ 1 1 [.int .i64 t.v] rfl rfl (one_new (by simp)) (by simp [Value.oneCell']) (by decide) (by unfold maxLen; omega) (by omega) (by simp; omega) _ rfl ?_))
    intro g cap2 w2 hown2 hgr hat hlt
    have hg := VarsAt.grown (H := w.heap.size + 1 + 1) hxB hB Hv.out Hown.out (by omega) _ (below2 _ _ _) hown2 hgr (by simpa using hat) hlt
    have Hg := hide hg
    have hx2 : w2.heap[x]? = some (.cells #[.slice va zs.length vc] 22 (0, 0)) := by
      have hne : (Value.slice va zs.length vc).ownBlock ≠ some x := fun e => by have := (own_lt Hown.out x e).1; omega
      rw [hgr.block x (by simp; omega) (fun e => hne e.symm), (below2 _ _ _).block x hx]; exact Hv.out
    have cv2 : w2.cell? ⟨x, 0, none⟩ = some (.slice va zs.length vc) := by simp [World.cell?, hx2]
    have fv2 : w2.frozen? ⟨x, 0, none⟩ = false := by simp [World.frozen?, hx2]
    clear hg hown2 hgr hat hx2 HO
    go_wp2_with fail
    go_ret
    exact ⟨rfl, Hg.out⟩

end Go.Proofs.Ytbkedppkdhfpoaa

namespace Go.Proofs.Ytbkedppkdhfpoaa
open Go.RowKit

set_option maxRecDepth 100000 in
set_option maxHeartbeats 400000 in
theorem Size_any (ar : List Int) (ga : Option Addr) (gcap : Nat) (t : T) (a : Option Addr) (cap : Nat) (w : World) (hg : Ints w ar ga) (hin : InL w t.args a) :
    Calls Try.prog 12 #[.agg #[.slice ga ar.length gcap], .agg #[.int .i64 t.v, .int .i64 t.f, .slice a t.args.length cap]] w fun e w' =>
      e = .returned (.tuple #[.int .i64 (if allErr ar [t] = 0 then min (t.sz : Int) 121 else 0), .int .i64 (allErr ar [t])]) ∧ Below w.heap.size w w' := by
  have Hg := hide (fun o1 o2 o3 => Ints_alloc o3 (Ints_alloc o2 (Ints_alloc o1 hg)))
  have Hin := hide (fun o1 o2 e => InP_new1 (n := w.heap.size + 1 + 1) (cap := cap) e (by simp) trivial (InP_alloc o2 (InP_alloc o1 hin)))
  have hs1 : T.sz.szL [t] = t.sz := by rw [T.szL_cons, T.szL_nil]; omega
  have Hs1 := hide hs1
  clear hg hs1
  go_enter Try.func12, Try.ntmps12
  go_wp2_with fail
  refine (check_any ar ga gcap [t] _ 1 _ (Hg.out _ _ _) (Hin.out _ _ _) (by simp)).mono ?_
  rintro e w1 ⟨rfl, hb1⟩
  have hbw : Below w.heap.size w w1 := (((below1 _ _).alloc (by simp) _).alloc (by simp; omega) _).trans (hb1.mono (by simp; omega))
  have hz1 : w.heap.size + 1 < w1.heap.size := by have := hb1.size; simp at this; omega
  have hd : ∀ j, w1.cell? ⟨w.heap.size + 1, j, none⟩ = #[Value.int .i64 t.v, .int .i64 t.f, .slice a t.args.length cap][j]? := fun j => by
    rw [hb1.cell (p := ⟨w.heap.size + 1, j, none⟩) (by simp), cell_alloc_lt (by simp), cell_new _ (by simp)]
  have d0 := hd 0
  have d1 := hd 1
  have d2 := hd 2
  simp only [List.getElem?_toArray, List.getElem?_cons_zero, List.getElem?_cons_succ] at d0 d1 d2
  clear hd hb1
  by_cases hs : allErr ar [t] = 0
  · rw [hs]
    have Hin2 := hide (fun e => InP_new1 (n := w1.heap.size) (cap := cap) e rfl trivial (InP_below hbw hin))
    go_wp2_with fail
    refine (size_any (t.sz + 1) [t] 120 _ 1 _ (by rw [Hs1.out]; omega) (by omega) (by omega) (Hin2.out _)).mono ?_
    rintro e w2 ⟨rfl, hb2⟩
    rw [Hs1.out]
    go_wp2_with fail
    go_ret2
    exact ⟨rfl, (hbw.alloc (by omega) _).trans (hb2.mono (by simp; omega))⟩
  · have hs1 : (allErr ar [t] != 0) = true := by simpa using hs
    go_wp2_with fail
    go_ret2
    exact ⟨rfl, hbw⟩

/-- A block of three cells, which may be written. -/
structure Three (w : World) (b : Nat) (v0 v1 v2 : Value) : Prop where
  c0 : w.cell? ⟨b, 0, none⟩ = some v0
  c1 : w.cell? ⟨b, 1, none⟩ = some v1
  c2 : w.cell? ⟨b, 2, none⟩ = some v2
  f0 : w.frozen? ⟨b, 0, none⟩ = false
  f1 : w.frozen? ⟨b, 1, none⟩ = false
  f2 : w.frozen? ⟨b, 2, none⟩ = false
theorem Three.new {w : World} {v0 v1 v2 : Value} {n : Nat} (e : TypeId) (hn : n = w.heap.size) : Three (w.alloc (.cells #[v0, v1, v2] e)) n v0 v1 v2 := by
  subst hn
  exact ⟨World.cell?_alloc_mark _ _ _ _ _, World.cell?_alloc_mark _ _ _ _ _, World.cell?_alloc_mark _ _ _ _ _, by simp, by simp, by simp⟩
theorem Three.same {w w' : World} {b : Nat} {v0 v1 v2 : Value} (h : Three w b v0 v1 v2) (hs : w'.heap[b]? = w.heap[b]?) : Three w' b v0 v1 v2 := by
  obtain ⟨c0, c1, c2, f0, f1, f2⟩ := h
  refine ⟨?_, ?_, ?_, ?_, ?_, ?_⟩
  · rw [World.cell?_of_block (w := w) (a := ⟨b, 0, none⟩) hs]; exact c0
  · rw [World.cell?_of_block (w := w) (a := ⟨b, 1, none⟩) hs]; exact c1
  · rw [World.cell?_of_block (w := w) (a := ⟨b, 2, none⟩) hs]; exact c2
  · rw [World.frozen?_of_block (w := w) (a := ⟨b, 0, none⟩) hs]; exact f0
  · rw [World.frozen?_of_block (w := w) (a := ⟨b, 1, none⟩) hs]; exact f1
  · rw [World.frozen?_of_block (w := w) (a := ⟨b, 2, none⟩) hs]; exact f2
theorem Three.lt {w : World} {b : Nat} {v0 v1 v2 : Value} (h : Three w b v0 v1 v2) : b < w.heap.size := lt_of_cell h.c0
theorem Three.below {w w' : World} {b : Nat} {v0 v1 v2 : Value} (h : Three w b v0 v1 v2) (hb : Below w.heap.size w w') : Three w' b v0 v1 v2 := h.same (hb.block b h.lt)
theorem Three.alloc {w : World} {b : Nat} {v0 v1 v2 : Value} (h : Three w b v0 v1 v2) (o : Obj) : Three (w.alloc o) b v0 v1 v2 := h.below (below1 _ _)

/-- Three cells stored. -/
abbrev set3 (w : World) (b off : Nat) (u0 u1 u2 : Value) : World := ((w.setCell ⟨b, off, none⟩ u0).setCell ⟨b, off + 1, none⟩ u1).setCell ⟨b, off + 2, none⟩ u2
theorem Three.set {w : World} {b : Nat} {v0 v1 v2 : Value} (h : Three w b v0 v1 v2) (u0 u1 u2 : Value) : Three (set3 w b 0 u0 u1 u2) b u0 u1 u2 := by
  obtain ⟨c0, c1, c2, f0, f1, f2⟩ := h
  have e0 : (w.setCell ⟨b, 0, none⟩ u0).cell? ⟨b, 0, none⟩ = some u0 := World.cell?_setCell_same _ _ _ c0
  have e1 : (w.setCell ⟨b, 0, none⟩ u0).cell? ⟨b, 1, none⟩ = some v1 := by rw [World.cell?_setCell_other _ _ _ _ (by simp)]; exact c1
  have e2 : (w.setCell ⟨b, 0, none⟩ u0).cell? ⟨b, 2, none⟩ = some v2 := by rw [World.cell?_setCell_other _ _ _ _ (by simp)]; exact c2
  have g1 : ((w.setCell ⟨b, 0, none⟩ u0).setCell ⟨b, 1, none⟩ u1).cell? ⟨b, 1, none⟩ = some u1 := World.cell?_setCell_same _ _ _ e1
  have g0 : ((w.setCell ⟨b, 0, none⟩ u0).setCell ⟨b, 1, none⟩ u1).cell? ⟨b, 0, none⟩ = some u0 := by rw [World.cell?_setCell_other _ _ _ _ (by simp)]; exact e0
  have g2 : ((w.setCell ⟨b, 0, none⟩ u0).setCell ⟨b, 1, none⟩ u1).cell? ⟨b, 2, none⟩ = some v2 := by rw [World.cell?_setCell_other _ _ _ _ (by simp)]; exact e2
  refine ⟨?_, ?_, World.cell?_setCell_same _ _ _ g2, ?_, ?_, ?_⟩
  · rw [World.cell?_setCell_other _ _ _ _ (by simp)]; exact g0
  · rw [World.cell?_setCell_other _ _ _ _ (by simp)]; exact g1
  · rw [World.frozen?_setCell, World.frozen?_setCell, World.frozen?_setCell]; exact f0
  · rw [World.frozen?_setCell, World.frozen?_setCell, World.frozen?_setCell]; exact f1
  · rw [World.frozen?_setCell, World.frozen?_setCell, World.frozen?_setCell]; exact f2
theorem set3_block {w : World} {b off k : Nat} {u0 u1 u2 : Value} (h : k ≠ b) : (set3 w b off u0 u1 u2).heap[k]? = w.heap[k]? := by
  rw [Below.heap_setCell _ _ _ _ h, Below.heap_setCell _ _ _ _ h, Below.heap_setCell _ _ _ _ h]
theorem set3_size {w : World} {b off : Nat} {u0 u1 u2 : Value} : (set3 w b off u0 u1 u2).heap.size = w.heap.size := by simp [set3, World.setCell]
theorem below_set3 {B : Nat} {a w : World} (h : Below B a w) {b off : Nat} (hB : B ≤ b) (u0 u1 u2 : Value) : Below B a (set3 w b off u0 u1 u2) :=
  ((h.setCell (p := ⟨b, off, none⟩) hB u0).setCell (p := ⟨b, off + 1, none⟩) hB u1).setCell (p := ⟨b, off + 2, none⟩) hB u2

/-- What the way to a place comes to. -/
def Found (t : T) (place : List Int) (w : World) (e : Ending) : Prop :=
  (∃ u a1 cap1, atT t place = some u ∧ e = .returned (.tuple #[.agg #[.int .i64 u.v, .int .i64 u.f, .slice a1 u.args.length cap1], .bool true]) ∧ InL w u.args a1) ∨
  (atT t place = none ∧ e = .returned (.tuple #[.agg #[.int .i64 0, .int .i64 0, .slice none 0 0], .bool false]))

set_option maxRecDepth 100000 in
set_option maxHeartbeats 400000 in
theorem find_any (t : T) (a : Option Addr) (cap : Nat) (place : List Int) (pa : Option Addr) (pcap : Nat) (w : World) (hp : Ints w place pa) (hin : InL w t.args a) (hl : place.length ≤ 9223372036854775807) :
    Calls Try.prog 64 #[.agg #[.int .i64 t.v, .int .i64 t.f, .slice a t.args.length cap], .slice pa place.length pcap] w fun e w' => Found t place w e ∧ Below w.heap.size w w' := by
  go_enter Try.func64, Try.ntmps64
  go_wp2_with fail
  go_loopw [7, 10] (fun _ i wr => ∃ (k : Nat) (u : T) (a1 : Option Addr) (cap1 : Nat), k ≤ place.length ∧ i = .int .i64 k ∧ Hid (atT t (place.take k) = some u) ∧ InL w u.args a1 ∧
      Three wr w.heap.size (.int .i64 u.v) (.int .i64 u.f) (.slice a1 u.args.length cap1) ∧ Three wr (w.heap.size + 1) (.int .i64 0) (.int .i64 0) (.slice none 0 0) ∧ Below w.heap.size w wr) (fun _ i _ => place.length - (intOf i).toNat)
  case atStart => exact ⟨0, t, a, cap, Nat.zero_le _, rfl, rfl, hin, (Three.new _ rfl).alloc _, Three.new _ (by simp), (below1 _ _).alloc (by simp) _⟩
  case round =>
    obtain ⟨k, u, a1, cap1, hk, rfl, HA, hin1, h3, h4, hb⟩ := hrel
    have hzr := hb.size
    have H3 := hide h3
    have H4 := hide h4
    obtain ⟨c0, c1, c2, f0, f1, f2⟩ := h3
    obtain ⟨d0, d1, d2, g0, g1, g2⟩ := h4
    by_cases hlt : k < place.length
    · obtain ⟨b, off, rfl, hc⟩ := Ints_some hp (by omega)
      have hck : wr.cell? ⟨b, off + k, none⟩ = some (.int .i64 (place.getD k 0)) := by rw [hb.cell (p := ⟨b, off + k, none⟩) (lt_of_cell (hc k hlt))]; exact hc k hlt
      have Hst := hide (atT_step hlt HA.out)
      clear hc
      generalize place.getD k 0 = i at *
      by_cases hi0 : i < 0
      · have hno := hide (Hst.out.2 (by omega))
        go_wp2_with fail
        exact bodyPost_ret (v := .tuple #[.agg #[.int .i64 0, .int .i64 0, .slice none 0 0], .bool false]) (by simp [results, Try.results64, go_sem, d0, d1, d2]) rfl ⟨Or.inr ⟨hno.out, rfl⟩, below_set3 hb (by omega) _ _ _⟩
      · obtain ⟨n, rfl⟩ := Int.eq_ofNat_of_zero_le (show 0 ≤ i by omega)
        by_cases hi1 : u.args.length ≤ n
        · have hno := hide (Hst.out.2 (by omega))
          have hi2 : (u.args.length : Int) ≤ n := by omega
          go_wp2_with fail
          exact bodyPost_ret (v := .tuple #[.agg #[.int .i64 0, .int .i64 0, .slice none 0 0], .bool false]) (by simp [results, Try.results64, go_sem, d0, d1, d2]) rfl ⟨Or.inr ⟨hno.out, rfl⟩, below_set3 hb (by omega) _ _ _⟩
        · have hi2 : n < u.args.length := by omega
          obtain ⟨b1, off1, rfl⟩ := InP_some hin1 (by omega)
          obtain ⟨t1, ht1⟩ : ∃ t1, u.args[n]? = some t1 := ⟨u.args[n], List.getElem?_eq_getElem hi2⟩
          obtain ⟨a2, cap2, _, k0, k1, k2, hin2⟩ := InP_at hin1 ht1
          have hgo := hide (Hst.out.1 t1 (by omega) (by omega) (by simpa using ht1))
          have hb1 := lt_of_cell k0
          rw [← hb.cell (p := ⟨b1, off1 + n * 3, none⟩) hb1] at k0
          rw [← hb.cell (p := ⟨b1, off1 + n * 3 + 1, none⟩) hb1] at k1
          rw [← hb.cell (p := ⟨b1, off1 + n * 3 + 2, none⟩) hb1] at k2
          clear ht1
          go_wp2_with fail
          go_roundw
          case rel => exact ⟨k + 1, t1, a2, cap2, by omega, by go_num, hgo, hin2, H3.out.set _ _ _, H4.out.same (set3_block (by omega)), below_set3 hb (Nat.le_refl _) _ _ _⟩
          case measure => simp [intOf]; omega
    · have hk2 : k = place.length := by omega
      subst hk2
      rw [List.take_length] at HA
      go_wp2_with fail
      have H5 := H4.out.set (.int .i64 u.v) (.int .i64 u.f) (.slice a1 u.args.length cap1)
      exact bodyPost_ret (v := .tuple #[.agg #[.int .i64 u.v, .int .i64 u.f, .slice a1 u.args.length cap1], .bool true]) (by simp [results, Try.results64, go_sem, d0, d1, d2]) rfl ⟨Or.inl ⟨u, a1, cap1, HA.out, rfl, hin1⟩, below_set3 hb (by omega) _ _ _⟩

end Go.Proofs.Ytbkedppkdhfpoaa

namespace Go.Proofs
open Go.Shelf
def Try.lays189_ren : Go.Shelf.Ren := ⟨fun | 189 => 56 | 125 => 88 | 257 => 87 | 128 => 113 | 129 => 114 | 294 => 104 | 295 => 105 | 296 => 106 | 297 => 107 | 298 => 108 | 299 => 109 | 216 => 110 | 300 => 111 | 301 => 112 | 328 => 120 | 329 => 121 | 330 => 122 | 331 => 123 | 332 => 124 | 215 => 125 | 343 => 130 | n => n, fun | 28 => 22 | 3 => 3 | 46 => 119 | 0 => 0 | 51 => 153 | 53 => 155 | 4 => 4 | 183 => 147 | 182 => 146 | 131 => 127 | 5 => 5 | 9 => 9 | 218 => 159 | 222 => 163 | 228 => 168 | 229 => 169 | n => n, fun | n => n⟩
theorem Try.lays189 : Go.Proofs.Lays.n189 Try.prog Try.lays189_ren := {
  mixed := by kernel_rfl
  f125 := Try.func88.trans (congrArg some (by kernel_rfl))
  f128 := Try.func113.trans (congrArg some (by kernel_rfl))
  f129 := Try.func114.trans (congrArg some (by kernel_rfl))
  f189 := Try.func56.trans (congrArg some (by kernel_rfl))
  f215 := Try.func125.trans (congrArg some (by kernel_rfl))
  f216 := Try.func110.trans (congrArg some (by kernel_rfl))
  f257 := Try.func87.trans (congrArg some (by kernel_rfl))
  f294 := Try.func104.trans (congrArg some (by kernel_rfl))
  f295 := Try.func105.trans (congrArg some (by kernel_rfl))
  f296 := Try.func106.trans (congrArg some (by kernel_rfl))
  f297 := Try.func107.trans (congrArg some (by kernel_rfl))
  f298 := Try.func108.trans (congrArg some (by kernel_rfl))
  f299 := Try.func109.trans (congrArg some (by kernel_rfl))
  f300 := Try.func111.trans (congrArg some (by kernel_rfl))
  f301 := Try.func112.trans (congrArg some (by kernel_rfl))
  f328 := Try.func120.trans (congrArg some (by kernel_rfl))
  f329 := Try.func121.trans (congrArg some (by kernel_rfl))
  f330 := Try.func122.trans (congrArg some (by kernel_rfl))
  f331 := Try.func123.trans (congrArg some (by kernel_rfl))
  f332 := Try.func124.trans (congrArg some (by kernel_rfl))
  f343 := Try.func130.trans (congrArg some (by kernel_rfl))
  t0 := Try.underlying0
  a0 := Try.isAgg0
  z0 := Try.sizeOf0
  v0 := Try.zeroValue0
  t3 := Try.underlying3
  a3 := Try.isAgg3
  z3 := Try.sizeOf3
  v3 := Try.zeroValue3
  t4 := Try.underlying4
  a4 := Try.isAgg4
  z4 := Try.sizeOf4
  v4 := Try.zeroValue4
  t5 := Try.underlying5
  a5 := Try.isAgg5
  z5 := Try.sizeOf5
  v5 := Try.zeroValue5
  t9 := Try.underlying9
  a9 := Try.isAgg9
  z9 := Try.sizeOf9
  v9 := Try.zeroValue9
  t28 := Try.underlying22
  a28 := Try.isAgg22
  z28 := Try.sizeOf22
  v28 := Try.zeroValue22
  t46 := Try.underlying119
  a46 := Try.isAgg119
  z46 := Try.sizeOf119
  v46 := Try.zeroValue119
  t51 := Try.underlying153
  a51 := Try.isAgg153
  z51 := Try.sizeOf153
  v51 := Try.zeroValue153
  t53 := Try.underlying155
  a53 := Try.isAgg155
  z53 := Try.sizeOf155
  v53 := Try.zeroValue155
  t131 := Try.underlying127
  a131 := Try.isAgg127
  z131 := Try.sizeOf127
  v131 := Try.zeroValue127
  t182 := Try.underlying146
  a182 := Try.isAgg146
  z182 := Try.sizeOf146
  v182 := Try.zeroValue146
  t183 := Try.underlying147
  a183 := Try.isAgg147
  z183 := Try.sizeOf147
  v183 := Try.zeroValue147
  t218 := Try.underlying159
  a218 := Try.isAgg159
  z218 := Try.sizeOf159
  v218 := Try.zeroValue159
  t222 := Try.underlying163
  a222 := Try.isAgg163
  z222 := Try.sizeOf163
  v222 := Try.zeroValue163
  t228 := Try.underlying168
  a228 := Try.isAgg168
  z228 := Try.sizeOf168
  v228 := Try.zeroValue168
  t229 := Try.underlying169
  a229 := Try.isAgg169
  z229 := Try.sizeOf169
  v229 := Try.zeroValue169 }
open Go.Sort Go.RowKit in
theorem Try.slices_Sort_int (blk off cap : Nat) (zs : List Int) (w : World) (hH : Holds (Value.int .i64) w blk off zs.toArray) (hblk : blk < w.heap.size) (hsz : zs.length < 4611686018427387904) :
    Calls Try.prog 56 #[.slice (some ⟨blk, off, none⟩) zs.length cap] w fun e w' =>
      e = .returned (.tuple #[]) ∧ ∃ n os, w' = grow (putRow (Value.int .i64) (Sort.ahead w n) blk off (zs.mergeSort fun x y => decide (x ≤ y)).toArray) os := Any.slices_Sort_int Try.lays189 blk off cap zs w hH hblk hsz
def Try.laysNm220_ren : Go.Shelf.Ren := ⟨fun | 20 => 57 | n => n, fun | 22 => 22 | 3 => 3 | 4 => 4 | 0 => 0 | n => n, fun | n => n⟩
theorem Try.laysNm220 : Go.Proofs.Lays2.n20 Try.prog Try.laysNm220_ren := {
  mixed := by kernel_rfl
  f20 := Try.func57.trans (congrArg some (by kernel_rfl))
  t0 := Try.underlying0
  a0 := Try.isAgg0
  z0 := Try.sizeOf0
  v0 := Try.zeroValue0
  t3 := Try.underlying3
  a3 := Try.isAgg3
  z3 := Try.sizeOf3
  v3 := Try.zeroValue3
  t4 := Try.underlying4
  a4 := Try.isAgg4
  z4 := Try.sizeOf4
  v4 := Try.zeroValue4
  t22 := Try.underlying22
  a22 := Try.isAgg22
  z22 := Try.sizeOf22
  v22 := Try.zeroValue22
  i3 := by kernel_rfl }
open Go.RowKit Go.Lib Go.Sort in
theorem Try.slices_Compact_int (blk off cap : Nat) (zs : List Int) (w : World) (hH : Holds (Value.int .i64) w blk off zs.toArray) (hsz : zs.length ≤ 9223372036854775807) (hcap : zs.length ≤ cap) :
    Calls Try.prog 57 #[.slice (some ⟨blk, off, none⟩) zs.length cap] w fun e w' => e = .returned (.slice (some ⟨blk, off, none⟩) (Lib.compact zs).length cap) ∧ ∃ q, w' = putRow (Value.int .i64) (Sort.ahead w q) blk off (Lib.compact zs ++ List.replicate (zs.length - (Lib.compact zs).length) 0).toArray := Any.slices_Compact_int Try.laysNm220 blk off cap zs w hH hsz hcap
open Go.RowKit Go.Lib Go.Sort in
theorem Try.slices_Compact_int_empty (a : Option Addr) (cap : Nat) (w : World) :
    Calls Try.prog 57 #[.slice a 0 cap] w fun e w' => e = .returned (.slice a 0 cap) ∧ w' = w := Any.slices_Compact_int_empty Try.laysNm220 a cap w
open Go.RowKit Go.Sort in
theorem Try.slices_Sort_int_none (p : Option Addr) (cap : Nat) (w : World) :
    Calls Try.prog 56 #[.slice p 0 cap] w fun e w' => e = .returned (.tuple #[]) ∧ w' = w := Any.slices_Sort_int_none Try.lays189 p cap w
end Go.Proofs

namespace Go.Proofs.Ytbkedppkdhfpoaa
open Go.RowKit

theorem putRow_block {α : Type} [Inhabited α] {enc : α → Value} {w : World} {blk off k : Nat} {d : Array α} (h : k ≠ blk) : (Sort.putRow enc w blk off d).heap[k]? = w.heap[k]? := by
  simp [Sort.putRow, Sort.mapBlock, Array.getElem?_modify, Ne.symm h]

theorem holds_own {w : World} {B g cap : Nat} {zs : List Int} (h : w.ownsRow B 3 1 (.slice (some ⟨g, 0, none⟩) zs.length cap) zs.length (zs.map (Value.int .i64))) (hn : 0 < zs.length) : Sort.Holds (Value.int .i64) w g 0 zs.toArray ∧ g < w.heap.size ∧ zs.length ≤ cap := by
  rcases h.2 with ⟨_, h0⟩ | ⟨g', cap', cur, he, hb, hg, hc, hm, hs, ht⟩
  · omega
  simp only [Value.slice.injEq, Option.some.injEq, Addr.mk.injEq, and_true, true_and] at he
  obtain ⟨rfl, rfl⟩ := he
  refine ⟨fun j hj => ?_, ?_, hc⟩
  · have hj' : j < zs.length := by simpa using hj
    have e1 : cur[j]? = some (.int .i64 zs[j]) := by
      have : (cur.toList.take (zs.length * 1))[j]? = some (.int .i64 zs[j]) := by rw [ht]; simp [hj']
      rw [List.getElem?_take_of_lt (by omega)] at this
      simpa using this
    constructor
    · simp only [World.cell?, hg, Nat.zero_add]
      simp [e1, hj']
    · simp [World.frozen?, hg]
  · rcases Nat.lt_or_ge g w.heap.size with h | h
    · exact h
    · rw [Array.getElem?_eq_none h] at hg; cases hg

theorem sort_any (g cap : Nat) (zs : List Int) (w : World) (hH : Sort.Holds (Value.int .i64) w g 0 zs.toArray) (hg : g < w.heap.size) (hn : zs.length ≤ 2000) :
    Calls Try.prog 56 #[.slice (some ⟨g, 0, none⟩) zs.length cap] w fun e w' => e = .returned (.tuple #[]) ∧ Keeps g noFoot w w' ∧ Sort.Holds (Value.int .i64) w' g 0 (zs.mergeSort fun x y => decide (x ≤ y)).toArray := by
  refine (Try.slices_Sort_int g 0 cap zs w hH hg (by omega)).mono ?_
  rintro e w' ⟨rfl, n, os, rfl⟩
  refine ⟨rfl, ⟨rfl, rfl, rfl, by simp, fun k hk hkg _ => ?_, fun _ h => h.elim⟩, ?_⟩
  · rw [Sort.heap_grow_old _ _ (by simpa using hk), putRow_block hkg]; rfl
  · refine Sort.holds_grow _ _ _ _ _ _ (by simpa using hg) (Sort.holds_putRow _ _ _ _ zs.toArray _ hH (by simp))

theorem compact_le (zs : List Int) : (Lib.compact zs).length ≤ zs.length := by
  unfold Lib.compact Lib.compactUpTo
  rw [List.length_map]
  exact Nat.le_trans (List.length_filter_le _ _) (by simp)

theorem compact_any (g cap : Nat) (zs : List Int) (w : World) (hH : Sort.Holds (Value.int .i64) w g 0 zs.toArray) (hcap : zs.length ≤ cap) (hn : zs.length ≤ 2000) :
    Calls Try.prog 57 #[.slice (some ⟨g, 0, none⟩) zs.length cap] w fun e w' => e = .returned (.slice (some ⟨g, 0, none⟩) (Lib.compact zs).length cap) ∧ Keeps g noFoot w w' ∧ Ints w' (Lib.compact zs) (some ⟨g, 0, none⟩) := by
  refine (Try.slices_Compact_int g 0 cap zs w hH (by omega) hcap).mono ?_
  rintro e w' ⟨rfl, q, rfl⟩
  have hle := compact_le zs
  refine ⟨rfl, ⟨rfl, rfl, rfl, by simp, fun k hk hkg _ => ?_, fun _ h => h.elim⟩, Or.inr ⟨g, 0, rfl, fun i hi => ?_⟩⟩
  · rw [putRow_block hkg]; rfl
  · have h1 := Sort.cell?_putRow (Value.int .i64) (Sort.ahead w q) g 0 zs.toArray (Lib.compact zs ++ List.replicate (zs.length - (Lib.compact zs).length) 0).toArray hH (by simp; omega) i (by simp; omega)
    rw [h1]
    congr 1
    simp [List.getElem?_append_left hi, List.getD]

theorem eg55 (args : Array Value) (w : World) : (callFunc 55 args).run Try.prog w = .ok (.enter 55 args) w := by kernel_rfl

theorem look_vars (x B : Nat) (ts : List T) (a : Option Addr) (cap : Nat) (w : World) (hxB : x < B) (h1000 : T.sz.szL ts ≤ 1000) (hf : Foot x B slFoot w) (hin : InP (fun k => k < B ∧ k ≠ x) w ts a) (hst : VarsAt x B w []) :
    Calls Try.prog 54 #[.func (.func 55) #[] #[.pointer (some ⟨x, 0, none⟩)], .slice a ts.length cap] w fun e w' =>
      e = .returned (.bool (lookT.lookL varStep [] ts).2) ∧ VarsAt x B w' (lookT.lookL varStep [] ts).1 ∧ Keeps x slFoot w w' :=
  look_any varStep 55 #[.pointer (some ⟨x, 0, none⟩)] x B slFoot (VarsAt x B) eg55 List.length 1000 (fun s t => by
      show (if t.v = 0 then s else s ++ [t.v]).length ≤ _
      split <;> simp) (fun _ _ _ _ h => h.below (below1 _ _))
    (fun w' s t' a' cap' hlt hf' h => varsC_any x B w' s t' a' cap' hxB hf'.hB hlt h) (T.sz.szL ts + 1) ts a cap w [] (by omega) h1000 (by simpa using h1000) hf hin hst

/-- All variables of a term, behind those that stand ahead. -/
def allVars (t : T) : List Int := (lookT.lookL varStep [] [t]).1
/-- The variables of a term, rising, each once. -/
def varsT (t : T) : List Int := Lib.compact ((allVars t).mergeSort fun x y => decide (x ≤ y))

/-- What Vars answers. -/
def varsSpec (ar : List Int) (t : T) : List Int := if allErr ar [t] = 0 then varsT t else []

/-- Numbers and an error handed back. -/
def GivesInts (zs : List Int) (err : Int) (e : Ending) (w' : World) : Prop :=
  ∃ a1 cap1, e = .returned (.tuple #[.slice a1 zs.length cap1, .int .i64 err]) ∧ Ints w' zs a1
/-- The same; what is nil has no room, and what is not begins somewhere. -/
def GivesNums (zs : List Int) (err : Int) (e : Ending) (w' : World) : Prop :=
  ∃ a1 cap1, e = .returned (.tuple #[.slice a1 zs.length cap1, .int .i64 err]) ∧ Ints w' zs a1 ∧ ((a1 = none ∧ cap1 = 0) ∨ ∃ g, a1 = some ⟨g, 0, none⟩)

theorem allVars_le (t : T) : (allVars t).length ≤ t.sz := by
  have := (look_mu (step := varStep) (mu := List.length) (fun s t => by
      show (if t.v = 0 then s else s ++ [t.v]).length ≤ _
      split <;> simp) _).2 [t] [] (Nat.le_refl _)
  rw [T.szL_cons, T.szL_nil] at this
  simpa [allVars] using this

theorem Below.of_keepsF {x B : Nat} {F : Option Obj → Nat → Prop} {W w' : World} (h : Keeps x F W w') (hx : B ≤ x) (hB : B ≤ W.heap.size) (hF : ∀ k, F W.heap[x]? k → B ≤ k) : Below B W w' :=
  ⟨h.os, h.tape, h.output, h.size, fun k hk => h.block k (by omega) (by omega) (fun hk' => by have := hF k hk'; omega)⟩

set_option maxRecDepth 100000 in
set_option maxHeartbeats 1000000 in
theorem Vars_nums (ar : List Int) (ga : Option Addr) (gcap : Nat) (t : T) (a : Option Addr) (cap : Nat) (w : World) (hg : Ints w ar ga) (hin : InL w t.args a) (hszok : allErr ar [t] = 0 → t.sz ≤ 120) :
    Calls Try.prog 13 #[.agg #[.slice ga ar.length gcap], .agg #[.int .i64 t.v, .int .i64 t.f, .slice a t.args.length cap]] w fun e w' =>
      GivesNums (varsSpec ar t) (allErr ar [t]) e w' ∧ Below w.heap.size w w' := by
  have hmf : ∀ (fn : Fn) (first cap : Array Value) (w : World), (Instr.makeFunc fn first cap).run Try.prog w = .ok (.func fn first cap) w := fun _ _ _ _ => rfl
  have Hg := hide (fun o1 o2 o3 => Ints_alloc o3 (Ints_alloc o2 (Ints_alloc o1 hg)))
  have Hin := hide (fun o1 o2 e => InP_new1 (n := w.heap.size + 1 + 1) (cap := cap) e (by simp) trivial (InP_alloc o2 (InP_alloc o1 hin)))
  have hs1 : T.sz.szL [t] = t.sz := by rw [T.szL_cons, T.szL_nil]; omega
  have Hs1 := hide hs1
  clear hg hs1
  go_enter Try.func13, Try.ntmps13
  go_wp2_with fail
  refine (check_any ar ga gcap [t] _ 1 _ (Hg.out _ _ _) (Hin.out _ _ _) (by simp)).mono ?_
  rintro e w1 ⟨rfl, hb1⟩
  have hbw : Below w.heap.size w w1 := (((below1 _ _).alloc (by simp) _).alloc (by simp; omega) _).trans (hb1.mono (by simp; omega))
  have hz1 : w.heap.size + 1 < w1.heap.size := by have := hb1.size; simp at this; omega
  have h3t : Three w1 (w.heap.size + 1) (.int .i64 t.v) (.int .i64 t.f) (.slice a t.args.length cap) := ((Three.new _ (by simp)).alloc _).below hb1
  clear hb1
  by_cases hs : allErr ar [t] = 0
  · have hsz := hszok hs
    have hsp : varsSpec ar t = varsT t := by rw [varsSpec, if_pos hs]
    have Hsp := hide hsp
    have Hs := hide hs
    rw [hs]
    obtain ⟨d0, d1, d2, _, _, _⟩ := h3t
    have hin1 := InP_lt (InP_below hbw hin)
    have hin2 : ∀ e1 e2, InP (fun k => k < w1.heap.size + 2 ∧ k ≠ w1.heap.size) ((w1.alloc (.cells #[.slice none 0 0] e1)).alloc (.cells #[.int .i64 t.v, .int .i64 t.f, .slice a t.args.length cap] e2)) [t] (some ⟨w1.heap.size + 1, 0, none⟩) :=
      fun e1 e2 => InP_new1 e2 (by simp) (by constructor <;> simp) (InP_alloc _ (InP_imp (fun k h => by omega) hin1))
    have hst : ∀ o2, VarsAt w1.heap.size (w1.heap.size + 2) ((w1.alloc (.cells #[.slice none 0 0] 22)).alloc o2) [] := fun o2 =>
      VarsAt.below ⟨.slice none 0 0, heap_alloc_new w1 _, ⟨rfl, Or.inl ⟨rfl, rfl⟩⟩⟩ (below1 _ _)
    have hft : ∀ o2, Foot w1.heap.size (w1.heap.size + 2) slFoot ((w1.alloc (.cells #[.slice none 0 0] 22)).alloc o2) := fun o2 =>
      ⟨by simp; omega, by simp, fun k hk => by
        rw [Below.heap_alloc _ _ _ (by simp), foot_of (heap_alloc_new w1 _)] at hk; cases hk⟩
    have Hin2 := hide hin2
    have Hst := hide hst
    have Hft := hide hft
    clear hin1 hin2 hst hft hs hsp
    go_wp2_with fail
    refine (look_vars _ (w1.heap.size + 2) [t] _ 1 _ (by omega) (by rw [Hs1.out]; omega) (Hft.out _) (Hin2.out _ _) (Hst.out _)).mono ?_
    rintro e w2 ⟨rfl, hvars, hkeep⟩
    have hb2 : Below w.heap.size w w2 := ((hbw.alloc (by omega) _).alloc (by simp; omega) _).trans (Below.of_keepsF hkeep (by omega) (by simp; omega) (fun k hk => by have := (Hft.out _).rng k hk; omega))
    have hsz2 := hkeep.size
    simp at hsz2
    have hle := allVars_le t
    change VarsAt w1.heap.size (w1.heap.size + 2) w2 (allVars t) at hvars
    obtain ⟨v, hv, hown⟩ := hvars
    obtain ⟨va, vc, rfl⟩ := own_shape hown
    have cv : w2.cell? ⟨w1.heap.size, 0, none⟩ = some (.slice va (allVars t).length vc) := by simp [World.cell?, hv]
    have Hv := hide hv
    have Hown := hide hown
    clear hkeep hv hown Hft Hin2 Hst
    clear hszok
    by_cases hnil : (allVars t).length = 0
    · have hv0 : varsSpec ar t = [] := by
        rw [Hsp.out, varsT, List.length_eq_zero_iff.1 hnil, List.mergeSort_nil]; rfl
      have Hv0 := hide hv0
      have Hvn : Hid ((va = none ∧ vc = 0) ∨ ∃ g, va = some ⟨g, 0, none⟩) := by
        rcases Hown.out.2 with ⟨h, _⟩ | ⟨g, cap, cur, h, _⟩
        · simp only [Value.slice.injEq] at h; exact Or.inl ⟨h.1, h.2.2⟩
        · simp only [Value.slice.injEq] at h; exact Or.inr ⟨g, h.1⟩
      rw [hnil] at cv
      clear hnil hv0
      go_wp2_with fail
      refine (Try.slices_Sort_int_none va vc _).mono ?_
      rintro e w3 ⟨rfl, rfl⟩
      go_wp2_with fail
      refine (Try.slices_Compact_int_empty va vc _).mono ?_
      rintro e w4 ⟨rfl, rfl⟩
      go_wp2_with fail
      go_ret2
      exact ⟨by rw [Hv0.out, Hs.out]; exact ⟨va, vc, rfl, Or.inl rfl, Hvn.out⟩, hb2⟩
    · have hpos : 0 < (allVars t).length := by omega
      obtain ⟨g, cap2, hform, hBg, hglt⟩ := Hown.out.form hpos
      simp only [Value.slice.injEq, true_and] at hform
      obtain ⟨rfl, rfl⟩ := hform
      obtain ⟨hH, _, hcap⟩ := holds_own Hown.out hpos
      have HH := hide hH
      have hlen : ((allVars t).mergeSort fun x y => decide (x ≤ y)).length = (allVars t).length := List.length_mergeSort _
      have Hlen := hide hlen
      clear hH hlen hnil
      go_wp2_with fail
      refine (sort_any g vc (allVars t) _ HH.out hglt (by omega)).mono ?_
      rintro e w3 ⟨rfl, hk3, hH3⟩
      have hz3 := hk3.size
      have cv3 : w3.cell? ⟨w1.heap.size, 0, none⟩ = some (.slice (some ⟨g, 0, none⟩) (allVars t).length vc) := by
        rw [World.cell?_of_block (w := w2) (a := ⟨w1.heap.size, 0, none⟩) (hk3.block w1.heap.size (by omega) (by omega) (fun h => h))]; exact cv
      have Hb3 := hide (hb2.trans (Below.of_keeps (B := w.heap.size) hk3 (by omega) (by have := hb2.size; omega)))
      have hH3' := hide hH3
      clear hk3 hH3
      go_wp2_with fail
      have hcm := compact_any g vc ((allVars t).mergeSort fun x y => decide (x ≤ y)) w3 hH3'.out (by rw [Hlen.out]; exact hcap) (by rw [Hlen.out]; omega)
      rw [Hlen.out] at hcm
      refine hcm.mono ?_
      rintro e w4 ⟨rfl, hk4, hI⟩
      clear hcm
      have hsp4 : varsSpec ar t = Lib.compact ((allVars t).mergeSort fun x y => decide (x ≤ y)) := Hsp.out
      have Hsp4 := hide hsp4
      have Hb4 := hide (Hb3.out.trans (Below.of_keeps (B := w.heap.size) hk4 (by omega) (by have := Hb3.out.size; omega)))
      have HI := hide hI
      clear hsp4 hk4 hI
      go_wp2_with fail
      go_ret2
      exact ⟨by rw [Hsp4.out, Hs.out]; exact ⟨_, vc, rfl, HI.out, Or.inr ⟨_, rfl⟩⟩, Hb4.out⟩
  · have hs1 : (allErr ar [t] != 0) = true := by simpa using hs
    have hsp : varsSpec ar t = [] := by rw [varsSpec, if_neg hs]
    have Hsp := hide hsp
    clear hs hsp hszok
    go_wp2_with fail
    go_ret2
    exact ⟨by rw [Hsp.out]; exact ⟨none, 0, rfl, Or.inl rfl, Or.inl ⟨rfl, rfl⟩⟩, hbw⟩
theorem Vars_any (ar : List Int) (ga : Option Addr) (gcap : Nat) (t : T) (a : Option Addr) (cap : Nat) (w : World) (hg : Ints w ar ga) (hin : InL w t.args a) (hszok : allErr ar [t] = 0 → t.sz ≤ 120) :
    Calls Try.prog 13 #[.agg #[.slice ga ar.length gcap], .agg #[.int .i64 t.v, .int .i64 t.f, .slice a t.args.length cap]] w fun e w' =>
      GivesInts (varsSpec ar t) (allErr ar [t]) e w' ∧ Below w.heap.size w w' :=
  (Vars_nums ar ga gcap t a cap w hg hin hszok).mono fun _ _ ⟨⟨a1, c1, h1, h2, _⟩, hb⟩ => ⟨⟨a1, c1, h1, h2⟩, hb⟩

end Go.Proofs.Ytbkedppkdhfpoaa

namespace Go.Proofs.Ytbkedppkdhfpoaa
open Go.RowKit

set_option maxRecDepth 100000 in
set_option maxHeartbeats 400000 in
theorem between_any (n lo hi : Int) (w : World) : Calls Try.prog 63 #[.int .i64 n, .int .i64 lo, .int .i64 hi] w fun e w' => e = .returned (.bool (decide (lo ≤ n ∧ n ≤ hi))) ∧ w' = w := by
  by_cases h1 : lo ≤ n
  · by_cases h2 : n ≤ hi
    · have hfin : decide (lo ≤ n ∧ n ≤ hi) = true := by simp [h1, h2]
      rw [hfin]; clear hfin
      go_enter Try.func63, Try.ntmps63
      go_wp2_with fail
      go_ret
      exact ⟨rfl, rfl⟩
    · have hfin : decide (lo ≤ n ∧ n ≤ hi) = false := by simp; omega
      rw [hfin]; clear hfin
      go_enter Try.func63, Try.ntmps63
      go_wp2_with fail
      go_ret
      exact ⟨rfl, rfl⟩
  · have hfin : decide (lo ≤ n ∧ n ≤ hi) = false := by simp; omega
    rw [hfin]; clear hfin
    go_enter Try.func63, Try.ntmps63
    go_wp2_with fail
    go_ret
    exact ⟨rfl, rfl⟩

theorem between_yes (n lo hi : Int) (w : World) (h1 : lo ≤ n) (h2 : n ≤ hi) : Calls Try.prog 63 #[.int .i64 n, .int .i64 lo, .int .i64 hi] w fun e w' => e = .returned (.bool true) ∧ w' = w := by
  have h := between_any n lo hi w
  rwa [show decide (lo ≤ n ∧ n ≤ hi) = true from by simp [h1, h2]] at h
theorem between_no (n lo hi : Int) (w : World) (h : ¬ (lo ≤ n ∧ n ≤ hi)) : Calls Try.prog 63 #[.int .i64 n, .int .i64 lo, .int .i64 hi] w fun e w' => e = .returned (.bool false) ∧ w' = w := by
  have h' := between_any n lo hi w
  rwa [show decide (lo ≤ n ∧ n ≤ hi) = false from by simpa using h] at h'

set_option maxRecDepth 100000 in
set_option maxHeartbeats 400000 in
theorem checkSignature_any (ar : List Int) (ga : Option Addr) (gcap : Nat) (w : World) (hg : Ints w ar ga) :
    Calls Try.prog 20 #[.agg #[.slice ga ar.length gcap]] w fun e w' => e = .returned (.int .i64 (sigErr ar)) ∧ Below w.heap.size w w' := by
  by_cases hlen : 12 < ar.length
  · have hfin : sigErr ar = 2 := by simp [sigErr, hlen]
    rw [hfin]
    clear hfin
    go_enter Try.func20, Try.ntmps20
    go_wp2_with fail
    go_ret
    exact ⟨rfl, below1 _ _⟩
  · have hlen' : ar.length ≤ 12 := by omega
    go_enter Try.func20, Try.ntmps20
    go_wp2_with fail
    go_loop [3] (fun i => ∃ k : Nat, k ≤ ar.length ∧ i = .int .i64 k ∧ Hid ((ar.take k).all (fun n => decide (0 ≤ n ∧ n ≤ 3)) = true)) (fun i => ar.length - (intOf i).toNat)
    case atStart => exact ⟨0, Nat.zero_le _, rfl, rfl⟩
    case round =>
      obtain ⟨k, hk, rfl, hall⟩ := hrel
      by_cases hlt : k < ar.length
      · obtain ⟨b, off, rfl, hc⟩ := Ints_some hg (by omega)
        have hck : w.cell? ⟨b, off + k, none⟩ = some (.int .i64 (ar.getD k 0)) := hc k hlt
        have hbk := lt_of_cell hck
        have hs := all_take_succ (p := fun n => decide (0 ≤ n ∧ n ≤ 3)) hlt
        have hf := all_of_take (p := fun n => decide (0 ≤ n ∧ n ≤ 3)) hlt
        have Hs := hide hs
        have Hf := hide hf
        clear hs hf hc
        generalize ar.getD k 0 = n at *
        by_cases h0 : 0 ≤ n ∧ n ≤ 3
        · have H0 := hide h0
          clear h0
          go_wp2_with fail
          refine (between_yes n 0 3 _ H0.out.1 H0.out.2).mono ?_
          rintro e w' ⟨rfl, rfl⟩
          go_wp2_with fail
          go_round
          case rel => exact ⟨k + 1, by omega, by go_num, by have h1 := Hs.out; have h2 := H0.out; rw [hall.out] at h1; simpa [Hid, h2.1, h2.2] using h1⟩
          case measure => simp [intOf]; omega
        · have H0 := hide h0
          clear h0
          go_wp2_with fail
          refine (between_no n 0 3 _ H0.out).mono ?_
          rintro e w' ⟨rfl, rfl⟩
          go_wp2_with fail
          go_ret
          exact ⟨ret_int (by rw [sigErr, if_neg hlen, Hf.out (by have := H0.out; simpa using this)]; rfl), below1 _ _⟩
      · go_wp2_with fail
        go_ret
        have hk2 : k = ar.length := by omega
        subst hk2
        rw [List.take_length] at hall
        exact ⟨ret_int (by simp only [sigErr, if_neg hlen]; rw [hall.out]; rfl), below1 _ _⟩

set_option maxRecDepth 100000 in
set_option maxHeartbeats 400000 in
theorem sizeOf_any (N : Nat) : ∀ (t : T) (enough : Int) (a : Option Addr) (cap : Nat) (w : World), t.sz < N → 0 ≤ enough → enough ≤ 1000 → InL w t.args a →
    Calls Try.prog 15 #[.agg #[.int .i64 t.v, .int .i64 t.f, .slice a t.args.length cap], .int .i64 enough] w fun e w' => e = .returned (.int .i64 (min (t.sz : Int) (enough + 1))) ∧ Below w.heap.size w w' := by
  induction N with
  | zero => intro t enough a cap w hN; omega
  | succ N ih =>
    intro t enough a cap w hN he0 he1 IH
    have Hih := hide ih
    have htsz := T.sz_eq t
    clear ih
    go_enter Try.func15, Try.ntmps15
    go_wp2_with fail
    go_loopw [5, 6] (fun n i wr => ∃ k : Nat, k ≤ t.args.length ∧ i = .int .i64 k ∧ n = .int .i64 (min (1 + (T.sz.szL (t.args.take k) : Int)) (enough + 1)) ∧ k ≤ 1001 ∧
        Three wr w.heap.size (.int .i64 t.v) (.int .i64 t.f) (.slice a t.args.length cap) ∧ Below w.heap.size w wr) (fun _ i _ => t.args.length - (intOf i).toNat)
    case atStart => exact ⟨0, Nat.zero_le _, rfl, by simp [T.szL_nil]; omega, by omega, Three.new _ rfl, below1 _ _⟩
    case round =>
      obtain ⟨k, hk, rfl, rfl, hk1, h3, hb⟩ := hrel
      have H3 := hide h3
      obtain ⟨c0, c1, c2, _, _, _⟩ := h3
      have hzr := hb.size
      by_cases hlt : k < t.args.length
      · by_cases hgo : 1 + (T.sz.szL (t.args.take k) : Int) ≤ enough
        · obtain ⟨b, off, rfl⟩ := InP_some IH (by omega)
          obtain ⟨x, hx⟩ : ∃ x, t.args[k]? = some x := ⟨t.args[k], List.getElem?_eq_getElem hlt⟩
          obtain ⟨a1, cap1, _, k0, k1, k2, hin1⟩ := InP_at (InP_below hb IH) hx
          obtain ⟨hs1, hs2⟩ := szL_take hx
          have hxe := T.sz_eq x
          have Hs1 := hide hs1
          have hk3 : k ≤ 1000 := by have := T.length_le (t.args.take k); rw [List.length_take_of_le (by omega)] at this; omega
          have hm : min (1 + (T.sz.szL (t.args.take k) : Int)) (enough + 1) = 1 + T.sz.szL (t.args.take k) := by omega
          rw [hm]
          clear hs1 hx hm
          go_wp2_with fail
          refine (Hih.out x _ a1 cap1 _ (by omega) (by omega) (by omega) hin1).mono ?_
          rintro e w2 ⟨rfl, hb2⟩
          have hm2 : min (x.sz : Int) (enough - (1 + (T.sz.szL (t.args.take k) : Int)) + 1) ≤ enough := by omega
          have hm3 : 0 ≤ min (x.sz : Int) (enough - (1 + (T.sz.szL (t.args.take k) : Int)) + 1) := by omega
          have Hm4 : Hid (1 + (T.sz.szL (t.args.take k) : Int) + min (x.sz : Int) (enough - (1 + (T.sz.szL (t.args.take k) : Int)) + 1) = min (1 + (T.sz.szL (t.args.take (k + 1)) : Int)) (enough + 1)) := by
            show _ = _
            rw [Hs1.out]; omega
          generalize min (x.sz : Int) (enough - (1 + (T.sz.szL (t.args.take k) : Int)) + 1) = m at *
          go_wp2_with fail
          go_roundw
          case rel => exact ⟨k + 1, by omega, by go_num, by rw [← Hm4.out], by omega, H3.out.below hb2, hb.trans (hb2.mono hzr)⟩
          case measure => simp [intOf]; omega
        · have hm : min (1 + (T.sz.szL (t.args.take k) : Int)) (enough + 1) = enough + 1 := by omega
          have hle : T.sz.szL (t.args.take k) ≤ T.sz.szL t.args := by
            have e2 : T.sz.szL t.args = T.sz.szL (t.args.take k) + T.sz.szL (t.args.drop k) := by rw [← T.szL_append, List.take_append_drop]
            omega
          rw [hm]
          clear hm
          go_wp2_with fail
          go_ret
          exact ⟨ret_int (by omega), hb⟩
      · go_wp2_with fail
        go_ret
        have hk2 : k = t.args.length := by omega
        subst hk2
        rw [List.take_length]
        exact ⟨ret_int (by omega), hb⟩

end Go.Proofs.Ytbkedppkdhfpoaa

namespace Go.Proofs.Ytbkedppkdhfpoaa
open Go.RowKit

/-- The arguments lie behind 's', each list of them in a block of its own; B: these blocks. -/
def T.Own (w : World) : T → Value → List Nat → Prop
  | ⟨_, _, args⟩, s, B => (args = [] ∧ s = .slice none 0 0 ∧ B = []) ∨
      (args ≠ [] ∧ ∃ b B', s = .slice (some ⟨b, 0, none⟩) args.length args.length ∧ B = b :: B' ∧ (∀ j, w.frozen? ⟨b, j, none⟩ = false) ∧ OwnL args b 0 B')
  where
  OwnL : List T → Nat → Nat → List Nat → Prop
    | [], _, _, B => B = []
    | t :: ts, b, off, B => ∃ s Bt Br, B = Bt ++ Br ∧ w.cell? ⟨b, off, none⟩ = some (.int .i64 t.v) ∧ w.cell? ⟨b, off + 1, none⟩ = some (.int .i64 t.f) ∧ w.cell? ⟨b, off + 2, none⟩ = some s ∧ t.Own w s Bt ∧ OwnL ts b (off + 3) Br

abbrev OwnL (w : World) (ts : List T) (b off : Nat) (B : List Nat) : Prop := T.Own.OwnL w ts b off B

theorem OwnL_nil {w : World} {b off : Nat} {B : List Nat} : OwnL w [] b off B ↔ B = [] := Iff.rfl
theorem OwnL_cons {w : World} {t : T} {ts : List T} {b off : Nat} {B : List Nat} : OwnL w (t :: ts) b off B ↔ ∃ s Bt Br, B = Bt ++ Br ∧ w.cell? ⟨b, off, none⟩ = some (.int .i64 t.v) ∧ w.cell? ⟨b, off + 1, none⟩ = some (.int .i64 t.f) ∧ w.cell? ⟨b, off + 2, none⟩ = some s ∧ t.Own w s Bt ∧ OwnL w ts b (off + 3) Br := Iff.rfl
theorem Own_iff {w : World} {t : T} {s : Value} {B : List Nat} : t.Own w s B ↔ (t.args = [] ∧ s = .slice none 0 0 ∧ B = []) ∨
      (t.args ≠ [] ∧ ∃ b B', s = .slice (some ⟨b, 0, none⟩) t.args.length t.args.length ∧ B = b :: B' ∧ (∀ j, w.frozen? ⟨b, j, none⟩ = false) ∧ OwnL w t.args b 0 B') := by
  cases t; exact Iff.rfl

/-- What is owned stays owned where its blocks hold what they held. -/
theorem OwnL_mono {w w' : World} : ∀ (n : Nat) (ts : List T) (b off : Nat) (B : List Nat), T.sz.szL ts ≤ n → (∀ k, k ∈ B → w'.heap[k]? = w.heap[k]?) →
    (∀ j, off ≤ j → j < off + ts.length * 3 → w'.cell? ⟨b, j, none⟩ = w.cell? ⟨b, j, none⟩) → OwnL w ts b off B → OwnL w' ts b off B := by
  intro n
  induction n with
  | zero =>
    intro ts b off B hn _ _ h
    cases ts with
    | nil => exact h
    | cons t ts => have := t.sz_pos; rw [T.szL_cons] at hn; omega
  | succ n ih =>
    intro ts
    induction ts with
    | nil => intro b off B _ _ _ h; exact h
    | cons t ts iht =>
      intro b off B hn hk hc h
      rw [T.szL_cons, T.sz_eq] at hn
      obtain ⟨s, Bt, Br, rfl, h0, h1, h2, hown, hr⟩ := OwnL_cons.1 h
      have hl : (t :: ts).length * 3 = 3 + ts.length * 3 := by simp; omega
      rw [hl] at hc
      refine OwnL_cons.2 ⟨s, Bt, Br, rfl, ?_, ?_, ?_, ?_, iht b (off + 3) Br (by omega) (fun k hk' => hk k (List.mem_append_right _ hk')) (fun j h1 h2 => hc j (by omega) (by omega)) hr⟩
      · rw [hc off (by omega) (by omega)]; exact h0
      · rw [hc (off + 1) (by omega) (by omega)]; exact h1
      · rw [hc (off + 2) (by omega) (by omega)]; exact h2
      · rcases Own_iff.1 hown with h3 | ⟨hne, b', B', rfl, rfl, hfr, h3⟩
        · exact Own_iff.2 (Or.inl h3)
        · have hb' : w'.heap[b']? = w.heap[b']? := hk b' (by simp)
          exact Own_iff.2 (Or.inr ⟨hne, b', B', rfl, rfl, fun j => by rw [World.frozen?_of_block (w := w) (a := ⟨b', j, none⟩) hb']; exact hfr j,
            ih t.args b' 0 B' (by omega) (fun k hk' => hk k (by simp [hk'])) (fun j _ _ => World.cell?_of_block (w := w) (a := ⟨b', j, none⟩) hb') h3⟩)

theorem Own_mono {w w' : World} {t : T} {s : Value} {B : List Nat} (hk : ∀ k, k ∈ B → w'.heap[k]? = w.heap[k]?) (h : t.Own w s B) : t.Own w' s B := by
  rcases Own_iff.1 h with h3 | ⟨hne, b', B', rfl, rfl, hfr, h3⟩
  · exact Own_iff.2 (Or.inl h3)
  · have hb' : w'.heap[b']? = w.heap[b']? := hk b' (by simp)
    exact Own_iff.2 (Or.inr ⟨hne, b', B', rfl, rfl, fun j => by rw [World.frozen?_of_block (w := w) (a := ⟨b', j, none⟩) hb']; exact hfr j,
      OwnL_mono _ t.args b' 0 B' (Nat.le_refl _) (fun k hk' => hk k (by simp [hk'])) (fun j _ _ => World.cell?_of_block (w := w) (a := ⟨b', j, none⟩) hb') h3⟩)

theorem OwnL_snoc {w : World} {ts : List T} {t : T} {s : Value} {Bt : List Nat} : ∀ {b off : Nat} {B : List Nat}, OwnL w ts b off B → w.cell? ⟨b, off + ts.length * 3, none⟩ = some (.int .i64 t.v) → w.cell? ⟨b, off + ts.length * 3 + 1, none⟩ = some (.int .i64 t.f) →
    w.cell? ⟨b, off + ts.length * 3 + 2, none⟩ = some s → t.Own w s Bt → OwnL w (ts ++ [t]) b off (B ++ Bt) := by
  induction ts with
  | nil =>
    intro b off B h h0 h1 h2 ho
    rw [OwnL_nil.1 h]
    exact OwnL_cons.2 ⟨s, Bt, [], by simp, by simpa using h0, by simpa using h1, by simpa using h2, ho, rfl⟩
  | cons u us ih =>
    intro b off B h h0 h1 h2 ho
    obtain ⟨s', Bu, Br, rfl, g0, g1, g2, gown, gr⟩ := OwnL_cons.1 h
    have e : off + (u :: us).length * 3 = off + 3 + us.length * 3 := by simp; omega
    rw [e] at h0 h1 h2
    exact OwnL_cons.2 ⟨s', Bu, Br ++ Bt, by simp, g0, g1, g2, gown, ih gr h0 h1 h2 ho⟩

/-- What is owned lies there. -/
theorem OwnL_in {w : World} : ∀ (n : Nat) (ts : List T) (b off : Nat) (B : List Nat), T.sz.szL ts ≤ n → OwnL w ts b off B → InL w ts (some ⟨b, off, none⟩) := by
  intro n
  induction n with
  | zero =>
    intro ts b off B hn h
    cases ts with
    | nil => exact InP_nil
    | cons t ts => have := t.sz_pos; rw [T.szL_cons] at hn; omega
  | succ n ih =>
    intro ts
    induction ts with
    | nil => intro b off B _ _; exact InP_nil
    | cons t ts iht =>
      intro b off B hn h
      rw [T.szL_cons, T.sz_eq] at hn
      obtain ⟨s, Bt, Br, rfl, h0, h1, h2, hown, hr⟩ := OwnL_cons.1 h
      refine InP_cons.2 ⟨b, off, s, rfl, trivial, h0, h1, h2, ?_, iht b (off + 3) Br (by omega) hr⟩
      rcases Own_iff.1 hown with ⟨h3, rfl, _⟩ | ⟨hne, b', B', rfl, rfl, hfr, h3⟩
      · exact In_iff.2 ⟨none, 0, by rw [h3]; rfl, by rw [h3]; exact InP_nil⟩
      · exact In_iff.2 ⟨_, _, rfl, ih t.args b' 0 B' (by omega) h3⟩

theorem Own_in {w : World} {t : T} {s : Value} {B : List Nat} (h : t.Own w s B) : ∃ a cap, s = .slice a t.args.length cap ∧ InL w t.args a := by
  rcases Own_iff.1 h with ⟨h3, rfl, _⟩ | ⟨hne, b', B', rfl, rfl, hfr, h3⟩
  · exact ⟨none, 0, by rw [h3]; rfl, by rw [h3]; exact InP_nil⟩
  · exact ⟨_, _, rfl, OwnL_in _ t.args b' 0 B' (Nat.le_refl _) h3⟩

/-- The row that make lays. -/
def row3 (n : Nat) : Array Value := madeCells #[.int .i64 0, .int .i64 0, .slice none 0 0] (n * 3)
theorem size_row3 (n : Nat) : (row3 n).size = n * 3 := size_madeCells _ _

theorem Try.underlying25 : Try.prog.underlying 25 = some (.slice 27) := by kernel_rfl
theorem Try.info27 : (Try.prog.info? 27).map (fun i => (i.zero, i.size, i.bytes)) = some (some (.agg #[.int .i64 0, .int .i64 0, .slice none 0 0]), 3, 40) := by kernel_rfl

theorem run_make3 (n : Nat) (hn : n ≤ 1000000) (w : World) : (Instr.makeSlice 25 (.int .i64 (n : Int)) (.int .i64 (n : Int))).run Try.prog w = .ok (.slice (some ⟨w.heap.size, 0, none⟩) n n) (w.alloc (.cells (row3 n) 27)) := by
  obtain ⟨i, hi, hzz⟩ := Option.map_eq_some_iff.1 Try.info27
  simp only [Prod.mk.injEq] at hzz
  obtain ⟨hz, hs, hb⟩ := hzz
  have hr := run_make (P := Try.prog) w 25 27 i _ Try.underlying25 hi hz .i64 .i64 n n (by omega) (Int.le_refl _) (by rw [hb]; omega) (by omega)
  simp only [Int.toNat_natCast, hs] at hr
  exact hr

theorem set3_cell {w : World} {b off j : Nat} {u0 u1 u2 : Value} (h : j < off ∨ off + 2 < j) : (set3 w b off u0 u1 u2).cell? ⟨b, j, none⟩ = w.cell? ⟨b, j, none⟩ := by
  have e0 : (⟨b, off, none⟩ : Addr) ≠ ⟨b, j, none⟩ := by rintro e; injection e with _ e2; omega
  have e1 : (⟨b, off + 1, none⟩ : Addr) ≠ ⟨b, j, none⟩ := by rintro e; injection e with _ e2; omega
  have e2 : (⟨b, off + 2, none⟩ : Addr) ≠ ⟨b, j, none⟩ := by rintro e; injection e with _ e2; omega
  rw [World.cell?_setCell_other _ _ _ _ e2, World.cell?_setCell_other _ _ _ _ e1, World.cell?_setCell_other _ _ _ _ e0]
theorem set3_frozen {w : World} {b off j b' : Nat} {u0 u1 u2 : Value} : (set3 w b off u0 u1 u2).frozen? ⟨b', j, none⟩ = w.frozen? ⟨b', j, none⟩ := by
  rw [World.frozen?_setCell, World.frozen?_setCell, World.frozen?_setCell]
/-- The three cells hold what was stored. -/
theorem set3_same {w : World} {b off : Nat} {u0 u1 u2 : Value} (h : ∀ j, off ≤ j → j < off + 3 → ∃ v, w.cell? ⟨b, j, none⟩ = some v) :
    (set3 w b off u0 u1 u2).cell? ⟨b, off, none⟩ = some u0 ∧ (set3 w b off u0 u1 u2).cell? ⟨b, off + 1, none⟩ = some u1 ∧ (set3 w b off u0 u1 u2).cell? ⟨b, off + 2, none⟩ = some u2 := by
  obtain ⟨v0, c0⟩ := h off (by omega) (by omega)
  obtain ⟨v1, c1⟩ := h (off + 1) (by omega) (by omega)
  obtain ⟨v2, c2⟩ := h (off + 2) (by omega) (by omega)
  have e0 : (w.setCell ⟨b, off, none⟩ u0).cell? ⟨b, off, none⟩ = some u0 := World.cell?_setCell_same _ _ _ c0
  have e1 : (w.setCell ⟨b, off, none⟩ u0).cell? ⟨b, off + 1, none⟩ = some v1 := by rw [World.cell?_setCell_other _ _ _ _ (by simp)]; exact c1
  have e2 : (w.setCell ⟨b, off, none⟩ u0).cell? ⟨b, off + 2, none⟩ = some v2 := by rw [World.cell?_setCell_other _ _ _ _ (by simp)]; exact c2
  have g1 : ((w.setCell ⟨b, off, none⟩ u0).setCell ⟨b, off + 1, none⟩ u1).cell? ⟨b, off + 1, none⟩ = some u1 := World.cell?_setCell_same _ _ _ e1
  have g0 : ((w.setCell ⟨b, off, none⟩ u0).setCell ⟨b, off + 1, none⟩ u1).cell? ⟨b, off, none⟩ = some u0 := by rw [World.cell?_setCell_other _ _ _ _ (by simp)]; exact e0
  have g2 : ((w.setCell ⟨b, off, none⟩ u0).setCell ⟨b, off + 1, none⟩ u1).cell? ⟨b, off + 2, none⟩ = some v2 := by rw [World.cell?_setCell_other _ _ _ _ (by simp)]; exact e2
  refine ⟨?_, ?_, World.cell?_setCell_same _ _ _ g2⟩
  · rw [World.cell?_setCell_other _ _ _ _ (by simp)]; exact g0
  · rw [World.cell?_setCell_other _ _ _ _ (by simp)]; exact g1

/-- Behind k rounds of the copy's loop. -/
structure Copying (w wr : World) (t : T) (k : Nat) (B : List Nat) : Prop where
  own : OwnL wr (t.args.take k) (w.heap.size + 1 + 1 + 1) 0 B
  nd : B.Nodup
  rng : ∀ x, x ∈ B → w.heap.size + 3 < x ∧ x < wr.heap.size
  cells : ∀ j, j < t.args.length * 3 → ∃ v, wr.cell? ⟨w.heap.size + 1 + 1 + 1, j, none⟩ = some v
  fr : ∀ j, wr.frozen? ⟨w.heap.size + 1 + 1 + 1, j, none⟩ = false
  made : Three wr (w.heap.size + 1 + 1) (.int .i64 t.v) (.int .i64 t.f) (.slice (some ⟨w.heap.size + 1 + 1 + 1, 0, none⟩) t.args.length t.args.length)
  res : Three wr (w.heap.size + 1) (.int .i64 0) (.int .i64 0) (.slice none 0 0)
  below : Below w.heap.size w wr
  size : w.heap.size + 3 < wr.heap.size

theorem Copying.start (w : World) (t : T) (o : Obj) (e1 e2 e3 : TypeId) :
    Copying w ((((w.alloc o).alloc (.cells #[.int .i64 0, .int .i64 0, .slice none 0 0] e1)).alloc (.cells #[.int .i64 t.v, .int .i64 t.f, .slice (some ⟨w.heap.size + 1 + 1 + 1, 0, none⟩) t.args.length t.args.length] e2)).alloc (.cells (row3 t.args.length) e3)) t 0 [] := by
  refine ⟨rfl, List.nodup_nil, by simp, fun j hj => ?_, fun j => ?_, ?_, ?_, ?_, by simp⟩
  · rw [cell_new j (by simp)]
    exact ⟨(row3 t.args.length)[j]'(by rw [size_row3]; exact hj), Array.getElem?_eq_getElem _⟩
  · exact frozen_new j (by simp)
  · exact (Three.new _ (by simp)).alloc _
  · exact ((Three.new _ (by simp)).alloc _).alloc _
  · exact (((below1 _ _).alloc (by simp) _).alloc (by simp; omega) _).alloc (by simp; omega) _

theorem Copying.step {w wr w2 : World} {t c : T} {k : Nat} {B Bc : List Nat} {s : Value} {o : Obj} (h : Copying w wr t k B) (hc : t.args[k]? = some c) (hb : Below (wr.alloc o).heap.size (wr.alloc o) w2) (ho : c.Own w2 s Bc) (hnd : Bc.Nodup)
    (hr : ∀ x, x ∈ Bc → (wr.alloc o).heap.size ≤ x ∧ x < w2.heap.size) : Copying w (set3 w2 (w.heap.size + 1 + 1 + 1) (k * 3) (.int .i64 c.v) (.int .i64 c.f) s) t (k + 1) (B ++ Bc) := by
  have hk : k < t.args.length := by
    rcases Nat.lt_or_ge k t.args.length with h | h
    · exact h
    · rw [List.getElem?_eq_none h] at hc; cases hc
  have hz := h.size
  have hsz := hb.size
  have hlen : (t.args.take k).length = k := List.length_take_of_le (by omega)
  have hb' : Below wr.heap.size wr w2 := (below1 _ _).trans (hb.mono (by simp))
  have hcells : ∀ j, j < t.args.length * 3 → ∃ v, w2.cell? ⟨w.heap.size + 1 + 1 + 1, j, none⟩ = some v := fun j hj => by
    rw [hb'.cell (p := ⟨w.heap.size + 1 + 1 + 1, j, none⟩) (by omega)]; exact h.cells j hj
  have hsame := set3_same (w := w2) (b := w.heap.size + 1 + 1 + 1) (off := k * 3) (u0 := .int .i64 c.v) (u1 := .int .i64 c.f) (u2 := s) (fun j _ hj2 => hcells j (by omega))
  simp at hsz hr
  refine ⟨?_, ?_, ?_, ?_, ?_, ?_, ?_, ?_, ?_⟩
  · rw [List.take_add_one, hc]
    refine OwnL_snoc ?_ ?_ ?_ ?_ (s := s) ?_
    · refine OwnL_mono _ _ _ _ _ (Nat.le_refl _) (fun x hx => ?_) (fun j _ hj => ?_) h.own
      · have := h.rng x hx
        rw [set3_block (by omega)]
        exact hb'.block x (by omega)
      · rw [hlen] at hj
        rw [set3_cell (by omega)]
        exact hb'.cell (p := ⟨w.heap.size + 1 + 1 + 1, j, none⟩) (by omega)
    · rw [hlen, Nat.zero_add]; exact hsame.1
    · rw [hlen, Nat.zero_add]; exact hsame.2.1
    · rw [hlen, Nat.zero_add]; exact hsame.2.2
    · refine Own_mono (fun x hx => ?_) ho
      have := hr x hx
      exact set3_block (by omega)
  · rw [List.nodup_append]
    refine ⟨h.nd, hnd, fun x hx y hy e => ?_⟩
    have := h.rng x hx
    have := hr y hy
    omega
  · intro x hx
    rw [set3_size]
    rcases List.mem_append.1 hx with hx | hx
    · have := h.rng x hx; omega
    · have := hr x hx; omega
  · intro j hj
    by_cases h3 : j < k * 3 ∨ k * 3 + 2 < j
    · rw [set3_cell h3]; exact hcells j hj
    · have : j = k * 3 ∨ j = k * 3 + 1 ∨ j = k * 3 + 2 := by omega
      rcases this with rfl | rfl | rfl
      · exact ⟨_, hsame.1⟩
      · exact ⟨_, hsame.2.1⟩
      · exact ⟨_, hsame.2.2⟩
  · intro j
    rw [set3_frozen, hb'.frozen (p := ⟨w.heap.size + 1 + 1 + 1, j, none⟩) (by omega)]
    exact h.fr j
  · exact (h.made.below hb').same (set3_block (by omega))
  · exact (h.res.below hb').same (set3_block (by omega))
  · exact below_set3 (h.below.trans (hb'.mono (by omega))) (by omega) _ _ _
  · rw [set3_size]; omega

theorem below_undrew {w w2 : World} (h : Below w.drew.heap.size w.drew w2) : Below w.heap.size w w2 := ⟨h.os, h.tape, h.output, h.size, h.block⟩
theorem InP_heap {p : Nat → Prop} {w w' : World} {ts : List T} {a : Option Addr} (hw : w'.heap = w.heap) (h : InP p w ts a) : InP p w' ts a :=
  InP_same (fun _ _ _ => by rw [hw]) h

/-- What the store behind a child's copy wants to know. -/
theorem copy_behind {w wr : World} {t c : T} {k : Nat} {B : List Nat} (h : Copying w wr t k B) (hc : t.args[k]? = some c) :
    ∀ (o : Obj) (w2 : World), Below (wr.alloc o).heap.size (wr.alloc o) w2 → (w2.cell? ⟨w.heap.size + 1 + 1, 2, none⟩ = some (.slice (some ⟨w.heap.size + 1 + 1 + 1, 0, none⟩) t.args.length t.args.length)) ∧
      (∃ v0 v1 v2, w2.cell? ⟨w.heap.size + 1 + 1 + 1, k * 3, none⟩ = some v0 ∧ w2.cell? ⟨w.heap.size + 1 + 1 + 1, k * 3 + 1, none⟩ = some v1 ∧ w2.cell? ⟨w.heap.size + 1 + 1 + 1, k * 3 + 2, none⟩ = some v2) ∧
      (∀ j, w2.frozen? ⟨w.heap.size + 1 + 1 + 1, j, none⟩ = false) := by
  intro o w2 hb
  have hz := h.size
  have hb' : ∀ x, x < wr.heap.size → w2.heap[x]? = wr.heap[x]? := fun x hx => by
    rw [hb.block x (by simp; omega), Below.heap_alloc _ _ _ hx]
  have hk : k < t.args.length := by
    rcases Nat.lt_or_ge k t.args.length with h | h
    · exact h
    · rw [List.getElem?_eq_none h] at hc; cases hc
  have hx := hb' (w.heap.size + 1 + 1 + 1) (by omega)
  obtain ⟨v0, e0⟩ := h.cells (k * 3) (by omega)
  obtain ⟨v1, e1⟩ := h.cells (k * 3 + 1) (by omega)
  obtain ⟨v2, e2⟩ := h.cells (k * 3 + 2) (by omega)
  refine ⟨(h.made.same (hb' _ (by omega))).c2, ⟨v0, v1, v2, ?_, ?_, ?_⟩, fun j => ?_⟩
  · rw [World.cell?_of_block (w := wr) (a := ⟨w.heap.size + 1 + 1 + 1, k * 3, none⟩) hx]; exact e0
  · rw [World.cell?_of_block (w := wr) (a := ⟨w.heap.size + 1 + 1 + 1, k * 3 + 1, none⟩) hx]; exact e1
  · rw [World.cell?_of_block (w := wr) (a := ⟨w.heap.size + 1 + 1 + 1, k * 3 + 2, none⟩) hx]; exact e2
  · rw [World.frozen?_of_block (w := wr) (a := ⟨w.heap.size + 1 + 1 + 1, j, none⟩) hx]; exact h.fr j

theorem copy_done {w wr : World} {t : T} {B : List Nat} (hne : t.args ≠ []) (h : Copying w wr t t.args.length B) {u0 u1 u2 : Value} :
    ∃ s B', Ending.returned (.agg #[.int .i64 t.v, .int .i64 t.f, .slice (some ⟨w.heap.size + 1 + 1 + 1, 0, none⟩) t.args.length t.args.length]) = .returned (.agg #[.int .i64 t.v, .int .i64 t.f, s]) ∧ t.Own (set3 wr (w.heap.size + 1) 0 u0 u1 u2) s B' ∧ B'.Nodup ∧
      (∀ k, k ∈ B' → w.heap.size ≤ k ∧ k < (set3 wr (w.heap.size + 1) 0 u0 u1 u2).heap.size) ∧ Below w.heap.size w (set3 wr (w.heap.size + 1) 0 u0 u1 u2) := by
  have hz := h.size
  have hown := h.own
  rw [List.take_length] at hown
  refine ⟨_, (w.heap.size + 1 + 1 + 1) :: B, rfl, ?_, ?_, ?_, below_set3 h.below (by omega) _ _ _⟩
  · refine Own_mono (w := wr) (fun k hk => ?_) (Own_iff.2 (Or.inr ⟨hne, _, B, rfl, rfl, h.fr, hown⟩))
    rcases List.mem_cons.1 hk with rfl | hk
    · exact set3_block (by omega)
    · have := h.rng k hk; exact set3_block (by omega)
  · rw [List.nodup_cons]
    exact ⟨fun hm => by have := h.rng _ hm; omega, h.nd⟩
  · intro k hk
    rw [set3_size]
    rcases List.mem_cons.1 hk with rfl | hk
    · omega
    · have := h.rng k hk; omega

set_option maxRecDepth 100000 in
set_option maxHeartbeats 400000 in
theorem copyOf_any (N : Nat) : ∀ (t : T) (a : Option Addr) (cap : Nat) (w : World), t.sz < N → t.sz ≤ 1000 → InL w t.args a →
    Calls Try.prog 65 #[.agg #[.int .i64 t.v, .int .i64 t.f, .slice a t.args.length cap]] w fun e w' =>
      ∃ s B, e = .returned (.agg #[.int .i64 t.v, .int .i64 t.f, s]) ∧ t.Own w' s B ∧ B.Nodup ∧ (∀ k, k ∈ B → w.heap.size ≤ k ∧ k < w'.heap.size) ∧ Below w.heap.size w w' := by
  induction N with
  | zero => intro t a cap w hN; omega
  | succ N ih =>
    intro t a cap w hN h1000 hin
    have Hih := hide ih
    clear ih
    have hlen3 : t.args.length ≤ 1000 := by have := T.length_le t.args; have := T.sz_eq t; omega
    by_cases hlen : t.args.length = 0
    · have hz : ((t.args.length : Int) == 0) = true := by rw [hlen]; rfl
      go_enter Try.func65, Try.ntmps65
      go_wp2_with fail
      exact bodyPost_ret (v := .agg #[.int .i64 t.v, .int .i64 t.f, .slice none 0 0]) (by simp [results, Try.results65, go_sem]) rfl ⟨.slice none 0 0, [], rfl, Own_iff.2 (Or.inl ⟨List.length_eq_zero_iff.1 hlen, rfl, rfl⟩), List.nodup_nil, by simp,
        ((below1 _ _).alloc (by simp) _).alloc (by simp; omega) _⟩
    · have hz : ((t.args.length : Int) == 0) = false := by simpa using hlen
      have hmk := run_make3 t.args.length (by omega)
      go_enter Try.func65, Try.ntmps65
      go_wp2_with fail
      go_loopw [24] (fun i wr => ∃ (k : Nat) (B : List Nat), k ≤ t.args.length ∧ i = .int .i64 k ∧ Copying w wr t k B) (fun i _ => t.args.length - (intOf i).toNat)
      case atStart => exact ⟨0, [], Nat.zero_le _, rfl, Copying.start w t _ _ _ _⟩
      case round =>
        obtain ⟨k, B, hk, rfl, hcop⟩ := hrel
        have Hcop := hide hcop
        have hb := hcop.below
        have hzr := hcop.size
        obtain ⟨c0, c1, c2, f0, f1, f2⟩ := hcop.made
        obtain ⟨d0, d1, d2, g0, g1, g2⟩ := hcop.res
        clear hcop hmk
        by_cases hlt : k < t.args.length
        · obtain ⟨b, off, rfl⟩ := InP_some hin (by omega)
          obtain ⟨c, hc⟩ : ∃ c, t.args[k]? = some c := ⟨t.args[k], List.getElem?_eq_getElem hlt⟩
          have hin' := InP_below hb hin
          obtain ⟨a1, cap1, _, k0, k1, k2, hin1⟩ := InP_at hin' hc
          have hcsz : c.sz < N ∧ c.sz ≤ 1000 := by
            have := T.szL_mem (List.mem_of_getElem? hc)
            have := T.sz_eq t
            omega
          have Hc := hide hc
          have Hcell := hide Hcop.out.cells
          have hfr := Hcop.out.fr
          clear hc hin' hin
          have Hcall := hide (copy_behind Hcop.out Hc.out)
          have hz1 : w.heap.size + 1 + 1 < wr.heap.size := by omega
          go_wp2_with fail
          go_region_with (go_at_call 65; refine (Hih.out c a1 cap1 _ hcsz.1 hcsz.2 (by exact InP_heap (w := wr.alloc _) rfl (InP_alloc _ hin1))).mono ?_; rintro e w2 ⟨s, Bc, rfl, hown, hnd, hrg, hb1⟩; have hb2 := below_undrew hb1; clear hb1; obtain ⟨a2, cap2, rfl, hin2⟩ := Own_in hown; obtain ⟨q2, ⟨v0, v1, v2, e0, e1, e2⟩, qf⟩ := Hcall.out _ w2 hb2; have q0 := qf (k * 3); have q1 := qf (k * 3 + 1); have q3 := qf (k * 3 + 2); clear qf hin2)
          all_goals
            go_wp2_with fail
            go_roundw
            case rel => exact ⟨k + 1, B ++ Bc, by omega, by go_num, Hcop.out.step Hc.out hb2 hown hnd hrg⟩
            case measure => simp [intOf]; omega
        · have hk2 : k = t.args.length := by omega
          subst hk2
          have hne : t.args ≠ [] := fun h => hlen (by rw [h]; rfl)
          have Hres := hide (Hcop.out.res.set (.int .i64 t.v) (.int .i64 t.f) (.slice (some ⟨w.heap.size + 1 + 1 + 1, 0, none⟩) t.args.length t.args.length))
          go_wp2_with fail
          exact bodyPost_ret (v := .agg #[.int .i64 t.v, .int .i64 t.f, .slice (some ⟨w.heap.size + 1 + 1 + 1, 0, none⟩) t.args.length t.args.length]) (by simp [results, Try.results65, go_sem, d0, d1, d2]) rfl (copy_done hne Hcop.out)

end Go.Proofs.Ytbkedppkdhfpoaa
