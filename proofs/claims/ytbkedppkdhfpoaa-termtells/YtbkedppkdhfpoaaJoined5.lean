/- The document's Rising. The document's own check of terms: the same errors, in the same order. The document's own check of a signature and some terms. The walk of the statement on Signature, Check, Size and Vars. The arguments of the statements, read: signatures, terms, places. -/
import Derived.ChangeOld
import Derived.Deep.CutBlock
import Derived.Deep.DeepCutAuto
import Derived.Deep.RegionLaw
import Derived.Deep.Slices
import Derived.Deep.Strs
import Derived.OpenShut
import Derived.ProofKit
import Derived.Test.YtbkedppkdhfpoaaJoined4
namespace Go.Proofs.Ytbkedppkdhfpoaa
open Go.RowKit

theorem OwnI.same {base : Nat} {w w' : World} {v : Value} {zs : List Int} (h : OwnI base w v zs) (hs : ∀ g, v.ownBlock = some g → w'.heap[g]? = w.heap[g]?) : OwnI base w' v zs := own_same h hs
theorem OwnI.below {base : Nat} {w w' : World} {v : Value} {zs : List Int} (h : OwnI base w v zs) (hb : Below w.heap.size w w') : OwnI base w' v zs := own_same h (fun g hg => hb.block g (own_lt h g hg).2)
theorem OwnI.grown {base : Nat} {w w' : World} {v : Value} {r : Option Nat} {zs : List Int} (h : OwnI base w v zs) (hg : w.grownBy w' r) (hne : v.ownBlock = none ∨ v.ownBlock ≠ r) : OwnI base w' v zs := own_same h (fun g hg' => hg.block g (own_lt h g hg').2 (fun e => by
  rcases hne with h1 | h1
  · rw [h1] at hg'; cases hg'
  · exact h1 (hg'.trans e)))
theorem OwnI.new {base : Nat} {w : World} {n : Nat} (hn : n = w.heap.size) (hb : base ≤ w.heap.size) : OwnI base (w.alloc (.cells #[] 3)) (.slice (some ⟨n, 0, none⟩) 0 0) [] := by
  subst hn
  exact World.ownsRow_lit (base := base) (e := 3) (size := 1) w #[] 0 hb (by decide) (by simp)

theorem OwnI.newAt {base : Nat} {w : World} {n : Nat} (h : w.heap[n]? = some (.cells #[] 3)) (hb : base ≤ n) : OwnI base w (.slice (some ⟨n, 0, none⟩) 0 0) [] :=
  ⟨by simp, Or.inr ⟨n, 0, #[], rfl, hb, h, by simp, by decide, by simp, by simp⟩⟩
theorem new_s1 (w : World) (o : Obj) : (w.alloc o).drew.heap[w.heap.size]? = some o := heap_alloc_new w o
theorem new_s2 (w : World) (o o2 : Obj) : ((w.alloc o).alloc o2).drew.heap[w.heap.size]? = some o := (Below.heap_alloc (w.alloc o) o2 w.heap.size (by simp)).trans (heap_alloc_new w o)
theorem new_s3 (w : World) (o o2 : Obj) : ((w.alloc o2).alloc o).drew.heap[w.heap.size + 1]? = some o := by
  have h := heap_alloc_new (w.alloc o2) o
  rw [World.size_alloc] at h
  exact h
theorem cell_s2 (w : World) (v : Value) (e : TypeId) (o2 : Obj) : ((w.alloc (.cells #[v] e)).alloc o2).drew.cell? ⟨w.heap.size, 0, none⟩ = some v := by
  show ((w.alloc (.cells #[v] e)).alloc o2).cell? ⟨w.heap.size, 0, none⟩ = some v
  rw [cell_alloc_lt (by simp)]; exact cell_new 0 rfl
theorem cell_s3 (w : World) (v : Value) (e : TypeId) (o2 : Obj) : ((w.alloc o2).alloc (.cells #[v] e)).drew.cell? ⟨w.heap.size + 1, 0, none⟩ = some v := by
  show ((w.alloc o2).alloc (.cells #[v] e)).cell? ⟨w.heap.size + 1, 0, none⟩ = some v
  exact cell_new 0 (by simp)
theorem low_any {base : Nat} {w : World} {v : Value} {out : List Int} (hown : OwnI base w v out) (s : Nat) (hs : s ≤ out.length) :
    ∃ xa n c, (∀ w', (Instr.slice 22 v (some (.int .i64 (s : Int))) none none).run Try.prog w' = .ok (.slice xa n c) w') ∧ (∀ w' : World, (∀ g, v.ownBlock = some g → w'.heap[g]? = w.heap[g]?) → SrcI w' (.slice xa n c) (out.drop s)) := by
  have ht : Try.prog.underlying 22 = some (.slice (Try.prog.elem 22)) := by kernel_rfl
  have hsz : ∀ w : World, (sizeOf (Try.prog.elem 22)).run Try.prog w = .ok 1 w := fun w => by kernel_rfl
  have hints := own_ints hown
  rcases hown.2 with ⟨rfl, h0⟩ | ⟨g, cap, cur, rfl, hb, hg, hc, hm, hsz', htk⟩
  · obtain rfl : out = [] := List.length_eq_zero_iff.1 h0
    obtain rfl : s = 0 := by simpa using hs
    refine ⟨none, 0, 0, fun w' => ?_, fun w' _ => Or.inl ⟨rfl, rfl⟩⟩
    rw [run_slice_l (P := Try.prog) w' 22 none 0 0 ht .i64 ((0 : Nat) : Int) (by omega) (by omega), hsz]
    simp [sliced]
  · refine ⟨some ⟨g, if cap = s then 0 else s, none⟩, (out.drop s).length, cap - s, fun w' => ?_, fun w' hw' => Or.inr ⟨g, _, _, rfl, fun j hj => ?_⟩⟩
    · rw [run_slice_l (P := Try.prog) w' 22 (some ⟨g, 0, none⟩) out.length cap ht .i64 (s : Int) (by omega) (by omega), hsz]
      by_cases h1 : cap = s
      · simp [sliced, h1]
      · simp [sliced, h1, Addr.add]; omega
    · rw [List.length_drop] at hj
      have h1 : ¬ cap = s := by omega
      obtain ⟨a', cap', he, hI, _⟩ := hints
      simp only [Value.slice.injEq, true_and] at he
      obtain ⟨rfl, rfl⟩ := he
      obtain ⟨b, off, he, hcell⟩ := Ints_some hI (by omega)
      simp only [Option.some.injEq, Addr.mk.injEq, and_true] at he
      obtain ⟨rfl, rfl⟩ := he
      rw [if_neg h1, World.cell?_of_block (w := w) (a := ⟨g, s + j, none⟩) (hw' g rfl)]
      have h2 := hcell (s + j) (by omega)
      rw [Nat.zero_add] at h2
      rw [h2, List.getD_eq_getElem?_getD, List.getD_eq_getElem?_getD, List.getElem?_drop]
theorem high_any {base : Nat} {w : World} {v : Value} {out : List Int} (hown : OwnI base w v out) (s : Nat) (hs : s ≤ out.length) :
    ∃ xa n c, (∀ w', (Instr.slice 22 v none (some (.int .i64 (s : Int))) none).run Try.prog w' = .ok (.slice xa n c) w') ∧ (∀ w' : World, (∀ g, v.ownBlock = some g → w'.heap[g]? = w.heap[g]?) → SrcI w' (.slice xa n c) (out.take s)) := by
  have ht : Try.prog.underlying 22 = some (.slice (Try.prog.elem 22)) := by kernel_rfl
  have hsz : ∀ w : World, (sizeOf (Try.prog.elem 22)).run Try.prog w = .ok 1 w := fun w => by kernel_rfl
  have hints := own_ints hown
  rcases hown.2 with ⟨rfl, h0⟩ | ⟨g, cap, cur, rfl, hb, hg, hc, hm, hsz', htk⟩
  · obtain rfl : out = [] := List.length_eq_zero_iff.1 h0
    obtain rfl : s = 0 := by simpa using hs
    refine ⟨none, 0, 0, fun w' => ?_, fun w' _ => Or.inl ⟨rfl, rfl⟩⟩
    rw [run_slice_h (P := Try.prog) w' 22 none 0 0 ht .i64 ((0 : Nat) : Int) (by omega) (by omega), hsz]
    simp [sliced]
  · refine ⟨some ⟨g, 0, none⟩, (out.take s).length, cap, fun w' => ?_, fun w' hw' => Or.inr ⟨g, 0, _, rfl, fun j hj => ?_⟩⟩
    · rw [run_slice_h (P := Try.prog) w' 22 (some ⟨g, 0, none⟩) out.length cap ht .i64 (s : Int) (by omega) (by omega), hsz]
      have h2 : min s out.length = s := by omega
      simp [sliced, Addr.add, h2]
    · rw [List.length_take] at hj
      obtain ⟨a', cap', he, hI, _⟩ := hints
      simp only [Value.slice.injEq, true_and] at he
      obtain ⟨rfl, rfl⟩ := he
      obtain ⟨b, off, he, hcell⟩ := Ints_some hI (by omega)
      simp only [Option.some.injEq, Addr.mk.injEq, and_true] at he
      obtain ⟨rfl, rfl⟩ := he
      rw [World.cell?_of_block (w := w) (a := ⟨g, 0 + j, none⟩) (hw' g rfl), hcell j (by omega), List.getD_eq_getElem?_getD, List.getD_eq_getElem?_getD, List.getElem?_take_of_lt (by omega)]

theorem src_one {w : World} {n : Nat} {x : Int} (h : w.cell? ⟨n, 0, none⟩ = some (.int .i64 x)) : SrcI w (.slice (some ⟨n, 0, none⟩) 1 1) [x] :=
  Or.inr ⟨n, 0, 1, rfl, fun j hj => by
    obtain rfl : j = 0 := by simpa using hj
    exact h⟩
theorem spot_step {x : Int} {out : List Int} {m : Nat} : (x < out.getD m 0 → spot x out (m + 1) = spot x out m) ∧ (¬ x < out.getD m 0 → spot x out (m + 1) = m + 1) :=
  ⟨fun h => by rw [spot, if_pos h], fun h => by rw [spot, if_neg h]⟩

set_option maxRecDepth 100000 in
set_option maxHeartbeats 2000000 in
theorem rising_any (l : List Int) (a : Option Addr) (cap : Nat) (w : World) (hl : l.length ≤ 1000) (hin : Ints w l a) :
    Calls Try.prog 16 #[.slice a l.length cap] w fun e w' => ∃ v, e = .returned v ∧ OwnI w.heap.size w' v (rising l) ∧ Below w.heap.size w w' := by
  go_enter Try.func16, Try.ntmps16
  go_wp2_with fail
  go_loopw [3, 4] (fun v j wr => ∃ k : Nat, k ≤ l.length ∧ j = .int .i64 k ∧ OwnI w.heap.size wr v (rising (l.take k)) ∧ Below w.heap.size w wr) (fun _ j _ => l.length - (intOf j).toNat)
  case atStart => exact ⟨0, Nat.zero_le _, rfl, ⟨rfl, Or.inl ⟨rfl, rfl⟩⟩, Below.refl _ _⟩
  case round =>
    obtain ⟨k, hk, rfl, hown, hb⟩ := hrel
    by_cases hlt : k < l.length
    · obtain ⟨b, off, rfl, hc⟩ := Ints_some hin (by omega)
      obtain ⟨x, hx⟩ : ∃ x, l[k]? = some x := ⟨l[k], List.getElem?_eq_getElem hlt⟩
      have hcx : wr.cell? ⟨b, off + k, none⟩ = some (.int .i64 x) := by
        have h1 := hc k hlt
        rw [hb.cell (p := ⟨b, off + k, none⟩) (lt_of_cell h1), h1, List.getD_eq_getElem?_getD, hx]; rfl
      obtain ⟨out, hout⟩ : ∃ out, out = rising (l.take k) := ⟨_, rfl⟩
      have holen : out.length = k := by rw [hout, rising_length, List.length_take]; omega
      have Hst : Hid (rising (l.take (k + 1)) = rise1 out x) := by show _ = _; rw [rising_step hx, hout]
      rw [← hout] at hown
      have Hown := hide hown
      have Hb := hide hb
      obtain ⟨va, vc, rfl, hints, hvc⟩ := own_ints hown
      have hzr := hb.size
      have hkI : (k : Int) < l.length := by omega
      have hk0 : (0 : Int) ≤ k := by omega
      have Holen := hide holen
      have hol : out.length ≤ 1000 := by omega
      clear hc hx hout hown hb holen
      go_upto_block 2 with fail
      go_cut [5] (fun at' wi => at' = .int .i64 (spot x out out.length : Nat) ∧ Hid (Below wr.heap.size wr wi))
      case first =>
        go_wp2_with fail
        go_loopw [5] (fun at' wi => ∃ m : Nat, m ≤ out.length ∧ at' = .int .i64 m ∧ Hid (spot x out out.length = spot x out m) ∧ Hid (Below wr.heap.size wr wi)) (fun at' _ => (intOf at').toNat)
        case atStart => exact ⟨out.length, Nat.le_refl _, rfl, rfl, Below.refl _ _⟩
        case round =>
          obtain ⟨m, hm, rfl, HS, HBi⟩ := hrel
          cases m with
          | zero =>
            go_wp2_with fail
            go_quiet (fail)
            go_wp2_with fail
            go_meet
            exact ⟨by rw [HS.out]; rfl, HBi.out.trans ⟨rfl, rfl, rfl, Nat.le_refl _, fun _ _ => rfl⟩⟩
          | succ m =>
            obtain ⟨b2, off2, rfl, hc2⟩ := Ints_some (Ints_below HBi.out hints) (by omega)
            have hy := hc2 m (by omega)
            have hcx2 : wr.cell? ⟨b, off + k, none⟩ = some (.int .i64 x) := by rw [HBi.out.cell (p := ⟨b, off + k, none⟩) (lt_of_cell hcx)]; exact hcx
            have hmI : (m : Int) < out.length := by omega
            have hm0 : (0 : Int) ≤ m := by omega
            have hm1 : m + 1 ≤ 1000 := by omega
            have Hs1 := hide (spot_step (x := x) (out := out) (m := m))
            clear hc2 hints
            generalize out.getD m 0 = y at *
            by_cases hgt : x < y
            · have Hs2 := hide (HS.out.trans (Hs1.out.1 hgt))
              clear Hs1 HS
              go_wp2_with fail
              go_quiet (fail)
              go_wp2_with fail
              go_roundw
              case rel => exact ⟨m, by omega, by go_num, Hs2.out, HBi.out.trans ⟨rfl, rfl, rfl, Nat.le_refl _, fun _ _ => rfl⟩⟩
              case measure => simp [intOf]
            · have Hs2 := hide (HS.out.trans (Hs1.out.2 hgt))
              clear Hs1 HS
              go_wp2_with fail
              go_quiet (fail)
              go_wp2_with fail
              go_meet
              exact ⟨by rw [Hs2.out]; go_num, HBi.out.trans ⟨rfl, rfl, rfl, Nat.le_refl _, fun _ _ => rfl⟩⟩
      case rest =>
        obtain ⟨rfl, HB⟩ := hcut
        have Hownc := hide (Hown.out.below HB.out)
        obtain ⟨s, hs⟩ : ∃ s, s = spot x out out.length := ⟨_, rfl⟩
        have hsle : s ≤ out.length := by rw [hs]; exact spot_le _ _ _
        obtain ⟨U, hU⟩ : ∃ U, U = out.take s := ⟨_, rfl⟩
        obtain ⟨D, hD⟩ : ∃ D, D = out.drop s := ⟨_, rfl⟩
        have Hr1 : Hid (rise1 out x = U ++ [x] ++ D) := by show _ = _; rw [rise1, hU, hD, ← hs]; simp
        have hUl : U.length ≤ 1000 := by rw [hU, List.length_take]; omega
        have hDl : D.length ≤ 1000 := by rw [hD, List.length_drop]; omega
        have hUD : U.length + D.length ≤ 1000 := by rw [hU, hD, List.length_take, List.length_drop]; omega
        rw [← hs]
        obtain ⟨la, ln, lc, hlow, hlsrc⟩ := low_any Hownc.out s hsle
        obtain ⟨ha, hn, hcp, hhigh, hhsrc⟩ := high_any Hownc.out s hsle
        rw [← hD] at hlsrc
        rw [← hU] at hhsrc
        have HLs := hide hlsrc
        have HHs := hide hhsrc
        have hzc := HB.out.size
        have hcxc : wc.cell? ⟨b, off + k, none⟩ = some (.int .i64 x) := by rw [HB.out.cell (p := ⟨b, off + k, none⟩) (lt_of_cell hcx)]; exact hcx
        clear hs hU hD hlsrc hhsrc hcx hints
        go_wp2_with (at_builtin; go_must (refine wpList_append_ints rfl (.tmp 31) (.tmp 34) rfl w.heap.size (.slice (some ⟨wc.heap.size, 0, none⟩) 0 0) [] rfl (OwnI.new rfl (by omega)) (.slice la ln lc) D rfl (HLs.out _ (fun g hg => (below1 wc _).block g (own_lt Hownc.out g hg).2)) (by simp; omega) (by simp; omega) ?_))
        intro v6 w6 hown6 hgr6 hat6
        have hz6 := hgr6.size
        simp at hz6
        have Hown6 := hide hown6
        have Hb6 : Hid (Below wc.heap.size wc w6) := Below.grown (below1 wc _) hgr6 (by simp) (fun k' hk' => by simp [Value.ownBlock] at hk'; omega)
        have HH6 : Hid (∀ w', Below w6.heap.size w6 w' → SrcI w' (.slice ha hn hcp) U) := fun w' hb' => HHs.out w' (fun g hg => by
          have h9 := own_lt Hownc.out g hg
          rw [hb'.block g (by omega), Hb6.out.block g h9.2])
        have hbl := lt_of_cell hcxc
        have hcx6 : w6.cell? ⟨b, off + k, none⟩ = some (.int .i64 x) := by rw [Hb6.out.cell (p := ⟨b, off + k, none⟩) hbl]; exact hcxc
        have hbl6 : b < w6.heap.size := by omega
        have Hbf := hide (Hb.out.trans ((HB.out.mono hzr).trans (Hb6.out.mono (by omega))))
        clear hown6 hgr6 hat6 HLs HHs hcxc hlow Hb6
        go_wp2_with fail
        go_region_law ((first
          | (refine step_append_ints rfl (.tmp 46) (.tmp 47) rfl w6.heap.size v8 (U ++ [x]) rfl Hown8.out v6 D rfl (own_src (Hown6.out.below H8.out)) (by simp; omega) hz8 ?_
             intro v9 w9 hown9 hgr9 hat9
             have Hown9 := hide hown9
             have H9 : Hid (Below w6.heap.size w6 w9) := Below.grown H8.out hgr9 hz8 (fun k' hk' => (own_lt Hown8.out k' hk').1)
             clear hown9 hgr9 hat9)
          | (first | refine step_append_ints rfl (.tmp 40) (.tmp 45) rfl w6.heap.size v7 U rfl ?_ (.slice (some ⟨w7.heap.size, 0, none⟩) 1 1) [x] rfl (src_one ?_) (by simp; omega) ?_ ?_ | refine step_append_ints rfl (.tmp 40) (.tmp 45) rfl w6.heap.size v7 U rfl ?_ (.slice (some ⟨w6.heap.size, 0, none⟩) 1 1) [x] rfl (src_one ?_) (by simp; omega) ?_ ?_ | refine step_append_ints rfl (.tmp 40) (.tmp 45) rfl w6.heap.size v7 U rfl ?_ (.slice (some ⟨w6.heap.size + 1, 0, none⟩) 1 1) [x] rfl (src_one ?_) (by simp; omega) ?_ ?_
             · first | exact Hown7.out | exact OwnI.below Hown7.out (below1 _ _)
             · first | exact cell_new 0 rfl | exact (hgr7.cell_far ⟨w6.heap.size, 0, none⟩ (by simp; omega) (by simp [Value.ownBlock])).trans (cell_s2 _ _ _ _) | exact (hgr7.cell_far ⟨w6.heap.size + 1, 0, none⟩ (by first | (simp; done) | (simp; omega)) (by simp [Value.ownBlock])).trans (cell_s3 _ _ _ _)
             · first | exact hz7 | (simp; omega)
             intro v8 w8 hown8 hgr8 hat8
             have Hown8 := hide hown8
             have H8 : Hid (Below w6.heap.size w6 w8) := by
               refine Below.grown ?_ hgr8 (by first | exact hz7 | (simp; omega)) (fun k' hk' => (own_lt Hown7.out k' hk').1)
               repeat' (first | with_reducible exact Hid.out ‹Hid (Below _ _ _)› | with_reducible exact Below.refl _ _ | (with_reducible refine Below.drew ?_) | (refine Below.alloc ?_ ?_ _; rotate_left; focus (first | omega | (simp; omega) | (simp; done))))
             have hz8 := H8.out.size
             clear hown8 hgr8 hat8)
          | (first | refine step_append_ints rfl (.tmp 36) (.tmp 39) rfl w6.heap.size (.slice (some ⟨w6.heap.size, 0, none⟩) 0 0) [] rfl ?_ (.slice ha hn hcp) U rfl (HH6.out _ ?_) (by simp; omega) ?_ ?_ | refine step_append_ints rfl (.tmp 36) (.tmp 39) rfl w6.heap.size (.slice (some ⟨w6.heap.size + 1, 0, none⟩) 0 0) [] rfl ?_ (.slice ha hn hcp) U rfl (HH6.out _ ?_) (by simp; omega) ?_ ?_
             · exact OwnI.newAt (by first | exact new_s1 _ _ | exact new_s2 _ _ _ | exact new_s3 _ _ _) (by omega)
             · repeat' (first | with_reducible exact Hid.out ‹Hid (Below _ _ _)› | with_reducible exact Below.refl _ _ | (with_reducible refine Below.drew ?_) | (refine Below.alloc ?_ ?_ _; rotate_left; focus (first | omega | (simp; omega) | (simp; done))))
             · first | (simp; done) | (simp; omega)
             intro v7 w7 hown7 hgr7 hat7
             have Hown7 : Hid (OwnI w6.heap.size w7 v7 U) := by simpa [Hid] using hown7
             have H7 : Hid (Below w6.heap.size w6 w7) := by
               refine Below.grown ?_ hgr7 (by first | (simp; done) | (simp; omega)) (fun k' hk' => by simp [Value.ownBlock] at hk'; omega)
               repeat' (first | with_reducible exact Hid.out ‹Hid (Below _ _ _)› | with_reducible exact Below.refl _ _ | (with_reducible refine Below.drew ?_) | (refine Below.alloc ?_ ?_ _; rotate_left; focus (first | omega | (simp; omega) | (simp; done))))
             have hz7 := H7.out.size
             have hcx7 : w7.cell? ⟨b, off + k, none⟩ = some (.int .i64 x) := by rw [H7.out.cell (p := ⟨b, off + k, none⟩) hbl6]; exact hcx6
             have hbl7 : b < w7.heap.size := by omega
             clear hown7 hat7)))
        all_goals
          go_wp2_with fail
          go_roundw
          case rel => exact ⟨k + 1, by omega, by go_num, by rw [Hst.out, Hr1.out]; exact own_base Hown9.out (by omega), Hbf.out.trans (H9.out.mono (by omega))⟩
          case measure => simp [intOf]; omega
    · have hk2 : k = l.length := by omega
      subst hk2
      rw [List.take_length] at hown
      go_wp2_with fail
      go_ret
      exact ⟨_, rfl, hown, hb⟩

end Go.Proofs.Ytbkedppkdhfpoaa

namespace Go.Proofs.Ytbkedppkdhfpoaa
open Go.RowKit

/-- The first error of a list of parts. -/
def firstErr (ar : List Int) : List T → Int
  | [] => 0
  | t :: ts => if partErr ar t.v t.f t.args.length = 0 then firstErr ar ts else partErr ar t.v t.f t.args.length
theorem firstErr_append (ar : List Int) (a b : List T) : firstErr ar (a ++ b) = if firstErr ar a = 0 then firstErr ar b else firstErr ar a := by
  induction a with
  | nil => simp [firstErr]
  | cons t ts ih =>
    rw [List.cons_append, firstErr, firstErr]
    by_cases h : partErr ar t.v t.f t.args.length = 0
    · rw [if_pos h, if_pos h, ih]
    · rw [if_neg h, if_neg h, if_neg h]
theorem firstErr_step {ar : List Int} {ts : List T} {k : Nat} {t : T} (ht : ts[k]? = some t) (h : firstErr ar (ts.take k) = 0) :
    (partErr ar t.v t.f t.args.length = 0 → firstErr ar (ts.take (k + 1)) = 0) ∧ (partErr ar t.v t.f t.args.length ≠ 0 → firstErr ar ts = partErr ar t.v t.f t.args.length) := by
  have hlt : k < ts.length := by
    rcases Nat.lt_or_ge k ts.length with h | h
    · exact h
    · rw [List.getElem?_eq_none h] at ht; cases ht
  constructor
  · intro h2
    rw [List.take_add_one, ht, firstErr_append, if_pos h]
    simp [firstErr, h2]
  · intro h2
    have e : ts = ts.take k ++ t :: ts.drop (k + 1) := by
      rw [List.getElem?_eq_getElem hlt] at ht
      simp at ht
      rw [← ht, List.getElem_cons_drop, List.take_append_drop]
    rw [e, firstErr_append, if_pos h, firstErr, if_neg h2]

/-- The look through the parts tells the first error. -/
theorem look_first {ar : List Int} : ∀ (n : Nat), (∀ (t : T) (s : Int), t.sz ≤ n → (lookT (partStep ar) s t).1 = firstErr ar (parts t) ∧ ((lookT (partStep ar) s t).2 = true ↔ firstErr ar (parts t) = 0)) ∧
    (∀ (ts : List T) (s : Int), T.sz.szL ts ≤ n → (ts ≠ [] → (lookT.lookL (partStep ar) s ts).1 = firstErr ar (parts.partsL ts)) ∧ ((lookT.lookL (partStep ar) s ts).2 = true ↔ firstErr ar (parts.partsL ts) = 0)) := by
  intro n
  induction n with
  | zero =>
    refine ⟨fun t s hn => by have := t.sz_pos; omega, fun ts s hn => ?_⟩
    cases ts with
    | nil => exact ⟨fun h => absurd rfl h, by simp [lookL_nil, parts.partsL, firstErr]⟩
    | cons t ts => have := t.sz_pos; rw [T.szL_cons] at hn; omega
  | succ n ih =>
    have h1 : ∀ (t : T) (s : Int), t.sz ≤ n + 1 → (lookT (partStep ar) s t).1 = firstErr ar (parts t) ∧ ((lookT (partStep ar) s t).2 = true ↔ firstErr ar (parts t) = 0) := fun t s hn => by
      rw [T.sz_eq] at hn
      obtain ⟨h2, h3⟩ := ih.2 t.args s (by omega)
      rw [lookT_eq, parts_eq, firstErr_append]
      by_cases h : (lookT.lookL (partStep ar) s t.args).2 = false
      · have h4 : ¬ firstErr ar (parts.partsL t.args) = 0 := fun h5 => by rw [h3.2 h5] at h; cases h
        have hne : t.args ≠ [] := fun h5 => by rw [h5, lookL_nil] at h; cases h
        rw [if_pos h, if_neg h4]
        exact ⟨h2 hne, by simp [h4]⟩
      · have h4 : firstErr ar (parts.partsL t.args) = 0 := h3.1 (by simpa using h)
        rw [if_neg h, if_pos h4]
        by_cases h5 : partErr ar t.v t.f t.args.length = 0
        · simp [partStep, firstErr, h5]
        · simp [partStep, firstErr, h5]
    refine ⟨h1, fun ts => ?_⟩
    induction ts with
    | nil => intro s _; exact ⟨fun h => absurd rfl h, by simp [lookL_nil, parts.partsL, firstErr]⟩
    | cons t ts iht =>
      intro s hn
      rw [T.szL_cons] at hn
      obtain ⟨h2, h3⟩ := h1 t s (by omega)
      obtain ⟨h4, h5⟩ := iht (lookT (partStep ar) s t).1 (by omega)
      rw [lookL_cons, partsL_cons, firstErr_append]
      by_cases h : (lookT (partStep ar) s t).2 = false
      · have h6 : ¬ firstErr ar (parts t) = 0 := fun h7 => by rw [h3.2 h7] at h; cases h
        rw [if_pos h, if_neg h6]
        exact ⟨fun _ => h2, by simp [h6]⟩
      · have h6 : firstErr ar (parts t) = 0 := h3.1 (by simpa using h)
        rw [if_neg h, if_pos h6]
        refine ⟨fun _ => ?_, h5⟩
        by_cases h7 : ts = []
        · subst h7
          rw [lookL_nil]
          show (lookT (partStep ar) s t).1 = 0
          rw [h2, h6]
        · exact h4 h7

theorem termErr_first {ar : List Int} {t : T} : termErr ar t = if 120 < t.sz then 2 else firstErr ar (parts t) := by
  rw [termErr]
  by_cases h : 120 < t.sz
  · rw [if_pos h, if_pos h]
  · rw [if_neg h, if_neg h]
    have := ((look_first (ar := ar) _).2 [t] 0 (Nat.le_refl _)).1 (by simp)
    rw [this]
    show firstErr ar (parts t ++ []) = _
    rw [List.append_nil]

set_option maxRecDepth 100000 in
set_option maxHeartbeats 1000000 in
theorem refCheckTerm_any (ar : List Int) (ga : Option Addr) (gcap : Nat) (t : T) (a : Option Addr) (cap : Nat) (w : World) (hg : Ints w ar ga) (hgl : ar.length ≤ 12) (hin : InL w t.args a) :
    Calls Try.prog 31 #[.agg #[.slice ga ar.length gcap], .agg #[.int .i64 t.v, .int .i64 t.f, .slice a t.args.length cap]] w fun e w' => e = .returned (.int .i64 (termErr ar t)) ∧ Below w.heap.size w w' := by
  have Hin2 := hide (fun o1 o2 => InP_alloc o2 (InP_alloc o1 hin))
  go_enter Try.func31, Try.ntmps31
  go_wp2_with fail
  refine (sizeOf_any (t.sz + 1) t 120 a cap _ (by omega) (by omega) (by omega) (Hin2.out _ _)).mono ?_
  rintro e w1 ⟨rfl, hb1⟩
  have hz1 : w.heap.size + 2 ≤ w1.heap.size := by have := hb1.size; simp at this; omega
  have hbw : Below w.heap.size w w1 := (below2 _ _ _).trans (hb1.mono (by simp; omega))
  by_cases hbig : 120 < t.sz
  · have hm : min (t.sz : Int) (120 + 1) = 121 := by omega
    rw [hm]
    clear hm
    go_wp2_with fail
    go_ret
    exact ⟨ret_int (by rw [termErr_first, if_pos hbig]), hbw⟩
  · have hm : min (t.sz : Int) (120 + 1) = t.sz := by omega
    rw [hm]
    have Hfin : Hid (termErr ar t = firstErr ar (parts t)) := by
      show _ = _
      rw [termErr_first, if_neg hbig]
    have cg : w1.cell? ⟨w.heap.size, 0, none⟩ = some (.slice ga ar.length gcap) := by
      rw [hb1.cell (p := ⟨w.heap.size, 0, none⟩) (by simp; omega), cell_alloc_lt (by simp), cell_new _ rfl]; rfl
    have h3t : Three w1 (w.heap.size + 1) (.int .i64 t.v) (.int .i64 t.f) (.slice a t.args.length cap) := (Three.new _ (by simp)).below hb1
    obtain ⟨c0, c1, c2, _, _, _⟩ := h3t
    clear hm hb1 Hin2
    go_wp2_with fail
    refine (parts_one t a cap _ (by omega) (InP_below hbw hin)).mono ?_
    rintro e w2 ⟨g, cap1, rfl, hg1, hg2, hcells, hb2⟩
    have hz2 := hb2.size
    have hbw2 : Below w.heap.size w w2 := hbw.trans (hb2.mono (by omega))
    have cg2 : w2.cell? ⟨w.heap.size, 0, none⟩ = some (.slice ga ar.length gcap) := by rw [hb2.cell (p := ⟨w.heap.size, 0, none⟩) (show w.heap.size < w1.heap.size by omega)]; exact cg
    have Hcells := hide hcells
    have hplen := ((parts_length _).1 t (Nat.le_refl _))
    have Hplen := hide hplen
    have hg3 := Ints_below hbw2 hg
    clear hcells cg c0 c1 c2 hb2 hplen
    go_wp2_with fail
    go_loopw [6] (fun i wr => ∃ k : Nat, k ≤ t.sz ∧ i = .int .i64 k ∧ Hid (firstErr ar ((parts t).take k) = 0) ∧ Below w2.heap.size w2 wr) (fun i _ => t.sz - (intOf i).toNat)
    case atStart => exact ⟨0, Nat.zero_le _, rfl, rfl, Below.refl _ _⟩
    case round =>
      obtain ⟨k, hk, rfl, HL, hb⟩ := hrel
      have hzr := hb.size
      have hfb : Below w.heap.size w wr := hbw2.trans (hb.mono (by omega))
      by_cases hlt : k < t.sz
      · have hlt2 : k < (parts t).length := by rw [Hplen.out]; exact hlt
        obtain ⟨x, hx⟩ : ∃ x, (parts t)[k]? = some x := ⟨(parts t)[k], List.getElem?_eq_getElem hlt2⟩
        obtain ⟨a1, cap2, k0, k1, k2⟩ := Hcells.out k x hx
        rw [← hb.cell (p := ⟨g, k * 3, none⟩) hg2] at k0
        rw [← hb.cell (p := ⟨g, k * 3 + 1, none⟩) hg2] at k1
        rw [← hb.cell (p := ⟨g, k * 3 + 2, none⟩) hg2] at k2
        have cgr : wr.cell? ⟨w.heap.size, 0, none⟩ = some (.slice ga ar.length gcap) := by rw [hb.cell (p := ⟨w.heap.size, 0, none⟩) (show w.heap.size < w2.heap.size by omega)]; exact cg2
        have hq : w.heap.size < wr.heap.size := by omega
        have Hst := hide (firstErr_step hx HL.out)
        have hgr := Ints_below hb hg3
        have hfa : ∀ o, Below w.heap.size w (wr.alloc o) := fun o => hfb.alloc (by omega) o
        have hra : ∀ o, Below w2.heap.size w2 (wr.alloc o) := fun o => hb.alloc hzr o
        clear hx cg2
        by_cases h1 : x.v = 0
        · by_cases h2 : 0 ≤ x.f ∧ x.f ≤ (ar.length : Int) - 1
          · obtain ⟨m, hm⟩ := Int.eq_ofNat_of_zero_le h2.1
            have hm2 : m < ar.length := by omega
            obtain ⟨b, off, rfl, hc⟩ := Ints_some hgr (by omega)
            have hck : wr.cell? ⟨b, off + m, none⟩ = some (.int .i64 (ar.getD m 0)) := hc m hm2
            have hbk := lt_of_cell hck
            have hpe : partErr ar x.v x.f x.args.length = if (x.args.length : Int) ≠ ar.getD m 0 then 1 else 0 := by
              rw [partErr, if_neg (by simpa using h1), if_neg (by omega), hm, Int.toNat_natCast]
            have h1' : (x.v != 0) = false := by simpa using h1
            have H2 := hide h2
            have Hpe := hide hpe
            rw [hm] at k1
            rw [hm] at H2
            clear hc hpe h2 h1 hgr
            generalize ar.getD m 0 = y at *
            by_cases h4 : (x.args.length : Int) = y
            · have hgo := hide (Hst.out.1 (by rw [Hpe.out, if_neg (by simpa using h4)]))
              have h4' : ((x.args.length : Int) != y) = false := by simpa using h4
              clear h4 Hst Hpe
              go_wp2_with fail
              refine (between_yes _ 0 _ _ H2.out.1 H2.out.2).mono ?_
              rintro e w' ⟨rfl, rfl⟩
              go_wp2_with fail
              go_quiet (fail)
              go_wp2_with fail
              go_roundw
              case rel => exact ⟨k + 1, by omega, by go_num, hgo, (hra _).trans ⟨rfl, rfl, rfl, Nat.le_refl _, fun _ _ => rfl⟩⟩
              case measure => simp [intOf]; omega
            · have hgo := hide (Hst.out.2 (by rw [Hpe.out, if_pos h4]; decide))
              have h4' : ((x.args.length : Int) != y) = true := by simpa using h4
              have Hpe2 : Hid (partErr ar x.v x.f x.args.length = 1) := by rw [Hpe.out, if_pos h4]; rfl
              clear h4 Hst Hpe
              go_wp2_with fail
              refine (between_yes _ 0 _ _ H2.out.1 H2.out.2).mono ?_
              rintro e w' ⟨rfl, rfl⟩
              go_wp2_with fail
              go_quiet (fail)
              go_wp2_with fail
              go_ret
              exact ⟨ret_int (by rw [Hfin.out, hgo.out, Hpe2.out]), (hfa _).trans ⟨rfl, rfl, rfl, Nat.le_refl _, fun _ _ => rfl⟩⟩
          · have Hpe2 : Hid (partErr ar x.v x.f x.args.length = 5) := by
              show _ = _
              rw [partErr, if_neg (by simpa using h1), if_pos (by omega)]
            have hgo := hide (Hst.out.2 (by rw [Hpe2.out]; decide))
            have h1' : (x.v != 0) = false := by simpa using h1
            have H2 := hide h2
            clear h2 h1 Hst
            go_wp2_with fail
            refine (between_no _ 0 _ _ H2.out).mono ?_
            rintro e w' ⟨rfl, rfl⟩
            go_wp2_with fail
            go_ret
            exact ⟨ret_int (by rw [Hfin.out, hgo.out, Hpe2.out]), hfa _⟩
        · have h1' : (x.v != 0) = true := by simpa using h1
          by_cases h2 : 1 ≤ x.v ∧ x.v ≤ 1000
          · have H2 := hide h2
            by_cases h3 : x.args.length = 0
            · by_cases h4 : x.f = 0
              · have Hpe2 : Hid (partErr ar x.v x.f x.args.length = 0) := by
                  show _ = _
                  rw [partErr, if_pos h1, if_neg (by omega), if_neg (by simp [h3, h4])]
                have hgo := hide (Hst.out.1 Hpe2.out)
                have h4' : (x.f != 0) = false := by simpa using h4
                have h3' : ¬ 0 < x.args.length := by omega
                clear h1 h2 h3 h4 Hst
                go_wp2_with fail
                refine (between_yes _ 1 1000 _ H2.out.1 H2.out.2).mono ?_
                rintro e w' ⟨rfl, rfl⟩
                go_wp2_with fail
                go_roundw
                case rel => exact ⟨k + 1, by omega, by go_num, hgo, hra _⟩
                case measure => simp [intOf]; omega
              · have Hpe2 : Hid (partErr ar x.v x.f x.args.length = 1) := by
                  show _ = _
                  rw [partErr, if_pos h1, if_neg (by omega), if_pos (Or.inr h4)]
                have hgo := hide (Hst.out.2 (by rw [Hpe2.out]; decide))
                have h4' : (x.f != 0) = true := by simpa using h4
                have h3' : ¬ 0 < x.args.length := by omega
                clear h1 h2 h3 h4 Hst
                go_wp2_with fail
                refine (between_yes _ 1 1000 _ H2.out.1 H2.out.2).mono ?_
                rintro e w' ⟨rfl, rfl⟩
                go_wp2_with fail
                go_ret
                exact ⟨ret_int (by rw [Hfin.out, hgo.out, Hpe2.out]), hfa _⟩
            · have Hpe2 : Hid (partErr ar x.v x.f x.args.length = 1) := by
                show _ = _
                rw [partErr, if_pos h1, if_neg (by omega), if_pos (Or.inl h3)]
              have hgo := hide (Hst.out.2 (by rw [Hpe2.out]; decide))
              have h3' : 0 < x.args.length := by omega
              clear h1 h2 h3 Hst
              go_wp2_with fail
              refine (between_yes _ 1 1000 _ H2.out.1 H2.out.2).mono ?_
              rintro e w' ⟨rfl, rfl⟩
              go_wp2_with fail
              go_ret
              exact ⟨ret_int (by rw [Hfin.out, hgo.out, Hpe2.out]), hfa _⟩
          · have Hpe2 : Hid (partErr ar x.v x.f x.args.length = 3) := by
              show _ = _
              rw [partErr, if_pos h1, if_pos (by omega)]
            have hgo := hide (Hst.out.2 (by rw [Hpe2.out]; decide))
            have H2 := hide h2
            clear h1 h2 Hst
            go_wp2_with fail
            refine (between_no _ 1 1000 _ H2.out).mono ?_
            rintro e w' ⟨rfl, rfl⟩
            go_wp2_with fail
            go_ret
            exact ⟨ret_int (by rw [Hfin.out, hgo.out, Hpe2.out]), hfa _⟩
      · go_wp2_with fail
        go_ret
        have hk2 : k = t.sz := by omega
        have h5 := HL.out
        rw [hk2, ← Hplen.out, List.take_length] at h5
        exact ⟨ret_int (by rw [Hfin.out, h5]), hfb⟩

end Go.Proofs.Ytbkedppkdhfpoaa

namespace Go.Proofs.Ytbkedppkdhfpoaa
open Go.RowKit

theorem sig_len {ar : List Int} (h : sigErr ar = 0) : ar.length ≤ 12 := by
  rw [sigErr] at h
  by_cases h1 : 12 < ar.length
  · rw [if_pos h1] at h; cases h
  · omega

attribute [local go_sem ↓] Go.wp_at_zero Go.wp_at_succ
set_option maxRecDepth 100000 in
set_option maxHeartbeats 1000000 in
theorem refCheckTerms_any (ar : List Int) (ga : Option Addr) (gcap : Nat) (ts : List T) (a : Option Addr) (cap : Nat) (w : World) (hg : Ints w ar ga) (hin : InL w ts a) (h1000 : ts.length ≤ 1000) :
    Calls Try.prog 14 #[.agg #[.slice ga ar.length gcap], .slice a ts.length cap] w fun e w' => e = .returned (.int .i64 (allErr ar ts)) ∧ Below w.heap.size w w' := by
  go_enter Try.func14, Try.ntmps14
  go_wp2_with fail
  refine (checkSignature_any ar ga gcap _ (Ints_alloc _ hg)).mono ?_
  rintro e w1 ⟨rfl, hb1⟩
  have hz1 : w.heap.size < w1.heap.size := by have := hb1.size; simp at this; omega
  have hbw : Below w.heap.size w w1 := (below1 _ _).trans (hb1.mono (by simp))
  have cg : w1.cell? ⟨w.heap.size, 0, none⟩ = some (.slice ga ar.length gcap) := by
    rw [hb1.cell (p := ⟨w.heap.size, 0, none⟩) (by simp), cell_new _ rfl]; rfl
  clear hb1
  by_cases hs : sigErr ar = 0
  · have hgl := sig_len hs
    have hfin : allErr ar ts = termsErr ar ts := by rw [allErr, if_pos hs]
    have Hfin := hide hfin
    rw [hs]
    clear hfin hs
    go_wp2_with fail
    go_loopw [5, 6] (fun e i wr => ∃ (k : Nat) (ek : Int), k ≤ ts.length ∧ i = .int .i64 k ∧ e = .int .i64 ek ∧ Hid (ek = termsErr ar (ts.take k) ∧ (ek ≠ 0 → termsErr ar ts = ek)) ∧ Below w1.heap.size w1 wr) (fun _ i _ => ts.length - (intOf i).toNat)
    case atStart => exact ⟨0, 0, Nat.zero_le _, rfl, rfl, ⟨rfl, fun h => absurd rfl h⟩, Below.refl _ _⟩
    case round =>
      obtain ⟨k, ek, hk, rfl, rfl, HL, hb⟩ := hrel
      have hzr := hb.size
      by_cases hlt : k < ts.length
      · by_cases hek : ek = 0
        · subst hek
          have hin' := InP_below hb (InP_below hbw hin)
          have hg' := Ints_below hb (Ints_below hbw hg)
          obtain ⟨b, off, rfl⟩ := InP_some hin (by omega)
          obtain ⟨t, ht⟩ : ∃ t, ts[k]? = some t := ⟨ts[k], List.getElem?_eq_getElem hlt⟩
          obtain ⟨a1, cap1, _, c0, c1, c2, hin1⟩ := InP_at hin' ht
          have Hst := hide (termsErr_step (ar := ar) ht HL.out.1.symm)
          have Htk := hide (show termsErr ar (ts.take (k + 1)) = termErr ar t by
            rw [List.take_add_one, ht, termsErr_append, if_pos HL.out.1.symm]
            show (if termErr ar t = 0 then (0 : Int) else termErr ar t) = _
            split
            · rename_i h; exact h.symm
            · rfl)
          have cg' : wr.cell? ⟨w.heap.size, 0, none⟩ = some (.slice ga ar.length gcap) := by rw [hb.cell (p := ⟨w.heap.size, 0, none⟩) hz1]; exact cg
          have hzr' : w.heap.size < wr.heap.size := by omega
          have hkI : (k : Int) < ts.length := by omega
          have hk0 : (0 : Int) ≤ k := by omega
          have hS := hide (fun (w' : World) (hbb : Below wr.heap.size wr w') => (show w'.cell? ⟨w.heap.size, 0, none⟩ = some (.slice ga ar.length gcap) ∧ w'.cell? ⟨b, off + k * 3, none⟩ = some (.int .i64 t.v) ∧ w'.cell? ⟨b, off + k * 3 + 1, none⟩ = some (.int .i64 t.f) ∧ w'.cell? ⟨b, off + k * 3 + 2, none⟩ = some (.slice a1 t.args.length cap1) from
            ⟨by rw [hbb.cell (p := ⟨w.heap.size, 0, none⟩) hzr']; exact cg', by rw [hbb.cell (p := ⟨b, off + k * 3, none⟩) (lt_of_cell c0)]; exact c0, by rw [hbb.cell (p := ⟨b, off + k * 3 + 1, none⟩) (lt_of_cell c0)]; exact c1, by rw [hbb.cell (p := ⟨b, off + k * 3 + 2, none⟩) (lt_of_cell c0)]; exact c2⟩))
          clear ht
          go_wp2_with fail
          go_region_held3 (fun w' => w'.cell? ⟨w.heap.size, 0, none⟩ = some (.slice ga ar.length gcap) ∧ w'.cell? ⟨b, off + k * 3, none⟩ = some (.int .i64 t.v) ∧ w'.cell? ⟨b, off + k * 3 + 1, none⟩ = some (.int .i64 t.f) ∧ w'.cell? ⟨b, off + k * 3 + 2, none⟩ = some (.slice a1 t.args.length cap1)) ((first | go_keep | exact hS.out _ (Hid.out ‹Hid (Below _ _ _)›))) ((
            go_at_call 31
            refine (refCheckTerm_any ar ga gcap t a1 cap1 _ ?_ hgl ?_).mono ?_
            · exact Ints_below (w := wr) ⟨rfl, rfl, rfl, Nat.le_refl _, fun _ _ => rfl⟩ hg'
            · exact InP_heap (w := wr) rfl hin1
            rintro e w3 ⟨rfl, hb3⟩
            have Hbb : Hid (Below wr.heap.size wr w3) := below_undrew hb3))
          have hb4 : Below w1.heap.size w1 w3 := hb.trans (Hbb.out.mono hzr)
          have Hrel : Hid (termErr ar t = termsErr ar (ts.take (k + 1)) ∧ (termErr ar t ≠ 0 → termsErr ar ts = termErr ar t)) := ⟨Htk.out.symm, Hst.out.2⟩
          clear hS Hst Htk
          go_wp2_with fail
          go_roundw
          case rel => exact ⟨k + 1, _, by omega, by go_num, rfl, Hrel, hb4⟩
          case measure => simp [intOf]; omega
        · have hek' : (ek == 0) = false := by simpa using hek
          have He := hide (HL.out.2 hek)
          clear hek
          go_wp2_with fail
          go_ret
          exact ⟨ret_int (by rw [Hfin.out, He.out]), hbw.trans (hb.mono (by omega))⟩
      · have hlt' : ¬ (k : Int) < ts.length := by omega
        go_wp2_with fail
        go_ret
        have hk2 : k = ts.length := by omega
        have h5 := HL.out.1
        rw [hk2, List.take_length] at h5
        exact ⟨ret_int (by rw [Hfin.out, h5]), hbw.trans (hb.mono (by omega))⟩
  · have hfin : allErr ar ts = sigErr ar := by rw [allErr, if_neg hs]
    have Hfin := hide hfin
    have hs1 : (sigErr ar == 0) = false := by simpa using hs
    clear hfin hs
    generalize sigErr ar = sg at *
    go_wp2_with fail
    refine wp_loop_rounds 1 ?_
    rw [rounds_succ]
    by_cases h0 : 0 < ts.length
    · have h0' : (0 : Int) < ts.length := by omega
      go_wp2_with fail
      go_ret
      exact ⟨ret_int Hfin.out.symm, hbw⟩
    · have h0' : ¬ (0 : Int) < ts.length := by omega
      go_wp2_with fail
      go_ret
      exact ⟨ret_int Hfin.out.symm, hbw⟩

end Go.Proofs.Ytbkedppkdhfpoaa

namespace Go.Proofs.Ytbkedppkdhfpoaa
open Go.RowKit

theorem chkT (ar : List Int) (ga : Option Addr) (gcap : Nat) (t : T) (a : Option Addr) (w : World) (hg : Ints w ar ga) (hin : InL w [t] a) :
    Calls Try.prog 14 #[.agg #[.slice ga ar.length gcap], .slice a 1 1] w fun e w' => e = .returned (.int .i64 (allErr ar [t])) ∧ Below w.heap.size w w' := refCheckTerms_any ar ga gcap [t] a 1 w hg hin (by simp)
theorem firstT (t : T) (a : Option Addr) (w : World) (ht : t.sz ≤ 120) (hin : InL w [t] a) :
    Calls Try.prog 17 #[.slice a 1 1] w fun e w' => ∃ v, e = .returned v ∧ OwnI w.heap.size w' v (firstVars [t]) ∧ Below w.heap.size w w' := firstVars_any [t] a 1 w (by rw [T.szL_cons, T.szL_nil]; omega) hin
theorem firstT_length (t : T) : (firstVars [t]).length ≤ t.sz := by
  have := firstVars_length [t]
  rw [T.szL_cons, T.szL_nil] at this; omega
theorem sizeT (t : T) (a : Option Addr) (cap : Nat) (w : World) (ht : t.sz ≤ 120) (hin : InL w t.args a) :
    Calls Try.prog 15 #[.agg #[.int .i64 t.v, .int .i64 t.f, .slice a t.args.length cap], .int .i64 120] w fun e w' => e = .returned (.int .i64 (t.sz : Int)) ∧ Below w.heap.size w w' := by
  have h := sizeOf_any (t.sz + 1) t 120 a cap w (by omega) (by omega) (by omega) hin
  rw [show min (t.sz : Int) (120 + 1) = t.sz by omega] at h
  exact h

attribute [local go_sem ↓] Go.wp_at_zero Go.wp_at_succ
set_option maxRecDepth 100000 in
set_option maxHeartbeats 2000000 in
theorem TermTells_any (ar : List Int) (ga : Option Addr) (gcap : Nat) (t : T) (a : Option Addr) (cap : Nat) (w : World) (hg : Ints w ar ga) (hin : InL w t.args a) :
    Calls Try.prog 3 #[.agg #[.slice ga ar.length gcap], .agg #[.int .i64 t.v, .int .i64 t.f, .slice a t.args.length cap]] w fun e w' =>
      e = .returned (.bool true) ∧ Below w.heap.size w w' := by
  obtain ⟨W1, hW1⟩ : ∃ W1, W1 = ((w.alloc (.cells #[.slice ga ar.length gcap] 24)).alloc (.cells #[.int .i64 t.v, .int .i64 t.f, .slice a t.args.length cap] 27)) := ⟨_, rfl⟩
  have hbW : Below w.heap.size w W1 := by rw [hW1]; exact below2 _ _ _
  have hzW : W1.heap.size = w.heap.size + 2 := by rw [hW1]; simp
  have cg : W1.cell? ⟨w.heap.size, 0, none⟩ = some (.slice ga ar.length gcap) := by
    rw [hW1, cell_alloc_lt (by simp), cell_new _ rfl]; rfl
  have h3t : Three W1 (w.heap.size + 1) (.int .i64 t.v) (.int .i64 t.f) (.slice a t.args.length cap) := by rw [hW1]; exact Three.new _ (by simp)
  obtain ⟨E, hE⟩ : ∃ E, E = allErr ar [t] := ⟨_, rfl⟩
  obtain ⟨N, hN⟩ : ∃ N : Int, N = if allErr ar [t] = 0 then min (t.sz : Int) 121 else 0 := ⟨_, rfl⟩
  obtain ⟨zs, hzs⟩ : ∃ zs, zs = varsSpec ar t := ⟨_, rfl⟩
  have hszok : E = 0 → t.sz ≤ 120 := fun h => sz_of_ok (hE.symm.trans h) (by simp)
  have hA1 := Size_any ar ga gcap t a cap W1 (Ints_below hbW hg) (InP_below hbW hin)
  rw [← hN, ← hE] at hA1
  have HA1 := hide hA1
  have HE := hide hE
  have HN := hide hN
  have Hzs := hide hzs
  have HW1 := hide hW1
  have H3t := hide h3t
  obtain ⟨c0, c1, c2, _, _, _⟩ := h3t
  have Hszok := hide hszok
  clear hA1 hE hN hzs hW1 hszok
  go_enter Try.func3, Try.ntmps3
  go_wp2_with fail
  rw [← HW1.out]
  refine HA1.out.mono ?_
  rintro e w1 ⟨rfl, hb1⟩
  have hz1 := hb1.size
  have hbw1 : Below w.heap.size w w1 := hbW.trans (hb1.mono (by omega))
  have cg1 : w1.cell? ⟨w.heap.size, 0, none⟩ = some (.slice ga ar.length gcap) := by rw [hb1.cell (p := ⟨w.heap.size, 0, none⟩) (show w.heap.size < W1.heap.size by omega)]; exact cg
  have H3t1 := hide (H3t.out.below hb1)
  obtain ⟨e0, e1, e2, _, _, _⟩ := H3t1.out
  have hV := Vars_any ar ga gcap t a cap w1 (Ints_below hbw1 hg) (InP_below hbw1 hin) (fun h => Hszok.out (HE.out.trans h))
  rw [← HE.out, ← Hzs.out] at hV
  have HV := hide hV
  clear hV HA1 cg c0 c1 c2 hb1 HW1 H3t
  go_wp2_with fail
  refine HV.out.mono ?_
  rintro e w2 ⟨⟨la, lc, rfl, hI2⟩, hb2⟩
  have hz2 := hb2.size
  have hbw2 : Below w.heap.size w w2 := hbw1.trans (hb2.mono (by omega))
  have cg2 : w2.cell? ⟨w.heap.size, 0, none⟩ = some (.slice ga ar.length gcap) := by rw [hb2.cell (p := ⟨w.heap.size, 0, none⟩) (show w.heap.size < w1.heap.size by omega)]; exact cg1
  have H3t2 := hide (H3t1.out.below hb2)
  obtain ⟨f0, f1, f2, _, _, _⟩ := H3t2.out
  have HC := hide (fun e => chkT ar ga gcap t (some ⟨w2.heap.size, 0, none⟩) (w2.alloc (.cells #[.int .i64 t.v, .int .i64 t.f, .slice a t.args.length cap] e)) (Ints_alloc _ (Ints_below hbw2 hg)) (InP_new1 e rfl trivial (InP_below hbw2 hin)))
  rw [← HE.out] at HC
  have HI2 := hide hI2
  clear HV cg1 e0 e1 e2 hb2 hI2 H3t1
  go_wp2_with fail
  refine (HC.out _).mono ?_
  rintro e w3 ⟨rfl, hb3⟩
  have hz3 := hb3.size
  simp at hz3
  have hb23 : Below w2.heap.size w2 w3 := (below1 _ _).trans (hb3.mono (by simp))
  have hbw3 : Below w.heap.size w w3 := hbw2.trans (hb23.mono (by omega))
  have cg3 : w3.cell? ⟨w.heap.size, 0, none⟩ = some (.slice ga ar.length gcap) := by rw [hb23.cell (p := ⟨w.heap.size, 0, none⟩) (show w.heap.size < w2.heap.size by omega)]; exact cg2
  have H3t3 := hide (H3t2.out.below hb23)
  have HI3 := hide (Ints_below hb23 HI2.out)
  clear HC cg2 f0 f1 f2 hb3 H3t2 HI2
  go_upto_if 29 with fail
  have hzl : zs.length ≤ 1000 := by
    rw [Hzs.out, varsSpec]
    split
    · rename_i h9
      have h1 := compact_le ((allVars t).mergeSort fun x y => decide (x ≤ y))
      rw [List.length_mergeSort] at h1
      have h2 := allVars_le t
      have h3 := Hszok.out (HE.out.trans h9)
      rw [varsT]; omega
    · simp
  go_cut [10, 11] (fun sv vv wc => sv = .int .i64 N ∧ (∃ va vc, vv = .slice va zs.length vc ∧ Ints wc zs va) ∧ Hid (Below w3.heap.size w3 wc))
  case first =>
    by_cases hE0 : E = 0
    · have hE1 : allErr ar [t] = 0 := HE.out.symm.trans hE0
      have ht := Hszok.out hE0
      have hok : okP ar t := ((allErr_iff.1 hE1).2 t (by simp)).2
      have HzV : Hid (rising (firstVars [t]) = zs) := by
        show _ = _
        rw [vars_same hok, Hzs.out, varsSpec, if_pos hE1]
      have HNs : Hid ((t.sz : Int) = N) := by
        show _ = _
        rw [HN.out, if_pos hE1]; omega
      have hfl := firstT_length t
      have hinT := InP_below hbw3 hin
      have hzz : w.heap.size + 1 + 1 ≤ w3.heap.size := by omega
      have hS := hide (fun (w' : World) (hb : Below w3.heap.size w3 w') => (show w'.cell? ⟨w.heap.size + 1, 0, none⟩ = some (.int .i64 t.v) ∧ w'.cell? ⟨w.heap.size + 1, 1, none⟩ = some (.int .i64 t.f) ∧ w'.cell? ⟨w.heap.size + 1, 2, none⟩ = some (.slice a t.args.length cap) from ⟨(H3t3.out.below hb).c0, (H3t3.out.below hb).c1, (H3t3.out.below hb).c2⟩))
      subst hE0
      clear hE1 hok hg hin HN Hzs HI3 hzl cg3 H3t3 hz1 hz2 hz3 hzW hbW hbw1 hbw2 hb23 hbw3 Hszok HE
      go_wp2_with fail
      go_region_held3 (fun w' => w'.cell? ⟨w.heap.size + 1, 0, none⟩ = some (.int .i64 t.v) ∧ w'.cell? ⟨w.heap.size + 1, 1, none⟩ = some (.int .i64 t.f) ∧ w'.cell? ⟨w.heap.size + 1, 2, none⟩ = some (.slice a t.args.length cap)) ((first | (refine hS.out _ ?_; repeat' (first | with_reducible exact Hid.out ‹Hid (Below _ _ _)› | with_reducible exact Below.refl _ _ | (with_reducible refine Below.drew ?_) | (refine Below.alloc ?_ ?_ _; rotate_left; focus (first | omega | (simp; omega) | (simp; done))))) | go_keep)) ((first
          | (go_at_call 15
             refine (sizeT t a cap _ ht ?_).mono ?_
             · (repeat' (first | with_reducible exact hinT | with_reducible refine InP_drew ?_ | (with_reducible refine InP_new1 _ ?_ trivial ?_; focus (first | with_reducible rfl | (simp; done))) | with_reducible refine InP_alloc _ ?_ | with_reducible refine InP_below hb4 ?_ | with_reducible refine InP_below hb5 ?_ | with_reducible refine InP_below hb6 ?_)); done
             rintro e w4 ⟨rfl, hb4⟩
             have H4 : Hid (Below w3.heap.size w3 w4) := by
               refine Below.trans (b := _) ?_ (hb4.mono ?_)
               · repeat' (first | with_reducible exact Hid.out ‹Hid (Below _ _ _)› | with_reducible exact Below.refl _ _ | (with_reducible refine Below.drew ?_) | (refine Below.alloc ?_ ?_ _; rotate_left; focus (first | omega | (simp; omega) | (simp; done))))
               · first | omega | (simp; omega) | (simp; done)
             have hsH4 := H4.out.size
             have hs0H4 : w.heap.size < w4.heap.size := by omega
             have hs1H4 : w.heap.size + 1 < w4.heap.size := by omega)
          | (go_at_call 17
             refine (firstT t _ _ ht ?_).mono ?_
             · (repeat' (first | with_reducible exact hinT | with_reducible refine InP_drew ?_ | (with_reducible refine InP_new1 _ ?_ trivial ?_; focus (first | with_reducible rfl | (simp; done))) | with_reducible refine InP_alloc _ ?_ | with_reducible refine InP_below hb4 ?_ | with_reducible refine InP_below hb5 ?_ | with_reducible refine InP_below hb6 ?_)); done
             rintro e w5 ⟨v5, rfl, hown5, hb5⟩
             obtain ⟨fa, fc, rfl, hI5, _⟩ := own_ints hown5
             have H5 : Hid (Below w3.heap.size w3 w5) := by
               refine Below.trans (b := _) ?_ (hb5.mono ?_)
               · repeat' (first | with_reducible exact Hid.out ‹Hid (Below _ _ _)› | with_reducible exact Below.refl _ _ | (with_reducible refine Below.drew ?_) | (refine Below.alloc ?_ ?_ _; rotate_left; focus (first | omega | (simp; omega) | (simp; done))))
               · first | omega | (simp; omega) | (simp; done)
             have hsH5 := H5.out.size
             have hs0H5 : w.heap.size < w5.heap.size := by omega
             have hs1H5 : w.heap.size + 1 < w5.heap.size := by omega)
          | (go_at_call 16
             refine (rising_any (firstVars [t]) fa fc _ (by omega) ?_).mono ?_
             · first | exact hI5 | exact Ints_below hb4 hI5
             rintro e w6 ⟨v6, rfl, hown6, hb6⟩
             obtain ⟨ra, rc, rfl, hI6, _⟩ := own_ints hown6
             have H6 : Hid (Below w3.heap.size w3 w6) := by
               refine Below.trans (b := _) ?_ (hb6.mono ?_)
               · repeat' (first | with_reducible exact Hid.out ‹Hid (Below _ _ _)› | with_reducible exact Below.refl _ _ | (with_reducible refine Below.drew ?_) | (refine Below.alloc ?_ ?_ _; rotate_left; focus (first | omega | (simp; omega) | (simp; done))))
               · first | omega | (simp; omega) | (simp; done)
             have hsH6 := H6.out.size
             have hs0H6 : w.heap.size < w6.heap.size := by omega
             have hs1H6 : w.heap.size + 1 < w6.heap.size := by omega)))
      all_goals (go_wp2_with fail; go_meet; exact ⟨by rw [HNs.out], ⟨ra, rc, by rw [HzV.out], by rw [← HzV.out]; first | exact hI6 | exact Ints_below hb4 hI6⟩, by first | exact H6 | exact H4⟩)
    · have hEb : (E == 0) = false := by simpa using hE0
      have hz0 : zs = [] := by rw [Hzs.out, varsSpec, if_neg (fun h => hE0 (HE.out.trans h))]
      have hN0 : N = 0 := by rw [HN.out, if_neg (fun h => hE0 (HE.out.trans h))]
      have Hz0 := hide hz0
      have HN0 := hide hN0
      clear hz0 hN0 hE0
      go_wp2_with fail
      go_meet
      exact ⟨by rw [HN0.out], ⟨none, 0, by rw [Hz0.out]; rfl, Or.inl Hz0.out⟩, Below.refl _ _⟩
  case rest =>
    obtain ⟨rfl, ⟨va, vc, rfl, hIv⟩, HB⟩ := hcut
    have hzc := HB.out.size
    have hzz : w.heap.size + 1 + 1 ≤ wc.heap.size := by omega
    have hbc : Below w.heap.size w wc := hbw3.trans (HB.out.mono (by omega))
    have HG := hide (fun (w' : World) (hb : Below wc.heap.size wc w') => Ints_below hb (Ints_below hbc hg))
    have HIn := hide (fun (w' : World) (hb : Below wc.heap.size wc w') => InP_below hb (InP_below hbc hin))
    have HCk : Hid (∀ w' : World, Below wc.heap.size wc w' → Calls Try.prog 21 #[.agg #[.slice ga ar.length gcap], .agg #[.int .i64 t.v, .int .i64 t.f, .slice a t.args.length cap]] w' fun e w'' => e = .returned (.int .i64 E) ∧ Below w'.heap.size w' w'') := fun w' hb => by
      have h := Check_any ar ga gcap t a cap w' (HG.out w' hb) (HIn.out w' hb)
      rw [← HE.out] at h
      exact h
    have HL := hide (fun (w' : World) (hb : Below wc.heap.size wc w') => Ints_below hb (Ints_below HB.out HI3.out))
    have HVs := hide (fun (w' : World) (hb : Below wc.heap.size wc w') => Ints_below hb hIv)
    have H3c := hide (H3t3.out.below HB.out)
    have cgc : wc.cell? ⟨w.heap.size, 0, none⟩ = some (.slice ga ar.length gcap) := by rw [HB.out.cell (p := ⟨w.heap.size, 0, none⟩) (show w.heap.size < w3.heap.size by omega)]; exact cg3
    have hS := hide (fun (w' : World) (hb : Below wc.heap.size wc w') => (show w'.cell? ⟨w.heap.size, 0, none⟩ = some (.slice ga ar.length gcap) ∧ w'.cell? ⟨w.heap.size + 1, 0, none⟩ = some (.int .i64 t.v) ∧ w'.cell? ⟨w.heap.size + 1, 1, none⟩ = some (.int .i64 t.f) ∧ w'.cell? ⟨w.heap.size + 1, 2, none⟩ = some (.slice a t.args.length cap) from
      ⟨by rw [hb.cell (p := ⟨w.heap.size, 0, none⟩) (show w.heap.size < wc.heap.size by omega)]; exact cgc, (H3c.out.below hb).c0, (H3c.out.below hb).c1, (H3c.out.below hb).c2⟩))
    have Hbc := hide hbc
    have Hsz := hide (show w.heap.size ≤ wc.heap.size by omega)
    clear hg hin HN Hzs HI3 cg3 H3t3 hz1 hz2 hz3 hzW hbW hbw1 hbw2 hb23 hbw3 Hszok hIv HB hzc cgc H3c hbc HIn HE
    go_wp2_with fail
    go_region_held3 (fun w' => w'.cell? ⟨w.heap.size, 0, none⟩ = some (.slice ga ar.length gcap) ∧ w'.cell? ⟨w.heap.size + 1, 0, none⟩ = some (.int .i64 t.v) ∧ w'.cell? ⟨w.heap.size + 1, 1, none⟩ = some (.int .i64 t.f) ∧ w'.cell? ⟨w.heap.size + 1, 2, none⟩ = some (.slice a t.args.length cap)) ((first | (refine hS.out _ ?_; repeat' (first | with_reducible exact Hid.out ‹Hid (Below _ _ _)› | with_reducible exact Below.refl _ _ | (with_reducible refine Below.drew ?_) | (refine Below.alloc ?_ ?_ _; rotate_left; focus (first | omega | (simp; omega) | (simp; done))))) | go_keep)) ((first
      | (go_at_call 18
         refine (begun_any _).mono ?_
         rintro e wa ⟨rfl, hba⟩
         have Ha : Hid (Below wc.heap.size wc wa) := by
           refine Below.trans (b := _) ?_ (hba.mono ?_)
           · repeat' (first | with_reducible exact Hid.out ‹Hid (Below _ _ _)› | with_reducible exact Below.refl _ _ | (with_reducible refine Below.drew ?_) | (refine Below.alloc ?_ ?_ _; rotate_left; focus (first | omega | (simp; omega) | (simp; done))))
           · first | omega | (simp; omega) | (simp; done)
         have hsHa := Ha.out.size
         have hs0Ha : w.heap.size < wa.heap.size := by omega
         have hs1Ha : w.heap.size + 1 < wa.heap.size := by omega)
      | (go_at_call 19
         refine (signature_any ar ga gcap _ (HG.out _ ?_)).mono ?_
         · repeat' (first | with_reducible exact Hid.out ‹Hid (Below _ _ _)› | with_reducible exact Below.refl _ _ | (with_reducible refine Below.drew ?_) | (refine Below.alloc ?_ ?_ _; rotate_left; focus (first | omega | (simp; omega) | (simp; done))))
         rintro e wb ⟨rfl, hbb⟩
         have Hb : Hid (Below wc.heap.size wc wb) := by
           refine Below.trans (b := _) ?_ (hbb.mono ?_)
           · repeat' (first | with_reducible exact Hid.out ‹Hid (Below _ _ _)› | with_reducible exact Below.refl _ _ | (with_reducible refine Below.drew ?_) | (refine Below.alloc ?_ ?_ _; rotate_left; focus (first | omega | (simp; omega) | (simp; done))))
           · first | omega | (simp; omega) | (simp; done)
         have hsHb := Hb.out.size
         have hs0Hb : w.heap.size < wb.heap.size := by omega
         have hs1Hb : w.heap.size + 1 < wb.heap.size := by omega)
      | (go_at_call 20
         refine (checkSignature_any ar ga gcap _ (HG.out _ ?_)).mono ?_
         · repeat' (first | with_reducible exact Hid.out ‹Hid (Below _ _ _)› | with_reducible exact Below.refl _ _ | (with_reducible refine Below.drew ?_) | (refine Below.alloc ?_ ?_ _; rotate_left; focus (first | omega | (simp; omega) | (simp; done))))
         rintro e wd ⟨rfl, hbd⟩
         have Hd : Hid (Below wc.heap.size wc wd) := by
           refine Below.trans (b := _) ?_ (hbd.mono ?_)
           · repeat' (first | with_reducible exact Hid.out ‹Hid (Below _ _ _)› | with_reducible exact Below.refl _ _ | (with_reducible refine Below.drew ?_) | (refine Below.alloc ?_ ?_ _; rotate_left; focus (first | omega | (simp; omega) | (simp; done))))
           · first | omega | (simp; omega) | (simp; done)
         have hsHd := Hd.out.size
         have hs0Hd : w.heap.size < wd.heap.size := by omega
         have hs1Hd : w.heap.size + 1 < wd.heap.size := by omega)
      | (go_at_call 21
         refine (HCk.out _ ?_).mono ?_
         · repeat' (first | with_reducible exact Hid.out ‹Hid (Below _ _ _)› | with_reducible exact Below.refl _ _ | (with_reducible refine Below.drew ?_) | (refine Below.alloc ?_ ?_ _; rotate_left; focus (first | omega | (simp; omega) | (simp; done))))
         rintro e we ⟨rfl, hbe⟩
         have He : Hid (Below wc.heap.size wc we) := by
           refine Below.trans (b := _) ?_ (hbe.mono ?_)
           · repeat' (first | with_reducible exact Hid.out ‹Hid (Below _ _ _)› | with_reducible exact Below.refl _ _ | (with_reducible refine Below.drew ?_) | (refine Below.alloc ?_ ?_ _; rotate_left; focus (first | omega | (simp; omega) | (simp; done))))
           · first | omega | (simp; omega) | (simp; done)
         have hsHe := He.out.size
         have hs0He : w.heap.size < we.heap.size := by omega
         have hs1He : w.heap.size + 1 < we.heap.size := by omega)
      | (go_at_call 22
         refine (sameInts_any zs zs la lc va vc _ (HL.out _ ?_) (HVs.out _ ?_) hzl rfl).mono ?_
         · repeat' (first | with_reducible exact Hid.out ‹Hid (Below _ _ _)› | with_reducible exact Below.refl _ _ | (with_reducible refine Below.drew ?_) | (refine Below.alloc ?_ ?_ _; rotate_left; focus (first | omega | (simp; omega) | (simp; done))))
         · repeat' (first | with_reducible exact Hid.out ‹Hid (Below _ _ _)› | with_reducible exact Below.refl _ _ | (with_reducible refine Below.drew ?_) | (refine Below.alloc ?_ ?_ _; rotate_left; focus (first | omega | (simp; omega) | (simp; done))))
         rintro e wf ⟨rfl, hbf⟩
         have Hf : Hid (Below wc.heap.size wc wf) := by
           refine Below.trans (b := _) ?_ (hbf.mono ?_)
           · repeat' (first | with_reducible exact Hid.out ‹Hid (Below _ _ _)› | with_reducible exact Below.refl _ _ | (with_reducible refine Below.drew ?_) | (refine Below.alloc ?_ ?_ _; rotate_left; focus (first | omega | (simp; omega) | (simp; done))))
           · first | omega | (simp; omega) | (simp; done)
         have hsHf := Hf.out.size
         have hs0Hf : w.heap.size < wf.heap.size := by omega
         have hs1Hf : w.heap.size + 1 < wf.heap.size := by omega)))
    go_wp2_with fail
    go_ret
    exact ⟨rfl, Hbc.out.trans (Hf.out.mono Hsz.out)⟩

end Go.Proofs.Ytbkedppkdhfpoaa

namespace Go.Proofs.Ytbkedppkdhfpoaa
open Go.RowKit Go.ChangeShapes Go.WideShapes Go.Deep

theorem InL_of_fn {w : World} : ∀ (n b off : Nat) (f : Nat → T), (∀ i, i < n → ∃ s, w.cell? ⟨b, off + i * 3, none⟩ = some (.int .i64 (f i).v) ∧ w.cell? ⟨b, off + i * 3 + 1, none⟩ = some (.int .i64 (f i).f) ∧ w.cell? ⟨b, off + i * 3 + 2, none⟩ = some s ∧ (f i).In (fun _ => True) w s) →
    InL w ((List.range n).map f) (some ⟨b, off, none⟩) := by
  intro n
  induction n with
  | zero => intro b off f _; exact InP_nil
  | succ n ih =>
    intro b off f h
    rw [List.range_succ_eq_map, List.map_cons, List.map_map]
    obtain ⟨s, c0, c1, c2, hin⟩ := h 0 (by omega)
    refine InP_cons.2 ⟨b, off, s, rfl, trivial, by simpa using c0, by simpa using c1, by simpa using c2, hin, ih b (off + 3) (f ∘ Nat.succ) (fun i hi => ?_)⟩
    obtain ⟨s, c0, c1, c2, hin⟩ := h (i + 1) (by omega)
    have e : off + (i + 1) * 3 = off + 3 + i * 3 := by omega
    rw [e] at c0 c1 c2
    exact ⟨s, c0, c1, c2, hin⟩

theorem Try.cells27 : Try.prog.cellsOf 27 = 3 := by kernel_rfl
theorem Try.cells25 : Try.prog.cellsOf 25 = 1 := by kernel_rfl
theorem Try.cells3 : Try.prog.cellsOf 3 = 1 := by kernel_rfl
theorem Try.cells22 : Try.prog.cellsOf 22 = 1 := by kernel_rfl
theorem Try.cells24 : Try.prog.cellsOf 24 = 1 := by kernel_rfl

section
variable {H : Type} {enc : TypeId × Value → H} {W : World} {spare : Nat → Bool} {held : Bool}

set_option maxRecDepth 100000 in
/-- A term that can be read is a tree that lies there. -/
theorem open_term : ∀ (fuel : Nat) (cs : List Value) (x : DataW H × List MemPlace), DataW.trod enc Try.prog W 0 spare held fuel 27 cs = some x →
    ∃ (t : T) (a : Option Addr) (cap : Nat), cs = [.int .i64 t.v, .int .i64 t.f, .slice a t.args.length cap] ∧ InL W t.args a := by
  intro fuel
  induction fuel using Nat.strongRecOn with
  | _ fuel ih =>
    intro cs x h
    obtain ⟨xs, n, hn, hx, hl, hlen, hf⟩ := DataW.trod_struct Go.Proofs.Try.underlying27 h
    rw [Try.cells27] at hl
    match cs, hl with
    | [c0, c1, c2], _ =>
      have f0 := hf 0 _ rfl
      have f1 := hf 1 _ rfl
      have f2 := hf 2 _ rfl
      match xs, hlen with
      | [y0, y1, y2], _ =>
        simp only [List.getElem?_cons_zero, List.getElem?_cons_succ] at f0 f1 f2
        have g0 : DataW.trod enc Try.prog W 0 spare held n 3 [c0] = some y0 := f0
        have g1 : DataW.trod enc Try.prog W 0 spare held n 3 [c1] = some y1 := f1
        have g2 : DataW.trod enc Try.prog W 0 spare held n 25 [c2] = some y2 := f2
        obtain ⟨v, e0, _, _⟩ := DataW.trod_int Go.Proofs.Try.underlying3 g0
        obtain ⟨f, e1, _, _⟩ := DataW.trod_int Go.Proofs.Try.underlying3 g1
        simp only [List.cons.injEq, and_true] at e0 e1
        subst e0 e1
        rcases DataW.trod_slice Go.Proofs.Try.underlying25 g2 with ⟨e2, _⟩ | ⟨a, len, cap, elems, rest, m, hm, e2, _, hb, hl', hm', hlen', hel, _, _⟩
        · simp only [List.cons.injEq, and_true] at e2
          subst e2
          exact ⟨⟨v, f, []⟩, none, 0, rfl, InP_nil⟩
        · simp only [List.cons.injEq, and_true] at e2
          subst e2
          rw [Try.cells27] at hel
          have hchild : ∀ i, i < len → ∃ t : T, ∃ s, W.cell? (a.add (i * 3)) = some (.int .i64 t.v) ∧ W.cell? ((a.add (i * 3)).add 1) = some (.int .i64 t.f) ∧ W.cell? ((a.add (i * 3)).add 2) = some s ∧ t.In (fun _ => True) W s := by
            intro i hi
            have h1 := hel i hi
            rw [List.getElem?_eq_getElem (by omega)] at h1
            obtain ⟨cs', h2, h3⟩ := Option.bind_eq_some_iff.1 h1
            obtain ⟨t, a', cap', hcs, hin⟩ := ih m (by omega) cs' _ h3
            obtain ⟨_, _, hcell⟩ := World.cells?_some h2
            rw [hcs] at hcell
            refine ⟨t, .slice a' t.args.length cap', ?_, hcell 1 (by omega), hcell 2 (by omega), In_iff.2 ⟨a', cap', rfl, hin⟩⟩
            have := hcell 0 (by omega)
            rwa [show (a.add (i * 3)).add 0 = a.add (i * 3) from by simp [Addr.add]] at this
          by_cases h0 : len = 0
          · subst h0
            exact ⟨⟨v, f, []⟩, some a, cap, rfl, InP_nil⟩
          · obtain ⟨b, off, spot⟩ := a
            have hspot : spot = none := by
              obtain ⟨t, s, hc, _⟩ := hchild 0 (by omega)
              simpa [Addr.add] using World.cell?_spot hc
            subst hspot
            have : Inhabited T := ⟨⟨0, 0, []⟩⟩
            obtain ⟨F, hF⟩ := choose_lt hchild
            refine ⟨⟨v, f, (List.range len).map F⟩, some ⟨b, off, none⟩, cap, by simp, InL_of_fn len b off F (fun i hi => ?_)⟩
            obtain ⟨s, c0, c1, c2, hin⟩ := hF i hi
            have e : ∀ j, (⟨b, off, none⟩ : Addr).add j = ⟨b, off + j, none⟩ := fun j => by simp [Addr.add]
            have e' : ∀ k j, (⟨b, k, none⟩ : Addr).add j = ⟨b, k + j, none⟩ := fun k j => by simp [Addr.add]
            rw [e] at c0 c1 c2
            rw [e'] at c1 c2
            exact ⟨s, c0, c1, c2, hin⟩

/-- A slice of numbers that can be read. -/
theorem open_nums {fuel : Nat} {cs : List Value} {x : DataW H × List MemPlace} (h : DataW.trod enc Try.prog W 0 spare held fuel 22 cs = some x) :
    ∃ (zs : List Int) (a : Option Addr) (cap : Nat), cs = [.slice a zs.length cap] ∧ Ints W zs a ∧ zs.length ≤ 9223372036854775807 ∧ zs.length ≤ cap := by
  rcases open_ints Go.Proofs.Try.underlying22 Go.Proofs.Try.underlying3 Try.cells3 h with ⟨hcs, _⟩ | ⟨a, l, c, zs, hcs, _, hl, hm, hz, _, hcell, _⟩
  · exact ⟨[], none, 0, hcs, Or.inl rfl, by simp, by simp⟩
  · have hle : l ≤ zs.length := by rw [hz]; split <;> omega
    have hlen : (zs.take l).length = l := List.length_take_of_le hle
    refine ⟨zs.take l, some a, c, by rw [hcs, hlen], ?_, by rw [hlen]; unfold maxLen at hm; omega, by rw [hlen]; exact hl⟩
    by_cases h0 : l = 0
    · left; rw [h0]; rfl
    · right
      obtain ⟨b, off, rfl, hc⟩ := ints_at hcell (by omega)
      refine ⟨b, off, rfl, fun i hi => ?_⟩
      rw [hlen] at hi
      rw [hc i (by omega)]
      simp [List.getD, List.getElem?_take_of_lt hi]

set_option maxRecDepth 100000 in
/-- A signature. -/
theorem open_sig {fuel : Nat} {cs : List Value} {x : DataW H × List MemPlace} (h : DataW.trod enc Try.prog W 0 spare held fuel 24 cs = some x) :
    ∃ (zs : List Int) (a : Option Addr) (cap : Nat), cs = [.slice a zs.length cap] ∧ Ints W zs a := by
  obtain ⟨y0, n, _, hl, h0⟩ := trod_struct1 Go.Proofs.Try.underlying24 h
  rw [Try.cells24] at hl
  match cs, hl with
  | [c0], _ =>
    have g0 : DataW.trod enc Try.prog W 0 spare held n 22 [c0] = some y0 := h0
    obtain ⟨zs, a, cap, hcs, hi, _⟩ := open_nums g0
    exact ⟨zs, a, cap, hcs, hi⟩

end
end Go.Proofs.Ytbkedppkdhfpoaa
