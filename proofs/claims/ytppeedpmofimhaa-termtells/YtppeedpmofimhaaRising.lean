/- The document's Rising. -/
import Derived.Test.YtppeedpmofimhaaApps
import Derived.Deep.RegionLaw
import Derived.Deep.CutBlock
import Derived.Deep.DeepCutAuto
namespace Go.Proofs.Ytppeedpmofimhaa
open Go.RowKit

theorem OwnI.same {base : Nat} {w w' : World} {v : Value} {zs : List Int} (h : OwnI base w v zs) (hs : ∀ g, v.ownBlock = some g → w'.heap[g]? = w.heap[g]?) : OwnI base w' v zs := own_same h hs
theorem OwnI.below {base : Nat} {w w' : World} {v : Value} {zs : List Int} (h : OwnI base w v zs) (hb : Below w.heap.size w w') : OwnI base w' v zs := own_same h (fun g hg => hb.block g (own_lt h g hg).2)
theorem OwnI.grown {base : Nat} {w w' : World} {v : Value} {r : Option Nat} {zs : List Int} (h : OwnI base w v zs) (hg : w.grownBy w' r) (hne : v.ownBlock = none ∨ v.ownBlock ≠ r) : OwnI base w' v zs := own_same h (fun g hg' => hg.block g (own_lt h g hg').2 (fun e => by
  rcases hne with h1 | h1
  · rw [h1] at hg'; cases hg'
  · exact h1 (hg'.trans e)))
theorem OwnI.new {base : Nat} {w : World} {n : Nat} (hn : n = w.heap.size) (hb : base ≤ w.heap.size) : OwnI base (w.alloc (.cells #[] 3)) (.slice (some ⟨n, 0, none⟩) 0 0) [] := by
  subst hn
  exact World.ownsRow_lit (base := base) (e := 3) (size := 1) w #[] 0 hb (by decide) (by simp)

theorem OwnI.newAt {base : Nat} {w : World} {n : Nat} (h : w.heap[n]? = some (.cells #[] 3)) (hb : base ≤ n) : OwnI base w (.slice (some ⟨n, 0, none⟩) 0 0) [] :=
  ⟨by simp, Or.inr ⟨n, 0, #[], rfl, hb, h, by simp, by decide, by simp, by simp⟩⟩
theorem new_s1 (w : World) (o : Obj) : (w.alloc o).drew.heap[w.heap.size]? = some o := heap_alloc_new w o
theorem new_s2 (w : World) (o o2 : Obj) : ((w.alloc o).alloc o2).drew.heap[w.heap.size]? = some o := (Below.heap_alloc (w.alloc o) o2 w.heap.size (by simp)).trans (heap_alloc_new w o)
theorem new_s3 (w : World) (o o2 : Obj) : ((w.alloc o2).alloc o).drew.heap[w.heap.size + 1]? = some o := by
  have h := heap_alloc_new (w.alloc o2) o
  rw [World.size_alloc] at h
  exact h
theorem cell_s2 (w : World) (v : Value) (e : TypeId) (o2 : Obj) : ((w.alloc (.cells #[v] e)).alloc o2).drew.cell? ⟨w.heap.size, 0, none⟩ = some v := by
  show ((w.alloc (.cells #[v] e)).alloc o2).cell? ⟨w.heap.size, 0, none⟩ = some v
  rw [cell_alloc_lt (by simp)]; exact cell_new 0 rfl
theorem cell_s3 (w : World) (v : Value) (e : TypeId) (o2 : Obj) : ((w.alloc o2).alloc (.cells #[v] e)).drew.cell? ⟨w.heap.size + 1, 0, none⟩ = some v := by
  show ((w.alloc o2).alloc (.cells #[v] e)).cell? ⟨w.heap.size + 1, 0, none⟩ = some v
  exact cell_new 0 (by simp)
theorem low_any {base : Nat} {w : World} {v : Value} {out : List Int} (hown : OwnI base w v out) (s : Nat) (hs : s ≤ out.length) :
    ∃ xa n c, (∀ w', (Instr.slice 22 v (some (.int .i64 (s : Int))) none none).run Try.prog w' = .ok (.slice xa n c) w') ∧ (∀ w' : World, (∀ g, v.ownBlock = some g → w'.heap[g]? = w.heap[g]?) → SrcI w' (.slice xa n c) (out.drop s)) := by
  have ht : Try.prog.underlying 22 = some (.slice (Try.prog.elem 22)) := by kernel_rfl
  have hsz : ∀ w : World, (sizeOf (Try.prog.elem 22)).run Try.prog w = .ok 1 w := fun w => by kernel_rfl
  have hints := own_ints hown
  rcases hown.2 with ⟨rfl, h0⟩ | ⟨g, cap, cur, rfl, hb, hg, hc, hm, hsz', htk⟩
  · obtain rfl : out = [] := List.length_eq_zero_iff.1 h0
    obtain rfl : s = 0 := by simpa using hs
    refine ⟨none, 0, 0, fun w' => ?_, fun w' _ => Or.inl ⟨rfl, rfl⟩⟩
    rw [run_slice_l (P := Try.prog) w' 22 none 0 0 ht .i64 ((0 : Nat) : Int) (by omega) (by omega), hsz]
    simp [sliced]
  · refine ⟨some ⟨g, if cap = s then 0 else s, none⟩, (out.drop s).length, cap - s, fun w' => ?_, fun w' hw' => Or.inr ⟨g, _, _, rfl, fun j hj => ?_⟩⟩
    · rw [run_slice_l (P := Try.prog) w' 22 (some ⟨g, 0, none⟩) out.length cap ht .i64 (s : Int) (by omega) (by omega), hsz]
      by_cases h1 : cap = s
      · simp [sliced, h1]
      · simp [sliced, h1, Addr.add]; omega
    · rw [List.length_drop] at hj
      have h1 : ¬ cap = s := by omega
      obtain ⟨a', cap', he, hI, _⟩ := hints
      simp only [Value.slice.injEq, true_and] at he
      obtain ⟨rfl, rfl⟩ := he
      obtain ⟨b, off, he, hcell⟩ := Ints_some hI (by omega)
      simp only [Option.some.injEq, Addr.mk.injEq, and_true] at he
      obtain ⟨rfl, rfl⟩ := he
      rw [if_neg h1, World.cell?_of_block (w := w) (a := ⟨g, s + j, none⟩) (hw' g rfl)]
      have h2 := hcell (s + j) (by omega)
      rw [Nat.zero_add] at h2
      rw [h2, List.getD_eq_getElem?_getD, List.getD_eq_getElem?_getD, List.getElem?_drop]
theorem high_any {base : Nat} {w : World} {v : Value} {out : List Int} (hown : OwnI base w v out) (s : Nat) (hs : s ≤ out.length) :
    ∃ xa n c, (∀ w', (Instr.slice 22 v none (some (.int .i64 (s : Int))) none).run Try.prog w' = .ok (.slice xa n c) w') ∧ (∀ w' : World, (∀ g, v.ownBlock = some g → w'.heap[g]? = w.heap[g]?) → SrcI w' (.slice xa n c) (out.take s)) := by
  have ht : Try.prog.underlying 22 = some (.slice (Try.prog.elem 22)) := by kernel_rfl
  have hsz : ∀ w : World, (sizeOf (Try.prog.elem 22)).run Try.prog w = .ok 1 w := fun w => by kernel_rfl
  have hints := own_ints hown
  rcases hown.2 with ⟨rfl, h0⟩ | ⟨g, cap, cur, rfl, hb, hg, hc, hm, hsz', htk⟩
  · obtain rfl : out = [] := List.length_eq_zero_iff.1 h0
    obtain rfl : s = 0 := by simpa using hs
    refine ⟨none, 0, 0, fun w' => ?_, fun w' _ => Or.inl ⟨rfl, rfl⟩⟩
    rw [run_slice_h (P := Try.prog) w' 22 none 0 0 ht .i64 ((0 : Nat) : Int) (by omega) (by omega), hsz]
    simp [sliced]
  · refine ⟨some ⟨g, 0, none⟩, (out.take s).length, cap, fun w' => ?_, fun w' hw' => Or.inr ⟨g, 0, _, rfl, fun j hj => ?_⟩⟩
    · rw [run_slice_h (P := Try.prog) w' 22 (some ⟨g, 0, none⟩) out.length cap ht .i64 (s : Int) (by omega) (by omega), hsz]
      have h2 : min s out.length = s := by omega
      simp [sliced, Addr.add, h2]
    · rw [List.length_take] at hj
      obtain ⟨a', cap', he, hI, _⟩ := hints
      simp only [Value.slice.injEq, true_and] at he
      obtain ⟨rfl, rfl⟩ := he
      obtain ⟨b, off, he, hcell⟩ := Ints_some hI (by omega)
      simp only [Option.some.injEq, Addr.mk.injEq, and_true] at he
      obtain ⟨rfl, rfl⟩ := he
      rw [World.cell?_of_block (w := w) (a := ⟨g, 0 + j, none⟩) (hw' g rfl), hcell j (by omega), List.getD_eq_getElem?_getD, List.getD_eq_getElem?_getD, List.getElem?_take_of_lt (by omega)]

theorem src_one {w : World} {n : Nat} {x : Int} (h : w.cell? ⟨n, 0, none⟩ = some (.int .i64 x)) : SrcI w (.slice (some ⟨n, 0, none⟩) 1 1) [x] :=
  Or.inr ⟨n, 0, 1, rfl, fun j hj => by
    obtain rfl : j = 0 := by simpa using hj
    exact h⟩
theorem spot_step {x : Int} {out : List Int} {m : Nat} : (x < out.getD m 0 → spot x out (m + 1) = spot x out m) ∧ (¬ x < out.getD m 0 → spot x out (m + 1) = m + 1) :=
  ⟨fun h => by rw [spot, if_pos h], fun h => by rw [spot, if_neg h]⟩

set_option maxRecDepth 100000 in
set_option maxHeartbeats 2000000 in
theorem rising_any (l : List Int) (a : Option Addr) (cap : Nat) (w : World) (hl : l.length ≤ 1000) (hin : Ints w l a) :
    Calls Try.prog 16 #[.slice a l.length cap] w fun e w' => ∃ v, e = .returned v ∧ OwnI w.heap.size w' v (rising l) ∧ Below w.heap.size w w' := by
  go_enter Try.func16, Try.ntmps16
  go_wp2_with fail
  go_loopw [3, 4] (fun v j wr => ∃ k : Nat, k ≤ l.length ∧ j = .int .i64 k ∧ OwnI w.heap.size wr v (rising (l.take k)) ∧ Below w.heap.size w wr) (fun _ j _ => l.length - (intOf j).toNat)
  case atStart => exact ⟨0, Nat.zero_le _, rfl, ⟨rfl, Or.inl ⟨rfl, rfl⟩⟩, Below.refl _ _⟩
  case round =>
    obtain ⟨k, hk, rfl, hown, hb⟩ := hrel
    by_cases hlt : k < l.length
    · obtain ⟨b, off, rfl, hc⟩ := Ints_some hin (by omega)
      obtain ⟨x, hx⟩ : ∃ x, l[k]? = some x := ⟨l[k], List.getElem?_eq_getElem hlt⟩
      have hcx : wr.cell? ⟨b, off + k, none⟩ = some (.int .i64 x) := by
        have h1 := hc k hlt
        rw [hb.cell (p := ⟨b, off + k, none⟩) (lt_of_cell h1), h1, List.getD_eq_getElem?_getD, hx]; rfl
      obtain ⟨out, hout⟩ : ∃ out, out = rising (l.take k) := ⟨_, rfl⟩
      have holen : out.length = k := by rw [hout, rising_length, List.length_take]; omega
      have Hst : Hid (rising (l.take (k + 1)) = rise1 out x) := by show _ = _; rw [rising_step hx, hout]
      rw [← hout] at hown
      have Hown := hide hown
      have Hb := hide hb
      obtain ⟨va, vc, rfl, hints, hvc⟩ := own_ints hown
      have hzr := hb.size
      have hkI : (k : Int) < l.length := by omega
      have hk0 : (0 : Int) ≤ k := by omega
      have Holen := hide holen
      have hol : out.length ≤ 1000 := by omega
      clear hc hx hout hown hb holen
      go_upto_block 2 with fail
      go_cut [5] (fun at' wi => at' = .int .i64 (spot x out out.length : Nat) ∧ Hid (Below wr.heap.size wr wi))
      case first =>
        go_wp2_with fail
        go_loopw [5] (fun at' wi => ∃ m : Nat, m ≤ out.length ∧ at' = .int .i64 m ∧ Hid (spot x out out.length = spot x out m) ∧ Hid (Below wr.heap.size wr wi)) (fun at' _ => (intOf at').toNat)
        case atStart => exact ⟨out.length, Nat.le_refl _, rfl, rfl, Below.refl _ _⟩
        case round =>
          obtain ⟨m, hm, rfl, HS, HBi⟩ := hrel
          cases m with
          | zero =>
            go_wp2_with fail
            go_quiet (fail)
            go_wp2_with fail
            go_meet
            exact ⟨by rw [HS.out]; rfl, HBi.out.trans ⟨rfl, rfl, rfl, Nat.le_refl _, fun _ _ => rfl⟩⟩
          | succ m =>
            obtain ⟨b2, off2, rfl, hc2⟩ := Ints_some (Ints_below HBi.out hints) (by omega)
            have hy := hc2 m (by omega)
            have hcx2 : wr.cell? ⟨b, off + k, none⟩ = some (.int .i64 x) := by rw [HBi.out.cell (p := ⟨b, off + k, none⟩) (lt_of_cell hcx)]; exact hcx
            have hmI : (m : Int) < out.length := by omega
            have hm0 : (0 : Int) ≤ m := by omega
            have hm1 : m + 1 ≤ 1000 := by omega
            have Hs1 := hide (spot_step (x := x) (out := out) (m := m))
            clear hc2 hints
            generalize out.getD m 0 = y at *
            by_cases hgt : x < y
            · have Hs2 := hide (HS.out.trans (Hs1.out.1 hgt))
              clear Hs1 HS
              go_wp2_with fail
              go_quiet (fail)
              go_wp2_with fail
              go_roundw
              case rel => exact ⟨m, by omega, by go_num, Hs2.out, HBi.out.trans ⟨rfl, rfl, rfl, Nat.le_refl _, fun _ _ => rfl⟩⟩
              case measure => simp [intOf]
            · have Hs2 := hide (HS.out.trans (Hs1.out.2 hgt))
              clear Hs1 HS
              go_wp2_with fail
              go_quiet (fail)
              go_wp2_with fail
              go_meet
              exact ⟨by rw [Hs2.out]; go_num, HBi.out.trans ⟨rfl, rfl, rfl, Nat.le_refl _, fun _ _ => rfl⟩⟩
      case rest =>
        obtain ⟨rfl, HB⟩ := hcut
        have Hownc := hide (Hown.out.below HB.out)
        obtain ⟨s, hs⟩ : ∃ s, s = spot x out out.length := ⟨_, rfl⟩
        have hsle : s ≤ out.length := by rw [hs]; exact spot_le _ _ _
        obtain ⟨U, hU⟩ : ∃ U, U = out.take s := ⟨_, rfl⟩
        obtain ⟨D, hD⟩ : ∃ D, D = out.drop s := ⟨_, rfl⟩
        have Hr1 : Hid (rise1 out x = U ++ [x] ++ D) := by show _ = _; rw [rise1, hU, hD, ← hs]; simp
        have hUl : U.length ≤ 1000 := by rw [hU, List.length_take]; omega
        have hDl : D.length ≤ 1000 := by rw [hD, List.length_drop]; omega
        have hUD : U.length + D.length ≤ 1000 := by rw [hU, hD, List.length_take, List.length_drop]; omega
        rw [← hs]
        obtain ⟨la, ln, lc, hlow, hlsrc⟩ := low_any Hownc.out s hsle
        obtain ⟨ha, hn, hcp, hhigh, hhsrc⟩ := high_any Hownc.out s hsle
        rw [← hD] at hlsrc
        rw [← hU] at hhsrc
        have HLs := hide hlsrc
        have HHs := hide hhsrc
        have hzc := HB.out.size
        have hcxc : wc.cell? ⟨b, off + k, none⟩ = some (.int .i64 x) := by rw [HB.out.cell (p := ⟨b, off + k, none⟩) (lt_of_cell hcx)]; exact hcx
        clear hs hU hD hlsrc hhsrc hcx hints
        go_wp2_with (at_builtin; go_must (refine wpList_append_ints rfl (.tmp 31) (.tmp 34) rfl w.heap.size (.slice (some ⟨wc.heap.size, 0, none⟩) 0 0) [] rfl (OwnI.new rfl (by omega)) (.slice la ln lc) D rfl (HLs.out _ (fun g hg => (below1 wc _).block g (own_lt Hownc.out g hg).2)) (by simp; omega) (by simp; omega) ?_))
        intro v6 w6 hown6 hgr6 hat6
        have hz6 := hgr6.size
        simp at hz6
        have Hown6 := hide hown6
        have Hb6 : Hid (Below wc.heap.size wc w6) := Below.grown (below1 wc _) hgr6 (by simp) (fun k' hk' => by simp [Value.ownBlock] at hk'; omega)
        have HH6 : Hid (∀ w', Below w6.heap.size w6 w' → SrcI w' (.slice ha hn hcp) U) := fun w' hb' => HHs.out w' (fun g hg => by
          have h9 := own_lt Hownc.out g hg
          rw [hb'.block g (by omega), Hb6.out.block g h9.2])
        have hbl := lt_of_cell hcxc
        have hcx6 : w6.cell? ⟨b, off + k, none⟩ = some (.int .i64 x) := by rw [Hb6.out.cell (p := ⟨b, off + k, none⟩) hbl]; exact hcxc
        have hbl6 : b < w6.heap.size := by omega
        have Hbf := hide (Hb.out.trans ((HB.out.mono hzr).trans (Hb6.out.mono (by omega))))
        clear hown6 hgr6 hat6 HLs HHs hcxc hlow Hb6
        go_wp2_with fail
        go_region_law ((first
          | (refine step_append_ints rfl (.tmp 46) (.tmp 47) rfl w6.heap.size v8 (U ++ [x]) rfl Hown8.out v6 D rfl (own_src (Hown6.out.below H8.out)) (by simp; omega) hz8 ?_
             intro v9 w9 hown9 hgr9 hat9
             have Hown9 := hide hown9
             have H9 : Hid (Below w6.heap.size w6 w9) := Below.grown H8.out hgr9 hz8 (fun k' hk' => (own_lt Hown8.out k' hk').1)
             clear hown9 hgr9 hat9)
          | (first | refine step_append_ints rfl (.tmp 40) (.tmp 45) rfl w6.heap.size v7 U rfl ?_ (.slice (some ⟨w7.heap.size, 0, none⟩) 1 1) [x] rfl (src_one ?_) (by simp; omega) ?_ ?_ | refine step_append_ints rfl (.tmp 40) (.tmp 45) rfl w6.heap.size v7 U rfl ?_ (.slice (some ⟨w6.heap.size, 0, none⟩) 1 1) [x] rfl (src_one ?_) (by simp; omega) ?_ ?_ | refine step_append_ints rfl (.tmp 40) (.tmp 45) rfl w6.heap.size v7 U rfl ?_ (.slice (some ⟨w6.heap.size + 1, 0, none⟩) 1 1) [x] rfl (src_one ?_) (by simp; omega) ?_ ?_
             · first | exact Hown7.out | exact OwnI.below Hown7.out (below1 _ _)
             · first | exact cell_new 0 rfl | exact (hgr7.cell_far ⟨w6.heap.size, 0, none⟩ (by simp; omega) (by simp [Value.ownBlock])).trans (cell_s2 _ _ _ _) | exact (hgr7.cell_far ⟨w6.heap.size + 1, 0, none⟩ (by first | (simp; done) | (simp; omega)) (by simp [Value.ownBlock])).trans (cell_s3 _ _ _ _)
             · first | exact hz7 | (simp; omega)
             intro v8 w8 hown8 hgr8 hat8
             have Hown8 := hide hown8
             have H8 : Hid (Below w6.heap.size w6 w8) := by
               refine Below.grown ?_ hgr8 (by first | exact hz7 | (simp; omega)) (fun k' hk' => (own_lt Hown7.out k' hk').1)
               repeat' (first | with_reducible exact Hid.out ‹Hid (Below _ _ _)› | with_reducible exact Below.refl _ _ | (with_reducible refine Below.drew ?_) | (refine Below.alloc ?_ ?_ _; rotate_left; focus (first | omega | (simp; omega) | (simp; done))))
             have hz8 := H8.out.size
             clear hown8 hgr8 hat8)
          | (first | refine step_append_ints rfl (.tmp 36) (.tmp 39) rfl w6.heap.size (.slice (some ⟨w6.heap.size, 0, none⟩) 0 0) [] rfl ?_ (.slice ha hn hcp) U rfl (HH6.out _ ?_) (by simp; omega) ?_ ?_ | refine step_append_ints rfl (.tmp 36) (.tmp 39) rfl w6.heap.size (.slice (some ⟨w6.heap.size + 1, 0, none⟩) 0 0) [] rfl ?_ (.slice ha hn hcp) U rfl (HH6.out _ ?_) (by simp; omega) ?_ ?_
             · exact OwnI.newAt (by first | exact new_s1 _ _ | exact new_s2 _ _ _ | exact new_s3 _ _ _) (by omega)
             · repeat' (first | with_reducible exact Hid.out ‹Hid (Below _ _ _)› | with_reducible exact Below.refl _ _ | (with_reducible refine Below.drew ?_) | (refine Below.alloc ?_ ?_ _; rotate_left; focus (first | omega | (simp; omega) | (simp; done))))
             · first | (simp; done) | (simp; omega)
             intro v7 w7 hown7 hgr7 hat7
             have Hown7 : Hid (OwnI w6.heap.size w7 v7 U) := by simpa [Hid] using hown7
             have H7 : Hid (Below w6.heap.size w6 w7) := by
               refine Below.grown ?_ hgr7 (by first | (simp; done) | (simp; omega)) (fun k' hk' => by simp [Value.ownBlock] at hk'; omega)
               repeat' (first | with_reducible exact Hid.out ‹Hid (Below _ _ _)› | with_reducible exact Below.refl _ _ | (with_reducible refine Below.drew ?_) | (refine Below.alloc ?_ ?_ _; rotate_left; focus (first | omega | (simp; omega) | (simp; done))))
             have hz7 := H7.out.size
             have hcx7 : w7.cell? ⟨b, off + k, none⟩ = some (.int .i64 x) := by rw [H7.out.cell (p := ⟨b, off + k, none⟩) hbl6]; exact hcx6
             have hbl7 : b < w7.heap.size := by omega
             clear hown7 hat7)))
        all_goals
          go_wp2_with fail
          go_roundw
          case rel => exact ⟨k + 1, by omega, by go_num, by rw [Hst.out, Hr1.out]; exact own_base Hown9.out (by omega), Hbf.out.trans (H9.out.mono (by omega))⟩
          case measure => simp [intOf]; omega
    · have hk2 : k = l.length := by omega
      subst hk2
      rw [List.take_length] at hown
      go_wp2_with fail
      go_ret
      exact ⟨_, rfl, hown, hb⟩

end Go.Proofs.Ytppeedpmofimhaa
