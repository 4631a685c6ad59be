/- The document's FirstVars. -/
import Derived.Test.YtppeedpmofimhaaVars3
import Derived.Test.YtppeedpmofimhaaNums
namespace Go.Proofs.Ytppeedpmofimhaa
open Go.RowKit

/-- A list of numbers of the call's own, read. -/
theorem own_ints {w : World} {base : Nat} {v : Value} {zs : List Int} (h : w.ownsRow base 3 1 v zs.length (zs.map (Value.int .i64))) : ∃ a cap, v = .slice a zs.length cap ∧ Ints w zs a ∧ zs.length ≤ cap := by
  rcases h.2 with ⟨rfl, h0⟩ | ⟨g, cap, cur, rfl, hb, hg, hc, hm, hs, ht⟩
  · exact ⟨none, 0, by rw [h0], Or.inl (List.length_eq_zero_iff.1 h0), by omega⟩
  · refine ⟨some ⟨g, 0, none⟩, cap, rfl, Or.inr ⟨g, 0, rfl, fun i hi => ?_⟩, hc⟩
    have e1 : cur[i]? = some (.int .i64 (zs.getD i 0)) := by
      have : (cur.toList.take (zs.length * 1))[i]? = some (.int .i64 (zs.getD i 0)) := by rw [ht]; simp [List.getD, hi]
      rw [List.getElem?_take_of_lt (by omega)] at this
      simpa using this
    simp only [World.cell?, hg, Nat.zero_add]
    simp [e1]

set_option maxRecDepth 100000 in
set_option maxHeartbeats 1000000 in
theorem firstVars_any (ts : List T) (a : Option Addr) (cap : Nat) (w : World) (h1000 : T.sz.szL ts ≤ 1000) (hin : InL w ts a) :
    Calls Try.prog 17 #[.slice a ts.length cap] w fun e w' => ∃ v, e = .returned v ∧ w'.ownsRow w.heap.size 3 1 v (firstVars ts).length ((firstVars ts).map (Value.int .i64)) ∧ Below w.heap.size w w' := by
  obtain ⟨i, hi, hzz⟩ := Option.map_eq_some_iff.1 Try.info3
  simp only [Prod.mk.injEq] at hzz
  obtain ⟨hz0, hz1, hz2⟩ := hzz
  go_enter Try.func17, Try.ntmps17
  go_wp2_with fail
  go_loopw [3, 4] (fun l j wr => ∃ k : Nat, k ≤ ts.length ∧ j = .int .i64 k ∧ wr.ownsRow w.heap.size 3 1 l (firstVars (ts.take k)).length ((firstVars (ts.take k)).map (Value.int .i64)) ∧ Below w.heap.size w wr) (fun _ j _ => ts.length - (intOf j).toNat)
  case atStart => exact ⟨0, Nat.zero_le _, rfl, ⟨rfl, Or.inl ⟨rfl, rfl⟩⟩, Below.refl _ _⟩
  case round =>
    obtain ⟨k, hk, rfl, hown, hb⟩ := hrel
    have hlts : ts.length ≤ 1000 := Nat.le_trans (T.length_le ts) h1000
    by_cases hlt : k < ts.length
    · obtain ⟨b, off, rfl⟩ := InP_some hin (by omega)
      obtain ⟨x, hx⟩ : ∃ x, ts[k]? = some x := ⟨ts[k], List.getElem?_eq_getElem hlt⟩
      obtain ⟨a1, cap1, _, k0, k1, k2, hinx⟩ := InP_at (InP_below hb hin) hx
      have hxsz : x.sz ≤ 1000 := by have := T.szL_mem (List.mem_of_getElem? hx); omega
      have Hst := hide (firstVars_step hx)
      have Hx := hide hx
      have hflen : (firstVars (ts.take (k + 1))).length ≤ 1000 := by
        have h1 := firstVars_length (ts.take (k + 1))
        have h2 : T.sz.szL (ts.take (k + 1)) ≤ T.sz.szL ts := by
          have h3 := T.szL_append (ts.take (k + 1)) (ts.drop (k + 1))
          rw [List.take_append_drop] at h3; omega
        omega
      have Hflen := hide hflen
      have Hown := hide hown
      have hzr := hb.size
      have Hb := hide hb
      clear hown hx hflen hb
      go_wp2_with fail
      refine (parts_one x a1 cap1 _ hxsz hinx).mono ?_
      rintro e w2 ⟨g, cap2, rfl, hg1, hg2, hcells, hb2⟩
      have hz2' := hb2.size
      have Hcells := hide hcells
      have Hplen := hide ((parts_length _).1 x (Nat.le_refl _))
      have Hown2 := hide (own_same Hown.out (w' := w2) (fun g' hg' => hb2.block g' (own_lt Hown.out g' hg').2))
      have Hbw2 := hide (Hb.out.trans (hb2.mono hzr))
      have hlb : ∀ g', u3.ownBlock = some g' → w.heap.size ≤ g' := fun g' hg' => (own_lt Hown.out g' hg').1
      have hne : u3.ownBlock ≠ some g := fun e => by have := (own_lt Hown.out g e).2; omega
      obtain ⟨hs1, hs2⟩ := szL_take Hx.out
      have hxe := T.sz_eq x
      have hfk := firstVars_length (ts.take k)
      have hz2s : w.heap.size ≤ w2.heap.size := by omega
      clear hcells k0 k1 k2 hinx hb2
      go_wp2_with fail
      go_loopw [3, 6] (fun l2 j wi => ∃ m : Nat, m ≤ x.sz ∧ j = .int .i64 m ∧ wi.ownsRow w.heap.size 3 1 l2 (((parts x).take m).foldl firstStep (firstVars (ts.take k))).length ((((parts x).take m).foldl firstStep (firstVars (ts.take k))).map (Value.int .i64)) ∧ Grw w2 wi u3.ownBlock l2.ownBlock) (fun _ j _ => x.sz - (intOf j).toNat)
      case atStart => exact ⟨0, Nat.zero_le _, rfl, Hown2.out, Grw.refl _ _⟩
      case round =>
        obtain ⟨m, hm, rfl, hown3, hgrw⟩ := hrel
        have hzw := hgrw.gr.size
        have hfm := first_length ((parts x).take m) (firstVars (ts.take k))
        have htm : ((parts x).take m).length ≤ m := by rw [List.length_take]; omega
        obtain ⟨zs, hzs⟩ : ∃ zs, zs = ((parts x).take m).foldl firstStep (firstVars (ts.take k)) := ⟨_, rfl⟩
        rw [← hzs] at hown3 hfm
        by_cases hltm : m < x.sz
        · have hzl : zs.length + 1 ≤ 1000 := by omega
          obtain ⟨p, hp⟩ : ∃ p, (parts x)[m]? = some p := ⟨(parts x)[m]'(by rw [Hplen.out]; exact hltm), List.getElem?_eq_getElem _⟩
          obtain ⟨a5, cap5, c0, _, _⟩ := Hcells.out m p hp
          have c0' : wr.cell? ⟨g, m * 3, none⟩ = some (.int .i64 p.v) := by
            rw [World.cell?_of_block (w := w2) (a := ⟨g, m * 3, none⟩) (hgrw.gr.block g hg2 (fun e => hne e.symm))]; exact c0
          have Hstep : Hid (((parts x).take (m + 1)).foldl firstStep (firstVars (ts.take k)) = firstStep zs p) := by
            show _ = _
            rw [first_take _ hp, hzs]
          obtain ⟨va, vc, rfl, hints, hvc⟩ := own_ints hown3
          have Hown3 := hide hown3
          have Hgrw := hide hgrw
          have HH := hide (has_any zs va vc p.v wr hints (by omega))
          have hm3 : m ≤ 1000 := by omega
          clear hown3 hgrw hp c0 hzs hints
          by_cases hv : 0 < p.v
          · by_cases hmem : p.v ∈ zs
            · have Hsame : Hid (firstStep zs p = zs) := by
                show _ = _
                rw [firstStep, if_neg (fun h => h.2 hmem)]
              rw [decide_eq_true hmem] at HH
              clear hmem
              go_wp2_with fail
              refine HH.out.mono ?_
              rintro e w' ⟨rfl, rfl⟩
              go_wp2_with fail
              go_roundw
              case rel => exact ⟨m + 1, by omega, by go_num, by rw [Hstep.out, Hsame.out]; exact Hown3.out, Hgrw.out⟩
              case measure => simp [intOf]; omega
            · have Hsame : Hid (firstStep zs p = zs ++ [p.v]) := by
                show _ = _
                rw [firstStep, if_pos ⟨hv, hmem⟩]
              rw [decide_eq_false hmem] at HH
              have HO := hide (fun o1 => own_same Hown3.out (w' := wr.alloc o1) (fun g' hg' => (below1 wr o1).block g' (own_lt Hown3.out g' hg').2))
              clear hmem
              go_wp2_with fail
              refine HH.out.mono ?_
              rintro e w' ⟨rfl, hw'⟩
              obtain rfl := hw'.symm
              go_wp2_with (at_builtin; go_must (refine wpList_append_lies _ rfl (.tmp 40) (.tmp 46) 22 rfl w.heap.size 3 i (.int .i64 0) 1 8 Try.underlying22 hi hz0 hz1 hz2 rfl (by decide) (.slice va zs.length vc) zs.length (zs.map (Value.int .i64)) rfl (HO.out _) ⟨wr.heap.size, 0, none⟩ 1 1 [.int .i64 p.v] rfl rfl (one_new (by first | rfl | simp)) (by simp [Value.oneCell']) (by decide) (by unfold maxLen; omega) (by omega) (by simp; omega) _ rfl ?_))
              intro g' cap' w3 hown4 hgr hat hlt'
              have Hown4 := hide hown4
              have Hgr4 : Hid (Grw w2 w3 _ (Value.slice (some ⟨g', 0, none⟩) (zs.length + 1) cap').ownBlock) := Hgrw.out.trans ((Grw.of_below _ (below1 _ _)).trans ⟨hgr, by
                rcases hat with hat | hat
                · exact Or.inl hat.symm
                · exact Or.inr ⟨g', rfl, by rw [hat]; simp⟩⟩)
              clear hown4 hgr hat
              go_wp2_with fail
              go_roundw
              case rel => exact ⟨m + 1, by omega, by go_num, by rw [Hstep.out, Hsame.out, List.length_append, List.map_append]; exact Hown4.out, Hgr4.out⟩
              case measure => simp [intOf]; omega
          · have Hsame : Hid (firstStep zs p = zs) := by
              show _ = _
              rw [firstStep, if_neg (fun h => hv h.1)]
            clear HH
            go_wp2_with fail
            go_roundw
            case rel => exact ⟨m + 1, by omega, by go_num, by rw [Hstep.out, Hsame.out]; exact Hown3.out, Hgrw.out⟩
            case measure => simp [intOf]; omega
        · have hm2 : m = x.sz := by omega
          subst hm2
          have Hfin : Hid (firstVars (ts.take (k + 1)) = zs) := by
            show _ = _
            have e9 : (parts x).take x.sz = parts x := List.take_of_length_le (by rw [Hplen.out]; exact Nat.le_refl _)
            rw [Hst.out, hzs, e9]
          have Hown3 := hide hown3
          have Hbf := hide (Hbw2.out.trans (hgrw.below hz2s hlb))
          clear hown3 hgrw hzs
          go_wp2_with fail
          go_roundw
          case rel => exact ⟨k + 1, by omega, by go_num, by rw [Hfin.out]; exact Hown3.out, Hbf.out⟩
          case measure => simp [intOf]; omega
    · have hk2 : k = ts.length := by omega
      subst hk2
      rw [List.take_length] at hown
      go_wp2_with fail
      go_ret
      exact ⟨_, rfl, hown, hb⟩

end Go.Proofs.Ytppeedpmofimhaa
