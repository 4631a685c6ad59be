/- The document's FirstVars. Numbers appended to a list of the call's own: some, or none. Lists of lists of numbers, of the call's own; the numbers of each part's arguments, as the document tells them. The document's Rising. The document's ArgsOf. What variables are bound to, as a map of the program's own. The document's own Put. The document's own putting in. What lies there while a term's parts are added to the unifier, and what is added. What a term is, by the program. Clauses, as plain data and as they lie there; the program's Check of them. Does a clause hold, by which things its variables are: the program's closures. -/
import Derived.BigQuiet
import Derived.Deep.AppendLies
import Derived.Deep.CutBlock
import Derived.Deep.DeepCutAuto
import Derived.Deep.DrawnRows
import Derived.Deep.RegionHeld3
import Derived.Deep.RegionLaw
import Derived.Laws.AppendOwnNone
import Derived.Maps.AppendAt
import Derived.Test.YtbkedppkdhfpoabJoined3
namespace Go.Proofs.Ytbkedppkdhfpoab
open Go.RowKit

/-- A list of numbers of the call's own, read. -/
theorem own_ints {w : World} {base : Nat} {v : Value} {zs : List Int} (h : w.ownsRow base 3 1 v zs.length (zs.map (Value.int .i64))) : ∃ a cap, v = .slice a zs.length cap ∧ Ints w zs a ∧ zs.length ≤ cap := by
  rcases h.2 with ⟨rfl, h0⟩ | ⟨g, cap, cur, rfl, hb, hg, hc, hm, hs, ht⟩
  · exact ⟨none, 0, by rw [h0], Or.inl (List.length_eq_zero_iff.1 h0), by omega⟩
  · refine ⟨some ⟨g, 0, none⟩, cap, rfl, Or.inr ⟨g, 0, rfl, fun i hi => ?_⟩, hc⟩
    have e1 : cur[i]? = some (.int .i64 (zs.getD i 0)) := by
      have : (cur.toList.take (zs.length * 1))[i]? = some (.int .i64 (zs.getD i 0)) := by rw [ht]; simp [List.getD, hi]
      rw [List.getElem?_take_of_lt (by omega)] at this
      simpa using this
    simp only [World.cell?, hg, Nat.zero_add]
    simp [e1]

set_option maxRecDepth 100000 in
set_option maxHeartbeats 1000000 in
theorem firstVars_any (ts : List T) (a : Option Addr) (cap : Nat) (w : World) (h1000 : T.sz.szL ts ≤ 2000) (hin : InL w ts a) :
    Calls Try.prog 20 #[.slice a ts.length cap] w fun e w' => ∃ v, e = .returned v ∧ w'.ownsRow w.heap.size 3 1 v (firstVars ts).length ((firstVars ts).map (Value.int .i64)) ∧ Below w.heap.size w w' := by
  obtain ⟨i, hi, hzz⟩ := Option.map_eq_some_iff.1 Try.info3
  simp only [Prod.mk.injEq] at hzz
  obtain ⟨hz0, hz1, hz2⟩ := hzz
  go_enter Try.func20, Try.ntmps20
  go_wp2_with fail
  go_loopw [3, 4] (fun l j wr => ∃ k : Nat, k ≤ ts.length ∧ j = .int .i64 k ∧ wr.ownsRow w.heap.size 3 1 l (firstVars (ts.take k)).length ((firstVars (ts.take k)).map (Value.int .i64)) ∧ Below w.heap.size w wr) (fun _ j _ => ts.length - (intOf j).toNat)
  case atStart => exact ⟨0, Nat.zero_le _, rfl, ⟨rfl, Or.inl ⟨rfl, rfl⟩⟩, Below.refl _ _⟩
  case round =>
    obtain ⟨k, hk, rfl, hown, hb⟩ := hrel
    have hlts : ts.length ≤ 2000 := Nat.le_trans (T.length_le ts) h1000
    by_cases hlt : k < ts.length
    · obtain ⟨b, off, rfl⟩ := InP_some hin (by omega)
      obtain ⟨x, hx⟩ : ∃ x, ts[k]? = some x := ⟨ts[k], List.getElem?_eq_getElem hlt⟩
      obtain ⟨a1, cap1, _, k0, k1, k2, hinx⟩ := InP_at (InP_below hb hin) hx
      have hxsz : x.sz ≤ 2000 := by have := T.szL_mem (List.mem_of_getElem? hx); omega
      have Hst := hide (firstVars_step hx)
      have Hx := hide hx
      have hflen : (firstVars (ts.take (k + 1))).length ≤ 2000 := by
        have h1 := firstVars_length (ts.take (k + 1))
        have h2 : T.sz.szL (ts.take (k + 1)) ≤ T.sz.szL ts := by
          have h3 := T.szL_append (ts.take (k + 1)) (ts.drop (k + 1))
          rw [List.take_append_drop] at h3; omega
        omega
      have Hflen := hide hflen
      have Hown := hide hown
      have hzr := hb.size
      have Hb := hide hb
      clear hown hx hflen hb
      go_wp2_with fail
      refine (parts_one x a1 cap1 _ hxsz hinx).mono ?_
      rintro e w2 ⟨g, cap2, rfl, hg1, hg2, hcells, hb2⟩
      have hz2' := hb2.size
      have Hcells := hide hcells
      have Hplen := hide ((parts_length _).1 x (Nat.le_refl _))
      have Hown2 := hide (own_same Hown.out (w' := w2) (fun g' hg' => hb2.block g' (own_lt Hown.out g' hg').2))
      have Hbw2 := hide (Hb.out.trans (hb2.mono hzr))
      have hlb : ∀ g', u3.ownBlock = some g' → w.heap.size ≤ g' := fun g' hg' => (own_lt Hown.out g' hg').1
      have hne : u3.ownBlock ≠ some g := fun e => by have := (own_lt Hown.out g e).2; omega
      obtain ⟨hs1, hs2⟩ := szL_take Hx.out
      have hxe := T.sz_eq x
      have hfk := firstVars_length (ts.take k)
      have hz2s : w.heap.size ≤ w2.heap.size := by omega
      clear hcells k0 k1 k2 hinx hb2
      go_wp2_with fail
      go_loopw [3, 6] (fun l2 j wi => ∃ m : Nat, m ≤ x.sz ∧ j = .int .i64 m ∧ wi.ownsRow w.heap.size 3 1 l2 (((parts x).take m).foldl firstStep (firstVars (ts.take k))).length ((((parts x).take m).foldl firstStep (firstVars (ts.take k))).map (Value.int .i64)) ∧ Grw w2 wi u3.ownBlock l2.ownBlock) (fun _ j _ => x.sz - (intOf j).toNat)
      case atStart => exact ⟨0, Nat.zero_le _, rfl, Hown2.out, Grw.refl _ _⟩
      case round =>
        obtain ⟨m, hm, rfl, hown3, hgrw⟩ := hrel
        have hzw := hgrw.gr.size
        have hfm := first_length ((parts x).take m) (firstVars (ts.take k))
        have htm : ((parts x).take m).length ≤ m := by rw [List.length_take]; omega
        obtain ⟨zs, hzs⟩ : ∃ zs, zs = ((parts x).take m).foldl firstStep (firstVars (ts.take k)) := ⟨_, rfl⟩
        rw [← hzs] at hown3 hfm
        by_cases hltm : m < x.sz
        · have hzl : zs.length + 1 ≤ 2000 := by omega
          obtain ⟨p, hp⟩ : ∃ p, (parts x)[m]? = some p := ⟨(parts x)[m]'(by rw [Hplen.out]; exact hltm), List.getElem?_eq_getElem _⟩
          obtain ⟨a5, cap5, c0, _, _⟩ := Hcells.out m p hp
          have c0' : wr.cell? ⟨g, m * 3, none⟩ = some (.int .i64 p.v) := by
            rw [World.cell?_of_block (w := w2) (a := ⟨g, m * 3, none⟩) (hgrw.gr.block g hg2 (fun e => hne e.symm))]; exact c0
          have Hstep : Hid (((parts x).take (m + 1)).foldl firstStep (firstVars (ts.take k)) = firstStep zs p) := by
            show _ = _
            rw [first_take _ hp, hzs]
          obtain ⟨va, vc, rfl, hints, hvc⟩ := own_ints hown3
          have Hown3 := hide hown3
          have Hgrw := hide hgrw
          have HH := hide (has_any zs va vc p.v wr hints (by omega))
          have hm3 : m ≤ 2000 := by omega
          clear hown3 hgrw hp c0 hzs hints
          by_cases hv : 0 < p.v
          · by_cases hmem : p.v ∈ zs
            · have Hsame : Hid (firstStep zs p = zs) := by
                show _ = _
                rw [firstStep, if_neg (fun h => h.2 hmem)]
              rw [decide_eq_true hmem] at HH
              clear hmem
              go_wp2_with fail
              refine HH.out.mono ?_
              rintro e w' ⟨rfl, rfl⟩
              go_wp2_with fail
              go_roundw
              case rel => exact ⟨m + 1, by omega, by go_num, by rw [Hstep.out, Hsame.out]; exact Hown3.out, Hgrw.out⟩
              case measure => simp [intOf]; omega
            · have Hsame : Hid (firstStep zs p = zs ++ [p.v]) := by
                show _ = _
                rw [firstStep, if_pos ⟨hv, hmem⟩]
              rw [decide_eq_false hmem] at HH
              have HO := hide (fun o1 => own_same Hown3.out (w' := wr.alloc o1) (fun g' hg' => (below1 wr o1).block g' (own_lt Hown3.out g' hg').2))
              clear hmem
              go_wp2_with fail
              refine HH.out.mono ?_
              rintro e w' ⟨rfl, hw'⟩
              obtain rfl := hw'.symm
              go_wp2_with (at_builtin; go_must (refine wpList_append_lies _ rfl (.tmp 40) (.tmp 46) 22 rfl w.heap.size 3 i (.int .i64 0) 1 8 Try.underlying22 hi hz0 hz1 hz2 rfl (by decide) (.slice va zs.length vc) zs.length (zs.map (Value.int .i64)) rfl (HO.out _) ⟨wr.heap.size, 0, none⟩ 1 1 [.int .i64 p.v] rfl rfl (one_new (by first | rfl | simp)) (by simp [Value.oneCell']) (by decide) (by unfold maxLen; omega) (by omega) (by simp; omega) _ rfl ?_))
              intro g' cap' w3 hown4 hgr hat hlt'
              have Hown4 := hide hown4
              have Hgr4 : Hid (Grw w2 w3 _ (Value.slice (some ⟨g', 0, none⟩) (zs.length + 1) cap').ownBlock) := Hgrw.out.trans ((Grw.of_below _ (below1 _ _)).trans ⟨hgr, by
                rcases hat with hat | hat
                · exact Or.inl hat.symm
                · exact Or.inr ⟨g', rfl, by rw [hat]; simp⟩⟩)
              clear hown4 hgr hat
              go_wp2_with fail
              go_roundw
              case rel => exact ⟨m + 1, by omega, by go_num, by rw [Hstep.out, Hsame.out, List.length_append, List.map_append]; exact Hown4.out, Hgr4.out⟩
              case measure => simp [intOf]; omega
          · have Hsame : Hid (firstStep zs p = zs) := by
              show _ = _
              rw [firstStep, if_neg (fun h => hv h.1)]
            clear HH
            go_wp2_with fail
            go_roundw
            case rel => exact ⟨m + 1, by omega, by go_num, by rw [Hstep.out, Hsame.out]; exact Hown3.out, Hgrw.out⟩
            case measure => simp [intOf]; omega
        · have hm2 : m = x.sz := by omega
          subst hm2
          have Hfin : Hid (firstVars (ts.take (k + 1)) = zs) := by
            show _ = _
            have e9 : (parts x).take x.sz = parts x := List.take_of_length_le (by rw [Hplen.out]; exact Nat.le_refl _)
            rw [Hst.out, hzs, e9]
          have Hown3 := hide hown3
          have Hbf := hide (Hbw2.out.trans (hgrw.below hz2s hlb))
          clear hown3 hgrw hzs
          go_wp2_with fail
          go_roundw
          case rel => exact ⟨k + 1, by omega, by go_num, by rw [Hfin.out]; exact Hown3.out, Hbf.out⟩
          case measure => simp [intOf]; omega
    · have hk2 : k = ts.length := by omega
      subst hk2
      rw [List.take_length] at hown
      go_wp2_with fail
      go_ret
      exact ⟨_, rfl, hown, hb⟩

end Go.Proofs.Ytbkedppkdhfpoab

namespace Go.Proofs.Ytbkedppkdhfpoab
open Go.RowKit

/-- What is appended: nothing, or the numbers that lie at an address. -/
def SrcI (w : World) (x : Value) (zs : List Int) : Prop :=
  (x = .slice none 0 0 ∧ zs = []) ∨ ∃ b off c, x = .slice (some ⟨b, off, none⟩) zs.length c ∧ ∀ j, j < zs.length → w.cell? ⟨b, off + j, none⟩ = some (.int .i64 (zs.getD j 0))

/-- A list of numbers of the call's own. -/
abbrev OwnI (base : Nat) (w : World) (v : Value) (zs : List Int) : Prop := w.ownsRow base 3 1 v zs.length (zs.map (Value.int .i64))

theorem run_append_ints {w : World} {base : Nat} {v x : Value} {ys zs : List Int} (ty : TypeId) (hown : OwnI base w v ys) (hx : SrcI w x zs) (hl : ys.length + zs.length ≤ 2000) (hbase : base ≤ w.heap.size) :
    ∃ v' w', (Builtin.append_ #[22, 22] ty #[v, x]).run Try.prog w = .ok v' w' ∧ OwnI base w' v' (ys ++ zs) ∧ w.grownBy w' v.ownBlock ∧ (v'.ownBlock = v.ownBlock ∨ v'.ownBlock = some w.heap.size) := by
  obtain ⟨i, hi, hzz⟩ := Option.map_eq_some_iff.1 Try.info3
  simp only [Prod.mk.injEq] at hzz
  obtain ⟨hz0, hz1, hz2⟩ := hzz
  rcases hx with ⟨rfl, rfl⟩ | ⟨b, off, c, rfl, hc⟩
  · rw [List.append_nil]
    exact ⟨v, w, run_append_owned_none (P := Try.prog) w base 22 ty 3 i 1 Try.underlying22 hi _ _ _ hown, hown, ⟨rfl, rfl, rfl, Nat.le_refl _, fun _ _ _ => rfl⟩, Or.inl rfl⟩
  · obtain ⟨v', w', hr, h2, h3, _, h5⟩ := run_append_own_at (P := Try.prog) w base 22 ty 3 i (.int .i64 0) 1 8 Try.underlying22 hi hz0 hz1 hz2 rfl (by decide) v ys.length (ys.map (Value.int .i64)) hown ⟨b, off, none⟩ zs.length c (zs.map (Value.int .i64)) (by simp) (fun j u hu => by
        have hj : j < zs.length := by
          rcases Nat.lt_or_ge j zs.length with h | h
          · exact h
          · rw [List.getElem?_eq_none (by simpa using h)] at hu; cases hu
        have e : (⟨b, off, none⟩ : Addr).add j = ⟨b, off + j, none⟩ := by simp [Addr.add]
        rw [e, hc j hj]
        rw [List.getElem?_map, List.getElem?_eq_getElem hj] at hu
        rw [List.getD_eq_getElem?_getD, List.getElem?_eq_getElem hj]
        exact hu) (fun u hu => by
        obtain ⟨z, _, rfl⟩ := List.mem_map.1 hu
        rfl) (by unfold maxLen; omega) (by omega) hbase
    have h2' : OwnI base w' v' (ys ++ zs) := by
      show w'.ownsRow base 3 1 v' (ys ++ zs).length ((ys ++ zs).map (Value.int .i64))
      rw [List.length_append, List.map_append]; exact h2
    exact ⟨v', w', hr, h2', h3, h5⟩

theorem wp_append_ints {w : World} {o : Oper} {a : Act} {K : Act → World → Prop} {Q : Exit → Act → World → Prop} (s x : Operand) (ho : o.op = .call { callee := .builtin .append, args := #[s, x], argTypes := #[22, 22] })
    (base : Nat) (v : Value) (ys : List Int) (hs : a.eval s = v) (hown : OwnI base w v ys) (xv : Value) (zs : List Int) (hx : a.eval x = xv) (hsrc : SrcI w xv zs) (hl : ys.length + zs.length ≤ 2000) (hbase : base ≤ w.heap.size)
    (h : ∀ v' w', OwnI base w' v' (ys ++ zs) → w.grownBy w' v.ownBlock → (v'.ownBlock = v.ownBlock ∨ v'.ownBlock = some w.heap.size) → K (a.put o.dst v') w') : o.wp Try.prog a w K Q := by
  obtain ⟨v', w', hr, h2, h3, h4⟩ := run_append_ints o.type hown hsrc hl hbase
  unfold Oper.wp execOp
  simp only [ho, resolve, invoke, builtin, Sem.run_bind, Sem.run_pure, Result.andThen_ok, List.map_toArray, List.map_cons, List.map_nil, hs, hx, hr]
  exact h v' w' h2 h3 h4
theorem wpList_append_ints {w : World} {ops : Array Oper} {rest : List Oper} {o : Oper} {a : Act} {Q : Exit → Act → World → Prop} (hgd : o.guard = none) (s x : Operand) (ho : o.op = .call { callee := .builtin .append, args := #[s, x], argTypes := #[22, 22] })
    (base : Nat) (v : Value) (ys : List Int) (hs : a.eval s = v) (hown : OwnI base w v ys) (xv : Value) (zs : List Int) (hx : a.eval x = xv) (hsrc : SrcI w xv zs) (hl : ys.length + zs.length ≤ 2000) (hbase : base ≤ w.heap.size)
    (h : ∀ v' w', OwnI base w' v' (ys ++ zs) → w.grownBy w' v.ownBlock → (v'.ownBlock = v.ownBlock ∨ v'.ownBlock = some w.heap.size) → wpList Try.prog ops Q rest (a.put o.dst v') w') : wpList Try.prog ops Q (o :: rest) a w :=
  wpList_plain hgd fun _ hK => wp_append_ints s x ho base v ys hs hown xv zs hx hsrc hl hbase fun v' w' h2 h3 h4 => hK _ _ (h v' w' h2 h3 h4)
/-- A list of the call's own can be appended to another one. -/
theorem own_src {base : Nat} {w : World} {v : Value} {zs : List Int} (h : OwnI base w v zs) : SrcI w v zs := by
  have hints := own_ints h
  rcases h.2 with ⟨rfl, h0⟩ | ⟨g, cap, cur, rfl, hb, hg, hc, hm, hs, ht⟩
  · exact Or.inl ⟨rfl, List.length_eq_zero_iff.1 h0⟩
  · refine Or.inr ⟨g, 0, cap, rfl, fun j hj => ?_⟩
    obtain ⟨a', cap', he, hI, _⟩ := hints
    simp only [Value.slice.injEq, true_and] at he
    obtain ⟨rfl, rfl⟩ := he
    obtain ⟨b, off, he, hcell⟩ := Ints_some hI (by omega)
    simp only [Option.some.injEq, Addr.mk.injEq, and_true] at he
    obtain ⟨rfl, rfl⟩ := he
    exact hcell j hj
end Go.Proofs.Ytbkedppkdhfpoab

namespace Go.Proofs.Ytbkedppkdhfpoab
open Go.RowKit

/-- Numbers that lie one behind the other in a block of which p holds. -/
def IP (p : Nat → Prop) (w : World) (l : List Int) (a : Option Addr) : Prop := l = [] ∨ ∃ b off, a = some ⟨b, off, none⟩ ∧ p b ∧ ∀ i, i < l.length → w.cell? ⟨b, off + i, none⟩ = some (.int .i64 (l.getD i 0))
theorem OwnI.ip {base : Nat} {w : World} {v : Value} {l : List Int} (h : OwnI base w v l) : ∃ a cap, v = .slice a l.length cap ∧ IP (fun k => v.ownBlock = some k) w l a := by
  have hi := own_ints h
  rcases h.2 with ⟨rfl, h0⟩ | ⟨g, cap, cur, rfl, hb, hg, hc, hm, hs, ht⟩
  · exact ⟨none, 0, by rw [h0], Or.inl (List.length_eq_zero_iff.1 h0)⟩
  · obtain ⟨a', cap', he, hI, _⟩ := hi
    simp only [Value.slice.injEq, true_and] at he
    obtain ⟨rfl, rfl⟩ := he
    refine ⟨_, _, rfl, ?_⟩
    rcases hI with hI | ⟨b, off, he, hcell⟩
    · exact Or.inl hI
    · simp only [Option.some.injEq, Addr.mk.injEq, and_true] at he
      obtain ⟨rfl, rfl⟩ := he
      exact Or.inr ⟨g, 0, rfl, rfl, hcell⟩

/-- A cell a row, and the row's numbers. -/
def RK (p : Nat → Prop) (w : World) : List (List Int) → List Value → Prop
  | [], cs => cs = []
  | l :: ls, cs => ∃ a cap rest, cs = .slice a l.length cap :: rest ∧ IP p w l a ∧ RK p w ls rest
theorem RK_at {p : Nat → Prop} {w : World} {ls : List (List Int)} : ∀ {cs : List Value} {k : Nat} {l : List Int}, RK p w ls cs → ls[k]? = some l → ∃ a cap, cs[k]? = some (.slice a l.length cap) ∧ IP p w l a := by
  induction ls with
  | nil => intro cs k l _ h; simp at h
  | cons m ls ih =>
    intro cs k l h hk
    obtain ⟨a, cap, rest, rfl, h0, h⟩ := h
    cases k with
    | zero => simp at hk; subst hk; exact ⟨a, cap, rfl, h0⟩
    | succ k =>
      obtain ⟨a2, cap2, g1, g2⟩ := ih (k := k) h (by simpa using hk)
      exact ⟨a2, cap2, by simpa using g1, g2⟩
end Go.Proofs.Ytbkedppkdhfpoab

namespace Go.Proofs.Ytbkedppkdhfpoab
open Go.RowKit

theorem OwnI.same {base : Nat} {w w' : World} {v : Value} {zs : List Int} (h : OwnI base w v zs) (hs : ∀ g, v.ownBlock = some g → w'.heap[g]? = w.heap[g]?) : OwnI base w' v zs := own_same h hs
theorem OwnI.below {base : Nat} {w w' : World} {v : Value} {zs : List Int} (h : OwnI base w v zs) (hb : Below w.heap.size w w') : OwnI base w' v zs := own_same h (fun g hg => hb.block g (own_lt h g hg).2)
theorem OwnI.grown {base : Nat} {w w' : World} {v : Value} {r : Option Nat} {zs : List Int} (h : OwnI base w v zs) (hg : w.grownBy w' r) (hne : v.ownBlock = none ∨ v.ownBlock ≠ r) : OwnI base w' v zs := own_same h (fun g hg' => hg.block g (own_lt h g hg').2 (fun e => by
  rcases hne with h1 | h1
  · rw [h1] at hg'; cases hg'
  · exact h1 (hg'.trans e)))
theorem OwnI.new {base : Nat} {w : World} {n : Nat} (hn : n = w.heap.size) (hb : base ≤ w.heap.size) : OwnI base (w.alloc (.cells #[] 3)) (.slice (some ⟨n, 0, none⟩) 0 0) [] := by
  subst hn
  exact World.ownsRow_lit (base := base) (e := 3) (size := 1) w #[] 0 hb (by decide) (by simp)

end Go.Proofs.Ytbkedppkdhfpoab

namespace Go.Proofs.Ytbkedppkdhfpoab
open Go.RowKit

theorem own_cells1 {w : World} {base n : Nat} {v : Value} {xs : List Value} (h : w.ownsRow base 22 1 v n xs) (hn : 0 < n) : ∃ g cap, v = .slice (some ⟨g, 0, none⟩) n cap ∧ base ≤ g ∧ g < w.heap.size ∧ (∀ j u, xs[j]? = some u → w.cell? ⟨g, j, none⟩ = some u) ∧ ∀ j, w.frozen? ⟨g, j, none⟩ = false := by
  rcases h.2 with ⟨_, h0⟩ | ⟨g, cap, cur, rfl, hb, hg, hc, hm, hs, ht⟩
  · omega
  refine ⟨g, cap, rfl, hb, ?_, fun j u hu => ?_, fun j => by simp [World.frozen?, hg]⟩
  · rcases Nat.lt_or_ge g w.heap.size with h | h
    · exact h
    · rw [Array.getElem?_eq_none h] at hg; cases hg
  · have hj : j < xs.length := by
      rcases Nat.lt_or_ge j xs.length with h | h
      · exact h
      · rw [List.getElem?_eq_none h] at hu; cases hu
    have e1 : cur[j]? = some u := by
      have h2 : (cur.toList.take (n * 1))[j]? = some u := by rw [ht]; exact hu
      rw [List.getElem?_take_of_lt (by have := h.1; omega)] at h2
      simpa using h2
    simp [World.cell?, hg, e1]

end Go.Proofs.Ytbkedppkdhfpoab

namespace Go.Proofs.Ytbkedppkdhfpoab
open Go.RowKit Go.Maps

/-- 'm[k] = v' at the operation. -/
theorem wpList_store_map (w : World) {ops : Array Oper} {rest : List Oper} {o : Oper} {a : Act} {Q : Exit → Act → World → Prop} (hg : o.guard = none) (m x v : Operand) (t : TypeId) (hop : o.op = Op.mapUpdate t m x v)
    (e : TypeId) (ht : Try.prog.underlying t = some (.map 3 e)) (b n : Nat) (f : Int → Option Value) (hm : a.eval m = .map (some b)) (hM : MapAt w b n f) (hn : n < maxLen) (k : Int) (val : Value) (hx : a.eval x = .int .i64 k) (hv : a.eval v = val) (h0 : -9223372036854775808 ≤ k) (h1 : k ≤ 9223372036854775807)
    (hK : ∀ w', MapAt w' b (n + 1) (fun j => if j = k then some val else f j) → w.grownBy w' (some b) → wpList Try.prog ops Q rest (a.put o.dst undef) w') : wpList Try.prog ops Q (o :: rest) a w := by
  refine wpList_plain hg fun K' hK' => ?_
  obtain ⟨w', hrun, r1, r2⟩ := hM.store ht hn h0 h1 val
  unfold Oper.wp
  simp [execOp, hop, hm, hx, hv, hrun, Result.andThen]
  exact hK' _ _ (hK w' r1 r2)

end Go.Proofs.Ytbkedppkdhfpoab

namespace Go.Proofs.Ytbkedppkdhfpoab
open Go.RowKit

theorem below3 (w : World) (o1 o2 o3 : Obj) : Below w.heap.size w (((w.alloc o1).alloc o2).alloc o3) := (below2 w o1 o2).alloc (by simp; omega) o3

theorem Three.set2 {w : World} {b : Nat} {v0 v1 v2 : Value} (h : Three w b v0 v1 v2) (u : Value) : Three (w.setCell ⟨b, 2, none⟩ u) b v0 v1 u := by
  obtain ⟨c0, c1, c2, f0, f1, f2⟩ := h
  refine ⟨?_, ?_, World.cell?_setCell_same _ _ _ c2, ?_, ?_, ?_⟩
  · rw [World.cell?_setCell_other _ _ _ _ (by simp)]; exact c0
  · rw [World.cell?_setCell_other _ _ _ _ (by simp)]; exact c1
  · rw [World.frozen?_setCell]; exact f0
  · rw [World.frozen?_setCell]; exact f1
  · rw [World.frozen?_setCell]; exact f2
/-- Behind the append: what stands, and what the list now holds. -/
theorem app_facts {q : Nat → Prop} {B : Nat} {W3 w w6 : World} {l v0 v1 : Value} {ts : List T} {c : T} {xs : List Value} {a : Option Addr} {cap g cap2 : Nat} (hb : Below B W3 w) (h3 : Three w B v0 v1 l)
    (hown : w.ownsRow (B + 1) 28 3 l ts.length xs) (hk : Kids (fun k => (q k ∨ B + 1 ≤ k) ∧ l.ownBlock ≠ some k) w ts xs) (hq : ∀ k, q k → k < B) (hc : InP (fun k => (q k ∨ B + 1 ≤ k) ∧ l.ownBlock ≠ some k) w c.args a)
    (h6 : w6.ownsRow (B + 1) 28 3 (.slice (some ⟨g, 0, none⟩) (ts.length + 1) cap2) (ts.length + 1) (xs ++ [.int .i64 c.v, .int .i64 c.f, .slice a c.args.length cap])) (hg : w.grownBy w6 l.ownBlock) (hat : l.ownBlock = some g ∨ g = w.heap.size) :
    Three w6 B v0 v1 l ∧ (∀ u, Below B W3 (w6.setCell ⟨B, 2, none⟩ u)) ∧ (∀ u, Three (w6.setCell ⟨B, 2, none⟩ u) B v0 v1 u) ∧ ∀ u, Outs q (B + 1) (w6.setCell ⟨B, 2, none⟩ u) (.slice (some ⟨g, 0, none⟩) (ts.length + 1) cap2) (ts ++ [c]) := by
  have hz := h3.lt
  have hT : Three w6 B v0 v1 l := h3.same (hg.block B hz (fun e => by have := (own_lt hown B e.symm).1; omega))
  have hB : Below B W3 w6 := hb.grown hg (by omega) (fun k hk' => by have := (own_lt hown k hk').1; omega)
  exact ⟨hT, fun u => hB.setCell (p := ⟨B, 2, none⟩) (Nat.le_refl _) u, fun u => hT.set2 u, fun u => Outs_same (Outs_step hk hc h6 hg hat) (fun k hk' _ => Below.heap_setCell _ _ _ _ (by
    show k ≠ B
    rcases hk' with h | h
    · have := hq k h; omega
    · omega))⟩

attribute [local go_sem ↓] Go.wp_at_zero Go.wp_at_succ
end Go.Proofs.Ytbkedppkdhfpoab

namespace Go.Proofs.Ytbkedppkdhfpoab
open Go.RowKit

theorem okP_v {ar : List Int} {t : T} (h : okP ar t) : 0 ≤ t.v := by
  have h1 := (okP_iff.1 h).1
  rw [partErr] at h1
  by_cases hv : t.v = 0
  · omega
  · rw [if_pos hv] at h1
    by_cases h2 : t.v < 1 ∨ 1000 < t.v
    · rw [if_pos h2] at h1; cases h1
    · omega

attribute [local go_sem ↓] Go.wp_at_zero Go.wp_at_succ
end Go.Proofs.Ytbkedppkdhfpoab

namespace Go.Proofs.Ytbkedppkdhfpoab
open Go.RowKit Go.Maps

theorem Try.zeroI (w : World) : (zeroValue 3).run Try.prog w = .ok (.int .i64 0) w := by kernel_rfl
theorem MapAt.congr {w : World} {b n : Nat} {f g : Int → Option Value} (h : MapAt w b n f) (e : ∀ k, f k = g k) : MapAt w b n g := by
  have : f = g := funext e
  exact this ▸ h

end Go.Proofs.Ytbkedppkdhfpoab

namespace Go.Proofs.Ytbkedppkdhfpoab
open Go.RowKit

theorem Try.under81 : Try.prog.underlying 81 = some (.map 3 3) := by kernel_rfl
/-- A map that tells which thing each variable is. -/
def IsAt (w : World) (b m : Nat) (g : Int → Option Int) : Prop := MapAt w b m (fun k => (g k).map (Value.int .i64))
theorem IsAt.below {w w' : World} {b m : Nat} {g : Int → Option Int} (h : IsAt w b m g) (hb : Below w.heap.size w w') : IsAt w' b m g := MapAt.below h hb
theorem getD_int (g : Int → Option Int) (k : Int) : (((g k).map (Value.int .i64)).getD (.int .i64 0)) = .int .i64 ((g k).getD 0) := by cases g k <;> rfl
theorem ok_v {ar : List Int} {t : T} (h : okP ar t) (hv : t.v ≠ 0) : 1 ≤ t.v ∧ t.v ≤ 1000 := by
  have h1 := (okP_iff.1 h).1
  rw [partErr, if_pos hv] at h1
  by_cases h2 : t.v < 1 ∨ 1000 < t.v
  · rw [if_pos h2] at h1; cases h1
  · omega

attribute [local go_sem ↓] Go.wp_at_zero Go.wp_at_succ
set_option maxRecDepth 100000 in
set_option maxHeartbeats 1000000 in
theorem valueP_any {ar : List Int} {n : Int} {ls : List (List Int)} (hmo : MOk ar n ls) (ta : Option Addr) (tc b m : Nat) (g : Int → Option Int) (N : Nat) : ∀ (t : T) (a : Option Addr) (cap : Nat) (w : World), t.sz ≤ N → okP ar t → (∀ x, x ∈ parts t → x.v ≠ 0 → 0 ≤ (g x.v).getD 0 ∧ (g x.v).getD 0 < n) → IsAt w b m g → TabsP w ls ta → InL w t.args a →
    Calls Try.prog 45 #[.map (some b), .agg #[.int .i64 n, .slice ta ls.length tc], .agg #[.int .i64 t.v, .int .i64 t.f, .slice a t.args.length cap]] w fun e w' => e = .returned (.int .i64 (valT n ls (fun k => (g k).getD 0) t)) ∧ Below w.heap.size w w' := by
  induction N with
  | zero => intro t a cap w hN; have := t.sz_pos; omega
  | succ N ih =>
    intro t a cap w hN hok hf hM hT hin
    have Hih := hide ih
    have hte := T.sz_eq t
    have Hf := hide hf
    have Hok := hide hok
    have Hmo := hide hmo
    obtain ⟨W2, hW2⟩ : ∃ W2, W2 = (w.alloc (.cells #[.int .i64 n, .slice ta ls.length tc] 49)).alloc (.cells #[.int .i64 t.v, .int .i64 t.f, .slice a t.args.length cap] 28) := ⟨_, rfl⟩
    have hb2 : Below w.heap.size w W2 := by rw [hW2]; exact below2 _ _ _
    have hz2 : W2.heap.size = w.heap.size + 2 := by rw [hW2]; simp
    have cn : W2.cell? ⟨w.heap.size, 0, none⟩ = some (.int .i64 n) := by rw [hW2, cell_alloc_lt (by simp)]; exact cell_new 0 rfl
    have ct : W2.cell? ⟨w.heap.size, 1, none⟩ = some (.slice ta ls.length tc) := by rw [hW2, cell_alloc_lt (by simp)]; exact cell_new 1 rfl
    have h3 : Three W2 (w.heap.size + 1) (.int .i64 t.v) (.int .i64 t.f) (.slice a t.args.length cap) := by rw [hW2]; exact Three.new 28 (by simp)
    have HM := hide hM
    have HT := hide hT
    have Hin := hide hin
    have Hb2 := hide hb2
    have HW2 := hide hW2
    obtain ⟨Z, hZ⟩ : ∃ Z, Z = valT n ls (fun k => (g k).getD 0) t := ⟨_, rfl⟩
    rw [← hZ]
    have HZ := hide hZ
    clear ih hf hok hM hT hin hb2 hZ hmo
    by_cases hv : t.v ≠ 0
    · have hvb : (t.v != 0) = true := by simpa using hv
      have hvr := ok_v Hok.out hv
      have hlook := MapAt.look (MapAt.below HM.out Hb2.out) (t := 81) Try.under81 (Try.zeroI _) (k := t.v) (by omega) (by omega)
      rw [getD_int] at hlook
      have Hz : Hid (Z = (g t.v).getD 0) := by show _ = _; rw [HZ.out, valT_eq, if_pos hv]
      rw [hW2] at hlook
      rw [← Hz.out] at hlook
      clear hv hvr Hz HZ hW2 cn ct h3
      go_enter Try.func45, Try.ntmps45
      go_wp2_with fail
      go_ret
      exact ⟨rfl, below2 _ _ _⟩
    · have hv0 : t.v = 0 := by omega
      obtain ⟨l, hl, hf0, hf1, hlen, h3a, hall⟩ := Hmo.out.table Hok.out hv0
      have hvr := val_range (f := fun k => (g k).getD 0) Hmo.out (N + 1) t hN Hok.out Hf.out
      have Hvr := hide hvr.2
      have Hz : Hid (Z = l.getD (valT.rowL n ls (fun k => (g k).getD 0) t.args 0).toNat 0) := by
        show _ = _
        rw [HZ.out, valT_eq, if_neg hv]
        have e : ls.getD t.f.toNat [] = l := by rw [List.getD_eq_getElem?_getD, hl]; rfl
        rw [e]
      have hlo := Hmo.out.lo
      have hhi := Hmo.out.hi
      have HP := hide (powI_range hlo hhi)
      have hvb : (t.v != 0) = false := by simpa using hv0
      have Hl := hide hl
      have Hlen := hide hlen
      have Hall := hide hall
      have H3 := hide h3
      have Hcn := hide cn
      have Hct := hide ct
      rw [hW2] at h3
      obtain ⟨q0, q1, q2, _, _, _⟩ := h3
      clear hv hv0 hvr hl hlen hall HZ hW2 cn ct
      go_enter Try.func45, Try.ntmps45
      go_wp2_with fail
      rw [← HW2.out]
      go_loopw [7, 20] (fun r i wr => ∃ k : Nat, k ≤ t.args.length ∧ i = .int .i64 k ∧ r = .int .i64 (valT.rowL n ls (fun k => (g k).getD 0) (t.args.take k) 0) ∧ Hid (Below W2.heap.size W2 wr)) (fun _ i _ => t.args.length - (intOf i).toNat)
      case atStart => exact ⟨0, Nat.zero_le _, rfl, rfl, Below.refl _ _⟩
      case round =>
        obtain ⟨k, hk, rfl, rfl, Hbr⟩ := hrel
        have hzr := Hbr.out.size
        have Hbw := hide (Hb2.out.trans (Hbr.out.mono (by omega)))
        have hrk := Hvr.out k hk
        by_cases hlt : k < t.args.length
        · obtain ⟨ab, aoff, rfl⟩ := InP_some Hin.out (by omega)
          obtain ⟨x, hx⟩ : ∃ x, t.args[k]? = some x := ⟨t.args[k], List.getElem?_eq_getElem hlt⟩
          obtain ⟨a3, cap3, _, k0, k1, k2, hinx⟩ := InP_at (InP_below Hbw.out Hin.out) hx
          have hxm := List.mem_of_getElem? hx
          have hxs := T.szL_mem hxm
          have hxo := okL_mem.1 (okP_iff.1 Hok.out).2 x hxm
          have hxf := fun y hy => Hf.out y (parts_arg hxm hy)
          have hxr := (val_range (f := fun k => (g k).getD 0) Hmo.out x.sz x (Nat.le_refl _) hxo hxf).1
          have Hst := hide (rowL_step (n := n) (ls := ls) (f := fun k => (g k).getD 0) hx 0)
          have hp27 := (HP.out k).2.1 (by omega)
          obtain ⟨W3, hW3⟩ : ∃ W3, W3 = wr.alloc (.cells #[.int .i64 x.v, .int .i64 x.f, .slice a3 x.args.length cap3] 28) := ⟨_, rfl⟩
          have hb3 : Below wr.heap.size wr W3 := by rw [hW3]; exact below1 _ _
          have Hb3 := hide (Hbr.out.trans (hb3.mono hzr))
          have Hbw3 := hide (Hbw.out.trans (hb3.mono Hbw.out.size))
          have h33 : Three W3 wr.heap.size (.int .i64 x.v) (.int .i64 x.f) (.slice a3 x.args.length cap3) := by rw [hW3]; exact Three.new 28 rfl
          have HC := hide (fun (w' : World) (hb' : Below W3.heap.size W3 w') => Hih.out x a3 cap3 w' (by omega) hxo hxf ((HM.out.below Hbw3.out).below hb') (TabsP_below hb' (TabsP_below Hbw3.out HT.out)) (InP_below hb' (InP_below hb3 hinx)))
          have hS := hide (fun (w' : World) (hb' : Below W3.heap.size W3 w') => (show w'.cell? ⟨w.heap.size, 0, none⟩ = some (.int .i64 n) ∧ w'.cell? ⟨w.heap.size, 1, none⟩ = some (.slice ta ls.length tc) ∧ w'.cell? ⟨wr.heap.size, 0, none⟩ = some (.int .i64 x.v) ∧ w'.cell? ⟨wr.heap.size, 1, none⟩ = some (.int .i64 x.f) ∧ w'.cell? ⟨wr.heap.size, 2, none⟩ = some (.slice a3 x.args.length cap3) from
            ⟨cellB hb' (cellB Hb3.out Hcn.out), cellB hb' (cellB Hb3.out Hct.out), cellB hb' h33.c0, cellB hb' h33.c1, cellB hb' h33.c2⟩))
          have hkI : (k : Int) < t.args.length := by omega
          have hk0 : (0 : Int) ≤ k := by omega
          have HF0 := hide (Below.refl W3.heap.size W3)
          have HW3 := hide hW3
          obtain ⟨X, hX⟩ : ∃ X, X = valT n ls (fun k => (g k).getD 0) x := ⟨_, rfl⟩
          obtain ⟨R, hR⟩ : ∃ R, R = valT.rowL n ls (fun k => (g k).getD 0) (t.args.take k) 0 := ⟨_, rfl⟩
          rw [← hX, ← hR] at Hst
          rw [← hX] at HC hxr
          rw [← hR] at hrk ⊢
          have hRn : 0 ≤ R * n ∧ R * n ≤ 81 := by
            have h1 : 0 ≤ R * n := Int.mul_nonneg hrk.1 (by omega)
            have h2 : R * n ≤ 27 * 3 := Int.mul_le_mul (by omega) hhi (by omega) (by omega)
            exact ⟨h1, by omega⟩
          have Hw : Hid (IntKind.i64.wrap (IntKind.i64.wrap (R * n) + X) = R * n + X) := by
            show _ = _
            rw [wrap_ok (R * n) (by omega) (by omega), wrap_ok (R * n + X) (by omega) (by omega)]
          clear hx hxm hxs hxo hxf hinx hb3 h33 hW3 hX hR q0 q1 q2
          go_wp2_with fail
          rw [← HW3.out]
          go_region_held3 (fun w' => w'.cell? ⟨w.heap.size, 0, none⟩ = some (.int .i64 n) ∧ w'.cell? ⟨w.heap.size, 1, none⟩ = some (.slice ta ls.length tc) ∧ w'.cell? ⟨wr.heap.size, 0, none⟩ = some (.int .i64 x.v) ∧ w'.cell? ⟨wr.heap.size, 1, none⟩ = some (.int .i64 x.f) ∧ w'.cell? ⟨wr.heap.size, 2, none⟩ = some (.slice a3 x.args.length cap3)) ((first | (refine hS.out _ ?_; (repeat' (first | with_reducible exact Hid.out ‹Hid (Below _ _ _)› | with_reducible exact Below.refl _ _ | (with_reducible refine Below.drew ?_))); done) | go_keep)) ((
            go_at_call 45
            with_reducible refine (HC.out _ ?_).mono ?_
            · (repeat' (first | with_reducible exact Hid.out ‹Hid (Below _ _ _)› | with_reducible exact Below.refl _ _ | (with_reducible refine Below.drew ?_)))
            rintro e w4 ⟨rfl, hb4⟩
            have Hb4 : Hid (Below W3.heap.size W3 w4) := below_undrew hb4
            clear hb4))
          rw [Hw.out]
          have Hb5 := hide (Hb3.out.trans (Hb4.out.mono Hb3.out.size))
          clear Hw HC hS
          go_wp2_with fail
          go_roundw
          case rel => exact ⟨k + 1, by omega, by go_num, by rw [Hst.out], Hb5⟩
          case measure => simp [intOf]; omega
        · have hk2 : k = t.args.length := by omega
          subst hk2
          rw [List.take_length] at hrk ⊢
          obtain ⟨tb, toff, rfl⟩ := TabsP_some HT.out (by omega)
          obtain ⟨la, lc, ctl, hIl⟩ := TabsP_at (TabsP_below Hbw.out HT.out) Hl.out
          have hp27 := (HP.out t.args.length).2.1 h3a
          have hlen := Hlen.out
          obtain ⟨R, hR⟩ : ∃ R, R = valT.rowL n ls (fun k => (g k).getD 0) t.args 0 := ⟨_, rfl⟩
          rw [← hR] at hrk Hz ⊢
          obtain ⟨r, hr⟩ := Int.eq_ofNat_of_zero_le hrk.1
          have hrl : r < l.length := by omega
          obtain ⟨lb, loff, rfl, hlc⟩ := Ints_some hIl (by omega)
          have cr := hlc r hrl
          have hZr : Z = l.getD r 0 := by rw [Hz.out, hr]; rfl
          rw [← hZr] at cr
          obtain ⟨fn, hfn⟩ := Int.eq_ofNat_of_zero_le hf0
          have hfl : (fn : Int) < ls.length := by omega
          have ctl2 : wr.cell? ⟨tb, toff + fn, none⟩ = some (.slice (some ⟨lb, loff, none⟩) l.length lc) := by rw [hfn] at ctl; exact ctl
          have cn4 := cellB Hbr.out Hcn.out
          have ct4 := cellB Hbr.out Hct.out
          obtain ⟨p0, p1, p2, _, _, _⟩ := H3.out.below Hbr.out
          rw [hfn] at p1
          rw [hr]
          have hrI : (r : Int) < l.length := by omega
          have hr0 : (0 : Int) ≤ r := by omega
          have hfn0 : (0 : Int) ≤ fn := by omega
          clear hR hr hZr hlc hIl ctl hfn hlen hrk hp27 q0 q1 q2 Hz
          go_wp2_with fail
          go_ret
          exact ⟨rfl, Hbw.out⟩

end Go.Proofs.Ytbkedppkdhfpoab

namespace Go.Proofs.Ytbkedppkdhfpoab
open Go.RowKit

/-- A literal: yes or no, and its sides. -/
abbrev Lit := Bool × T × T
/-- Seven cells a literal, and its terms behind them. -/
def LitsP (w : World) : List Lit → Option Addr → Prop
  | [], _ => True
  | x :: c, a => ∃ b off a1 c1 a2 c2, a = some ⟨b, off, none⟩ ∧ w.cell? ⟨b, off, none⟩ = some (.bool x.1) ∧ w.cell? ⟨b, off + 1, none⟩ = some (.int .i64 x.2.1.v) ∧ w.cell? ⟨b, off + 2, none⟩ = some (.int .i64 x.2.1.f) ∧ w.cell? ⟨b, off + 3, none⟩ = some (.slice a1 x.2.1.args.length c1) ∧
      w.cell? ⟨b, off + 4, none⟩ = some (.int .i64 x.2.2.v) ∧ w.cell? ⟨b, off + 5, none⟩ = some (.int .i64 x.2.2.f) ∧ w.cell? ⟨b, off + 6, none⟩ = some (.slice a2 x.2.2.args.length c2) ∧ InL w x.2.1.args a1 ∧ InL w x.2.2.args a2 ∧ LitsP w c (some ⟨b, off + 7, none⟩)
theorem LitsP_below {w w' : World} (hb : Below w.heap.size w w') : ∀ {c : List Lit} {a : Option Addr}, LitsP w c a → LitsP w' c a := by
  intro c
  induction c with
  | nil => intro a _; trivial
  | cons x c ih =>
    intro a h
    obtain ⟨b, off, a1, c1, a2, c2, rfl, h0, h1, h2, h3, h4, h5, h6, i1, i2, hr⟩ := h
    exact ⟨b, off, a1, c1, a2, c2, rfl, cellB hb h0, cellB hb h1, cellB hb h2, cellB hb h3, cellB hb h4, cellB hb h5, cellB hb h6, InP_below hb i1, InP_below hb i2, ih hr⟩
theorem LitsP_some {w : World} {c : List Lit} {a : Option Addr} (h : LitsP w c a) (hp : 0 < c.length) : ∃ b off, a = some ⟨b, off, none⟩ := by
  cases c with
  | nil => simp at hp
  | cons x c => obtain ⟨b, off, _, _, _, _, rfl, _⟩ := h; exact ⟨b, off, rfl⟩
theorem LitsP_at {w : World} : ∀ {c : List Lit} {b off k : Nat} {x : Lit}, LitsP w c (some ⟨b, off, none⟩) → c[k]? = some x →
    ∃ a1 c1 a2 c2, w.cell? ⟨b, off + k * 7, none⟩ = some (.bool x.1) ∧ w.cell? ⟨b, off + k * 7 + 1, none⟩ = some (.int .i64 x.2.1.v) ∧ w.cell? ⟨b, off + k * 7 + 2, none⟩ = some (.int .i64 x.2.1.f) ∧ w.cell? ⟨b, off + k * 7 + 3, none⟩ = some (.slice a1 x.2.1.args.length c1) ∧
      w.cell? ⟨b, off + k * 7 + 4, none⟩ = some (.int .i64 x.2.2.v) ∧ w.cell? ⟨b, off + k * 7 + 5, none⟩ = some (.int .i64 x.2.2.f) ∧ w.cell? ⟨b, off + k * 7 + 6, none⟩ = some (.slice a2 x.2.2.args.length c2) ∧ InL w x.2.1.args a1 ∧ InL w x.2.2.args a2 := by
  intro c
  induction c with
  | nil => intro b off k x _ h; simp at h
  | cons y c ih =>
    intro b off k x h hk
    obtain ⟨b', off', a1, c1, a2, c2, hb, h0, h1, h2, h3, h4, h5, h6, i1, i2, hr⟩ := h
    simp only [Option.some.injEq, Addr.mk.injEq] at hb
    obtain ⟨rfl, rfl, _⟩ := hb
    cases k with
    | zero =>
      simp at hk; subst hk
      exact ⟨a1, c1, a2, c2, by simpa using h0, by simpa using h1, by simpa using h2, by simpa using h3, by simpa using h4, by simpa using h5, by simpa using h6, i1, i2⟩
    | succ k =>
      have h9 := ih hr (by simpa using hk)
      rw [show off + (k + 1) * 7 = off + 7 + k * 7 by omega]
      exact h9
/-- A list of clauses. -/
def ClausesP (w : World) : List (List Lit) → Option Addr → Prop
  | [], _ => True
  | c :: cs, a => ∃ b off la lc, a = some ⟨b, off, none⟩ ∧ w.cell? ⟨b, off, none⟩ = some (.slice la c.length lc) ∧ LitsP w c la ∧ ClausesP w cs (some ⟨b, off + 1, none⟩)
theorem ClausesP_below {w w' : World} (hb : Below w.heap.size w w') : ∀ {cs : List (List Lit)} {a : Option Addr}, ClausesP w cs a → ClausesP w' cs a := by
  intro cs
  induction cs with
  | nil => intro a _; trivial
  | cons c cs ih =>
    intro a h
    obtain ⟨b, off, la, lc, rfl, h0, h1, h2⟩ := h
    exact ⟨b, off, la, lc, rfl, cellB hb h0, LitsP_below hb h1, ih h2⟩
theorem ClausesP_some {w : World} {cs : List (List Lit)} {a : Option Addr} (h : ClausesP w cs a) (hp : 0 < cs.length) : ∃ b off, a = some ⟨b, off, none⟩ := by
  cases cs with
  | nil => simp at hp
  | cons c cs => obtain ⟨b, off, _, _, rfl, _⟩ := h; exact ⟨b, off, rfl⟩
theorem ClausesP_at {w : World} : ∀ {cs : List (List Lit)} {b off k : Nat} {c : List Lit}, ClausesP w cs (some ⟨b, off, none⟩) → cs[k]? = some c → ∃ la lc, w.cell? ⟨b, off + k, none⟩ = some (.slice la c.length lc) ∧ LitsP w c la := by
  intro cs
  induction cs with
  | nil => intro b off k c _ h; simp at h
  | cons m cs ih =>
    intro b off k c h hk
    obtain ⟨b', off', la, lc, hb, h0, h1, h2⟩ := h
    simp only [Option.some.injEq, Addr.mk.injEq] at hb
    obtain ⟨rfl, rfl, _⟩ := hb
    cases k with
    | zero => simp at hk; subst hk; exact ⟨la, lc, by simpa using h0, h1⟩
    | succ k =>
      obtain ⟨la2, lc2, g0, g1⟩ := ih h2 (by simpa using hk)
      exact ⟨la2, lc2, by rw [show off + (k + 1) = off + 1 + k by omega]; exact g0, g1⟩

/-- What is wrong with literals, one behind the other. -/
def litsErr (ar : List Int) : List Lit → Int
  | [] => 0
  | x :: c => if termErr ar x.2.1 = 0 then (if termErr ar x.2.2 = 0 then litsErr ar c else termErr ar x.2.2) else termErr ar x.2.1
def clauseErr (ar : List Int) (c : List Lit) : Int := if 8 < c.length then 2 else litsErr ar c
def clErr (ar : List Int) : List (List Lit) → Int
  | [] => 0
  | c :: cs => if clauseErr ar c = 0 then clErr ar cs else clauseErr ar c
def clausesErr (ar : List Int) (cs : List (List Lit)) : Int := if sigErr ar = 0 then (if 60 < cs.length then 2 else clErr ar cs) else sigErr ar
theorem litsErr_drop {ar : List Int} {c : List Lit} {k : Nat} {x : Lit} (hx : c[k]? = some x) : litsErr ar (c.drop k) = if termErr ar x.2.1 = 0 then (if termErr ar x.2.2 = 0 then litsErr ar (c.drop (k + 1)) else termErr ar x.2.2) else termErr ar x.2.1 := by
  have hlt := (List.getElem?_eq_some_iff.1 hx).1
  have e : c.drop k = x :: c.drop (k + 1) := by
    rw [List.getElem?_eq_getElem hlt] at hx
    simp at hx
    rw [← hx, List.getElem_cons_drop]
  rw [e, litsErr]
theorem clErr_drop {ar : List Int} {cs : List (List Lit)} {k : Nat} {c : List Lit} (hx : cs[k]? = some c) : clErr ar (cs.drop k) = if clauseErr ar c = 0 then clErr ar (cs.drop (k + 1)) else clauseErr ar c := by
  have hlt := (List.getElem?_eq_some_iff.1 hx).1
  have e : cs.drop k = c :: cs.drop (k + 1) := by
    rw [List.getElem?_eq_getElem hlt] at hx
    simp at hx
    rw [← hx, List.getElem_cons_drop]
  rw [e, clErr]
theorem one_err {ar : List Int} (h : sigErr ar = 0) (t : T) : allErr ar [t] = termErr ar t := by
  rw [allErr, if_pos h, termsErr, termsErr]
  by_cases h1 : termErr ar t = 0
  · rw [if_pos h1, h1]
  · rw [if_neg h1]

set_option maxRecDepth 100000 in
set_option maxHeartbeats 1000000 in
theorem checkLiterals_any (ar : List Int) (ga : Option Addr) (gcap : Nat) (c : List Lit) (ca : Option Addr) (cc : Nat) (w : World) (hsig : sigErr ar = 0) (hg : Ints w ar ga) (hl : c.length ≤ 9223372036854775807) (hc : LitsP w c ca) :
    Calls Try.prog 76 #[.agg #[.slice ga ar.length gcap], .slice ca c.length cc] w fun e w' => e = .returned (.int .i64 (clauseErr ar c)) ∧ Below w.heap.size w w' := by
  obtain ⟨Z, hZ⟩ : ∃ Z, Z = clauseErr ar c := ⟨_, rfl⟩
  rw [← hZ]
  have HZ := hide hZ
  have Hg := hide hg
  have Hc := hide hc
  have Hone := hide (fun t => one_err hsig t)
  clear hZ hg hc hsig
  go_enter Try.func76, Try.ntmps76
  by_cases h8 : 8 < c.length
  · obtain rfl : Z = 2 := by rw [HZ.out, clauseErr, if_pos h8]
    have e8 : (8 : Int) < c.length := by omega
    clear HZ h8
    go_wp2_with fail
    go_ret
    exact ⟨rfl, below1 _ _⟩
  · have HZ1 : Hid (Z = litsErr ar c) := by show _ = _; rw [HZ.out, clauseErr, if_neg h8]
    have e8 : ¬ (8 : Int) < c.length := by omega
    have cg0 : ∀ o, o = Obj.cells #[.slice ga ar.length gcap] 24 → (w.alloc o).cell? ⟨w.heap.size, 0, none⟩ = some (.slice ga ar.length gcap) := fun o ho => by rw [ho]; exact cell_new 0 rfl
    have Hcg0 := hide (cg0 _ rfl)
    clear HZ cg0
    go_wp2_with fail
    go_loopw [14] (fun i wr => ∃ k : Nat, k ≤ c.length ∧ i = .int .i64 k ∧ Hid (Z = litsErr ar (c.drop k)) ∧ Hid (Below (w.heap.size + 1) (w.alloc (.cells #[.slice ga ar.length gcap] 24)) wr)) (fun i _ => c.length - (intOf i).toNat)
    case atStart => exact ⟨0, Nat.zero_le _, rfl, by rw [List.drop_zero]; exact HZ1, Below.refl _ _⟩
    case round =>
      obtain ⟨k, hk, rfl, Hk, Hbr⟩ := hrel
      have hzr := Hbr.out.size
      rw [World.size_alloc] at hzr
      have Hbw := hide ((below1 w (.cells #[.slice ga ar.length gcap] 24)).trans (Hbr.out.mono (by omega)))
      have cg : wr.cell? ⟨w.heap.size, 0, none⟩ = some (.slice ga ar.length gcap) := by rw [Hbr.out.cell (p := ⟨w.heap.size, 0, none⟩) (by show w.heap.size < w.heap.size + 1; omega)]; exact Hcg0.out
      by_cases hlt : k < c.length
      · obtain ⟨b, off, rfl⟩ := LitsP_some Hc.out (by omega)
        obtain ⟨x, hx⟩ : ∃ x, c[k]? = some x := ⟨c[k], List.getElem?_eq_getElem hlt⟩
        obtain ⟨a1, c1, a2, c2, k0, k1, k2, k3, k4, k5, k6, hi1, hi2⟩ := LitsP_at (LitsP_below Hbw.out Hc.out) hx
        have hst := litsErr_drop (ar := ar) hx
        rw [← Hk.out] at hst
        have HC1 := hide (fun o => Check_any ar ga gcap x.2.1 a1 c1 (wr.alloc o) (Ints_alloc o (Ints_below Hbw.out Hg.out)) (InP_alloc o hi1))
        rw [Hone.out] at HC1
        obtain ⟨F1, hF1⟩ : ∃ F, F = termErr ar x.2.1 := ⟨_, rfl⟩
        obtain ⟨F2, hF2⟩ : ∃ F, F = termErr ar x.2.2 := ⟨_, rfl⟩
        rw [← hF1] at HC1 hst
        rw [← hF2] at hst
        have Hst := hide hst
        have HF2 := hide hF2
        have Hi2 := hide hi2
        have hkI : (k : Int) < c.length := by omega
        have hk0 : (0 : Int) ≤ k := by omega
        have hbl := lt_of_cell k0
        have hzw : w.heap.size < wr.heap.size := by omega
        clear hst hx hi1 hi2 hF1 hF2 Hk
        go_wp2_with fail
        refine (HC1.out _).mono ?_
        rintro e w2 ⟨rfl, hb2⟩
        have hz2 := hb2.size
        simp at hz2
        have hb12 : Below wr.heap.size wr w2 := (below1 _ _).trans (hb2.mono (by simp))
        have Hb2 := hide (Hbr.out.trans (hb12.mono hzr))
        have Hbf := hide (Hbw.out.trans (hb12.mono Hbw.out.size))
        have cg2 := cellB hb12 cg
        have l4 : w2.cell? ⟨wr.heap.size, 4, none⟩ = some (.int .i64 x.2.2.v) := by rw [hb2.cell (p := ⟨wr.heap.size, 4, none⟩) (by simp)]; exact cell_new 4 rfl
        have l5 : w2.cell? ⟨wr.heap.size, 5, none⟩ = some (.int .i64 x.2.2.f) := by rw [hb2.cell (p := ⟨wr.heap.size, 5, none⟩) (by simp)]; exact cell_new 5 rfl
        have l6 : w2.cell? ⟨wr.heap.size, 6, none⟩ = some (.slice a2 x.2.2.args.length c2) := by rw [hb2.cell (p := ⟨wr.heap.size, 6, none⟩) (by simp)]; exact cell_new 6 rfl
        have HC2 := hide (Check_any ar ga gcap x.2.2 a2 c2 w2 (Ints_below Hbf.out Hg.out) (InP_below hb12 Hi2.out))
        rw [Hone.out, ← HF2.out] at HC2
        clear hb2 hb12 HC1 HF2 k0 k1 k2 k3 k4 k5 k6
        by_cases h1 : F1 = 0
        · have Hs2 : Hid (Z = if F2 = 0 then litsErr ar (c.drop (k + 1)) else F2) := by show _ = _; rw [Hst.out, if_pos h1]
          subst h1
          clear Hst
          go_wp2_with fail
          refine HC2.out.mono ?_
          rintro e w3 ⟨rfl, hb3⟩
          have Hb3 := hide (Hb2.out.trans (hb3.mono (by have := Hb2.out.size; rw [World.size_alloc] at this; exact this)))
          have Hbf3 := hide (Hbf.out.trans (hb3.mono Hbf.out.size))
          clear hb3 HC2
          by_cases h2 : F2 = 0
          · have Hs3 : Hid (Z = litsErr ar (c.drop (k + 1))) := by show _ = _; rw [Hs2.out, if_pos h2]
            subst h2
            clear Hs2
            go_wp2_with fail
            go_roundw
            case rel => exact ⟨k + 1, by omega, by go_num, Hs3, Hb3⟩
            case measure => simp [intOf]; omega
          · have h2b : (F2 != 0) = true := by simpa using h2
            obtain rfl : Z = F2 := by rw [Hs2.out, if_neg h2]
            clear Hs2 h2
            go_wp2_with fail
            go_ret
            exact ⟨rfl, Hbf3.out⟩
        · have h1b : (F1 != 0) = true := by simpa using h1
          obtain rfl : Z = F1 := by rw [Hst.out, if_neg h1]
          clear Hst h1 HC2
          go_wp2_with fail
          go_ret
          exact ⟨rfl, Hbf.out⟩
      · have hk2 : k = c.length := by omega
        subst hk2
        obtain rfl : Z = 0 := by rw [Hk.out, List.drop_length]; rfl
        clear Hk
        go_wp2_with fail
        go_ret
        exact ⟨rfl, Hbw.out⟩

set_option maxRecDepth 100000 in
set_option maxHeartbeats 1000000 in
theorem cCheck_any (ar : List Int) (ga : Option Addr) (gcap : Nat) (cs : List (List Lit)) (la : Option Addr) (lc : Nat) (w : World) (hg : Ints w ar ga) (hl : cs.length ≤ 9223372036854775807) (hcl : ∀ c, c ∈ cs → c.length ≤ 9223372036854775807) (hc : ClausesP w cs la) :
    Calls Try.prog 37 #[.agg #[.slice ga ar.length gcap], .slice la cs.length lc] w fun e w' => e = .returned (.int .i64 (clausesErr ar cs)) ∧ Below w.heap.size w w' := by
  have H1 := hide (fun o => signature_any ar ga gcap (w.alloc o) (Ints_alloc o hg))
  obtain ⟨E, hE⟩ : ∃ E, E = sigErr ar := ⟨_, rfl⟩
  obtain ⟨Z, hZ⟩ : ∃ Z, Z = clausesErr ar cs := ⟨_, rfl⟩
  rw [← hE] at H1
  rw [← hZ]
  have HE := hide hE
  have HZ := hide hZ
  have Hg := hide hg
  have Hc := hide hc
  have Hcl := hide hcl
  clear hE hZ hg hc hcl
  go_enter Try.func37, Try.ntmps37
  go_wp2_with fail
  refine (H1.out _).mono ?_
  rintro e w1 ⟨rfl, hb1⟩
  have hz1 : w.heap.size + 1 ≤ w1.heap.size := by have := hb1.size; simp at this; omega
  have hbw : Below w.heap.size w w1 := (below1 _ _).trans (hb1.mono (by simp))
  have cg : w1.cell? ⟨w.heap.size, 0, none⟩ = some (.slice ga ar.length gcap) := by
    rw [hb1.cell (p := ⟨w.heap.size, 0, none⟩) (by simp)]; exact cell_new 0 rfl
  have Hbw := hide hbw
  clear hb1 hbw H1
  by_cases h0 : E = 0
  · have HZ1 : Hid (Z = if 60 < cs.length then 2 else clErr ar cs) := by show _ = _; rw [HZ.out, clausesErr, if_pos (HE.out.symm.trans h0)]
    have Hsig := hide (HE.out.symm.trans h0)
    subst h0
    by_cases h60 : 60 < cs.length
    · obtain rfl : Z = 2 := by rw [HZ1.out, if_pos h60]
      have e60 : (60 : Int) < cs.length := by omega
      clear HZ1 HZ h60
      go_wp2_with fail
      go_ret
      exact ⟨rfl, Hbw.out⟩
    · have HZ2 : Hid (Z = clErr ar cs) := by show _ = _; rw [HZ1.out, if_neg h60]
      have e60 : ¬ (60 : Int) < cs.length := by omega
      clear HZ1 HZ
      go_wp2_with fail
      go_loopw [19] (fun iv wr => ∃ k : Nat, k ≤ cs.length ∧ iv = .int .i64 k ∧ Hid (Z = clErr ar (cs.drop k)) ∧ Hid (Below w1.heap.size w1 wr)) (fun iv _ => cs.length - (intOf iv).toNat)
      case atStart => exact ⟨0, Nat.zero_le _, rfl, by rw [List.drop_zero]; exact HZ2, Below.refl _ _⟩
      case round =>
        obtain ⟨k, hk, rfl, HZk, Hbr⟩ := hrel
        have Hbwr := hide (Hbw.out.trans (Hbr.out.mono Hbw.out.size))
        have cgr := cellB Hbr.out cg
        by_cases hlt : k < cs.length
        · obtain ⟨b, off, rfl⟩ := ClausesP_some Hc.out (by omega)
          obtain ⟨c, hx⟩ : ∃ c, cs[k]? = some c := ⟨cs[k], List.getElem?_eq_getElem hlt⟩
          obtain ⟨ca, cc, kc, hlc⟩ := ClausesP_at (ClausesP_below Hbwr.out Hc.out) hx
          have hst := clErr_drop (ar := ar) hx
          rw [← HZk.out] at hst
          have HG := hide (checkLiterals_any ar ga gcap c ca cc wr Hsig.out (Ints_below Hbwr.out Hg.out) (Hcl.out c (List.mem_of_getElem? hx)) hlc)
          obtain ⟨F, hF⟩ : ∃ F, F = clauseErr ar c := ⟨_, rfl⟩
          rw [← hF] at HG hst
          have Hst := hide hst
          have hkI : (k : Int) < cs.length := by omega
          have hk0 : (0 : Int) ≤ k := by omega
          clear hst hF hx hlc HZk
          go_wp2_with fail
          refine HG.out.mono ?_
          rintro e w2 ⟨rfl, hb2⟩
          have Hb2 := hide (Hbr.out.trans (hb2.mono Hbr.out.size))
          have Hbf := hide (Hbwr.out.trans (hb2.mono Hbwr.out.size))
          clear hb2 HG
          by_cases hF0 : F = 0
          · have Hs2 : Hid (Z = clErr ar (cs.drop (k + 1))) := by show _ = _; rw [Hst.out, if_pos hF0]
            subst hF0
            clear Hst
            go_wp2_with fail
            go_roundw
            case rel => exact ⟨k + 1, by omega, by go_num, Hs2, Hb2⟩
            case measure => simp [intOf]; omega
          · have hFb : (F != 0) = true := by simpa using hF0
            obtain rfl : Z = F := by rw [Hst.out, if_neg hF0]
            clear Hst hF0
            go_wp2_with fail
            go_ret
            exact ⟨rfl, Hbf.out⟩
        · have hk2 : k = cs.length := by omega
          subst hk2
          obtain rfl : Z = 0 := by rw [HZk.out, List.drop_length]; rfl
          clear HZk
          go_wp2_with fail
          go_ret
          exact ⟨rfl, Hbwr.out⟩
  · have h0b : (E != 0) = true := by simpa using h0
    obtain rfl : Z = E := by rw [HZ.out, clausesErr, if_neg (fun h => h0 (HE.out.trans h)), HE.out]
    clear HZ HE h0
    go_wp2_with fail
    go_ret
    exact ⟨rfl, Hbw.out⟩

end Go.Proofs.Ytbkedppkdhfpoab

namespace Go.Proofs.Ytbkedppkdhfpoab
open Go.RowKit

/-- Is a literal so? -/
def litHolds (n : Int) (ls : List (List Int)) (f : Int → Int) (x : Lit) : Bool := x.1 == (valT n ls f x.2.1 == valT n ls f x.2.2)
/-- Is one of a clause? -/
def clHolds (n : Int) (ls : List (List Int)) (f : Int → Int) (c : List Lit) : Bool := c.any (litHolds n ls f)
/-- Literals that are right. -/
def LitsOk (ar : List Int) (c : List Lit) : Prop := ∀ x, x ∈ c → (x.2.1.sz ≤ 120 ∧ okP ar x.2.1) ∧ (x.2.2.sz ≤ 120 ∧ okP ar x.2.2)
theorem litsErr_ok {ar : List Int} : ∀ {c : List Lit}, litsErr ar c = 0 → LitsOk ar c := by
  intro c
  induction c with
  | nil => intro _ x hx; cases hx
  | cons y c ih =>
    intro h x hx
    rw [litsErr] at h
    by_cases h1 : termErr ar y.2.1 = 0
    · rw [if_pos h1] at h
      by_cases h2 : termErr ar y.2.2 = 0
      · rw [if_pos h2] at h
        rcases List.mem_cons.1 hx with rfl | hx
        · exact ⟨termErr_iff.1 h1, termErr_iff.1 h2⟩
        · exact ih h x hx
      · rw [if_neg h2] at h; exact absurd h h2
    · rw [if_neg h1] at h; exact absurd h h1

attribute [local go_sem ↓] Go.wp_at_zero Go.wp_at_succ
set_option maxRecDepth 100000 in
set_option maxHeartbeats 1000000 in
theorem holdsC2_any {ar : List Int} {n : Int} {ls : List (List Int)} (hmo : MOk ar n ls) (ta : Option Addr) (tc b m : Nat) (g : Int → Option Int) (hr : ∀ k, 0 ≤ (g k).getD 0 ∧ (g k).getD 0 < n) (bi bm : Nat) (x : Lit) (a1 : Option Addr) (c1 : Nat) (a2 : Option Addr) (c2 : Nat) (w : World) (hx : (x.2.1.sz ≤ 120 ∧ okP ar x.2.1) ∧ (x.2.2.sz ≤ 120 ∧ okP ar x.2.2))
    (hM : IsAt w b m g) (hT : TabsP w ls ta) (hi1 : InL w x.2.1.args a1) (hi2 : InL w x.2.2.args a2) (ci : w.cell? ⟨bi, 0, none⟩ = some (.map (some b))) (cn : w.cell? ⟨bm, 0, none⟩ = some (.int .i64 n)) (ct : w.cell? ⟨bm, 1, none⟩ = some (.slice ta ls.length tc)) :
    Calls Try.prog 50 #[.agg #[.bool x.1, .int .i64 x.2.1.v, .int .i64 x.2.1.f, .slice a1 x.2.1.args.length c1, .int .i64 x.2.2.v, .int .i64 x.2.2.f, .slice a2 x.2.2.args.length c2], .pointer (some ⟨bi, 0, none⟩), .pointer (some ⟨bm, 0, none⟩)] w fun e w' => e = .returned (.bool (litHolds n ls (fun k => (g k).getD 0) x)) ∧ Below w.heap.size w w' := by
  obtain ⟨W1, hW1⟩ : ∃ W1, W1 = w.alloc (.cells #[.bool x.1, .int .i64 x.2.1.v, .int .i64 x.2.1.f, .slice a1 x.2.1.args.length c1, .int .i64 x.2.2.v, .int .i64 x.2.2.f, .slice a2 x.2.2.args.length c2] 71) := ⟨_, rfl⟩
  have hb1 : Below w.heap.size w W1 := by rw [hW1]; exact below1 _ _
  have hc : ∀ j, W1.cell? ⟨w.heap.size, j, none⟩ = (#[Value.bool x.1, .int .i64 x.2.1.v, .int .i64 x.2.1.f, .slice a1 x.2.1.args.length c1, .int .i64 x.2.2.v, .int .i64 x.2.2.f, .slice a2 x.2.2.args.length c2])[j]? := fun j => by rw [hW1]; exact cell_new j rfl
  have d0 : W1.cell? ⟨w.heap.size, 0, none⟩ = some (.bool x.1) := hc 0
  have d1 : W1.cell? ⟨w.heap.size, 1, none⟩ = some (.int .i64 x.2.1.v) := hc 1
  have d2 : W1.cell? ⟨w.heap.size, 2, none⟩ = some (.int .i64 x.2.1.f) := hc 2
  have d3 : W1.cell? ⟨w.heap.size, 3, none⟩ = some (.slice a1 x.2.1.args.length c1) := hc 3
  have d4 : W1.cell? ⟨w.heap.size, 4, none⟩ = some (.int .i64 x.2.2.v) := hc 4
  have d5 : W1.cell? ⟨w.heap.size, 5, none⟩ = some (.int .i64 x.2.2.f) := hc 5
  have d6 : W1.cell? ⟨w.heap.size, 6, none⟩ = some (.slice a2 x.2.2.args.length c2) := hc 6
  have HC1 := hide (fun (w' : World) (hb' : Below W1.heap.size W1 w') => valueP_any hmo ta tc b m g x.2.1.sz x.2.1 a1 c1 w' (Nat.le_refl _) hx.1.2 (fun y _ _ => hr y.v) (IsAt.below (IsAt.below hM hb1) hb') (TabsP_below hb' (TabsP_below hb1 hT)) (InP_below hb' (InP_below hb1 hi1)))
  have HC2 := hide (fun (w' : World) (hb' : Below W1.heap.size W1 w') => valueP_any hmo ta tc b m g x.2.2.sz x.2.2 a2 c2 w' (Nat.le_refl _) hx.2.2 (fun y _ _ => hr y.v) (IsAt.below (IsAt.below hM hb1) hb') (TabsP_below hb' (TabsP_below hb1 hT)) (InP_below hb' (InP_below hb1 hi2)))
  have hS := hide (fun (w' : World) (hb' : Below W1.heap.size W1 w') => (show w'.cell? ⟨w.heap.size, 0, none⟩ = some (.bool x.1) ∧ w'.cell? ⟨w.heap.size, 1, none⟩ = some (.int .i64 x.2.1.v) ∧ w'.cell? ⟨w.heap.size, 1 + 1, none⟩ = some (.int .i64 x.2.1.f) ∧ w'.cell? ⟨w.heap.size, 1 + 2, none⟩ = some (.slice a1 x.2.1.args.length c1) ∧ w'.cell? ⟨w.heap.size, 4, none⟩ = some (.int .i64 x.2.2.v) ∧ w'.cell? ⟨w.heap.size, 4 + 1, none⟩ = some (.int .i64 x.2.2.f) ∧ w'.cell? ⟨w.heap.size, 4 + 2, none⟩ = some (.slice a2 x.2.2.args.length c2) ∧
      w'.cell? ⟨bi, 0, none⟩ = some (.map (some b)) ∧ w'.cell? ⟨bm, 0, none⟩ = some (.int .i64 n) ∧ w'.cell? ⟨bm, 1, none⟩ = some (.slice ta ls.length tc) from
    ⟨cellB hb' d0, cellB hb' d1, cellB hb' d2, cellB hb' d3, cellB hb' d4, cellB hb' d5, cellB hb' d6, cellB hb' (cellB hb1 ci), cellB hb' (cellB hb1 cn), cellB hb' (cellB hb1 ct)⟩))
  obtain ⟨X1, hX1⟩ : ∃ X, X = valT n ls (fun k => (g k).getD 0) x.2.1 := ⟨_, rfl⟩
  obtain ⟨X2, hX2⟩ : ∃ X, X = valT n ls (fun k => (g k).getD 0) x.2.2 := ⟨_, rfl⟩
  have HZ : Hid (litHolds n ls (fun k => (g k).getD 0) x = (x.1 == (X1 == X2))) := by show _ = _; rw [litHolds, ← hX1, ← hX2]
  rw [← hX1] at HC1
  rw [← hX2] at HC2
  have HF0 := hide (Below.refl W1.heap.size W1)
  have Hb1 := hide hb1
  have HW1 := hide hW1
  rw [HZ.out]
  clear hW1 hb1 hc d0 d1 d2 d3 d4 d5 d6 hX1 hX2 hM hT hi1 hi2 ci cn ct hr hx hmo HZ
  go_enter Try.func50, Try.ntmps50
  go_wp2_with fail
  rw [← HW1.out]
  go_region_held3 (fun w' => w'.cell? ⟨w.heap.size, 0, none⟩ = some (.bool x.1) ∧ w'.cell? ⟨w.heap.size, 1, none⟩ = some (.int .i64 x.2.1.v) ∧ w'.cell? ⟨w.heap.size, 1 + 1, none⟩ = some (.int .i64 x.2.1.f) ∧ w'.cell? ⟨w.heap.size, 1 + 2, none⟩ = some (.slice a1 x.2.1.args.length c1) ∧ w'.cell? ⟨w.heap.size, 4, none⟩ = some (.int .i64 x.2.2.v) ∧ w'.cell? ⟨w.heap.size, 4 + 1, none⟩ = some (.int .i64 x.2.2.f) ∧ w'.cell? ⟨w.heap.size, 4 + 2, none⟩ = some (.slice a2 x.2.2.args.length c2) ∧
      w'.cell? ⟨bi, 0, none⟩ = some (.map (some b)) ∧ w'.cell? ⟨bm, 0, none⟩ = some (.int .i64 n) ∧ w'.cell? ⟨bm, 1, none⟩ = some (.slice ta ls.length tc)) ((first | (refine hS.out _ ?_; (repeat' (first | with_reducible exact Hid.out ‹Hid (Below _ _ _)› | with_reducible exact Below.refl _ _ | (with_reducible refine Below.drew ?_))); done) | go_keep)) ((first
    | (go_at_call 45
       with_reducible refine (HC1.out _ ?_).mono ?_
       · (repeat' (first | with_reducible exact Hid.out ‹Hid (Below _ _ _)› | with_reducible exact Below.refl _ _ | (with_reducible refine Below.drew ?_)))
       rintro e wA ⟨rfl, hbA⟩
       have HbA : Hid (Below W1.heap.size W1 wA) := by
         refine Below.trans (b := _) ?_ (hbA.mono ?_)
         · (repeat' (first | with_reducible exact Hid.out ‹Hid (Below _ _ _)› | with_reducible exact Below.refl _ _ | (with_reducible refine Below.drew ?_)))
         · first | exact Nat.le_refl _ | exact HbB.out.size
       clear hbA)
    | (go_at_call 45
       with_reducible refine (HC2.out _ ?_).mono ?_
       · (repeat' (first | with_reducible exact Hid.out ‹Hid (Below _ _ _)› | with_reducible exact Below.refl _ _ | (with_reducible refine Below.drew ?_)))
       rintro e wB ⟨rfl, hbB⟩
       have HbB : Hid (Below W1.heap.size W1 wB) := by
         refine Below.trans (b := _) ?_ (hbB.mono ?_)
         · (repeat' (first | with_reducible exact Hid.out ‹Hid (Below _ _ _)› | with_reducible exact Below.refl _ _ | (with_reducible refine Below.drew ?_)))
         · first | exact Nat.le_refl _ | exact HbA.out.size
       clear hbB)))
  all_goals
    go_wp2_with fail
    go_ret
    exact ⟨rfl, Hb1.out.trans (Below.mono (by first | exact HbB.out | exact HbA.out) Hb1.out.size)⟩

theorem eg50 (args : Array Value) (w : World) : (callFunc 50 args).run Try.prog w = .ok (.enter 50 args) w := by kernel_rfl
theorem any_step {p : Lit → Bool} {c : List Lit} {k : Nat} {x : Lit} (hx : c[k]? = some x) (h : (c.take k).any p = false) : (p x = false → (c.take (k + 1)).any p = false) ∧ (p x = true → c.any p = true) := by
  have hlt := (List.getElem?_eq_some_iff.1 hx).1
  constructor
  · intro h1
    rw [List.take_add_one, hx, List.any_append, h]
    simpa using h1
  · intro h1
    rw [List.any_eq_true]
    exact ⟨x, List.mem_of_getElem? hx, h1⟩
/-- What the closures lean on. -/
structure HS (ar : List Int) (n : Int) (ls : List (List Int)) (ta : Option Addr) (tc b bi bm : Nat) (c : List Lit) (ca : Option Addr) (w : World) (m : Nat) (g : Int → Option Int) : Prop where
  mo : MOk ar n ls
  ok : LitsOk ar c
  len : c.length ≤ 8
  rng : ∀ k, 0 ≤ (g k).getD 0 ∧ (g k).getD 0 < n
  map : IsAt w b m g
  tabs : TabsP w ls ta
  lits : LitsP w c ca
  ci : w.cell? ⟨bi, 0, none⟩ = some (.map (some b))
  cn : w.cell? ⟨bm, 0, none⟩ = some (.int .i64 n)
  ct : w.cell? ⟨bm, 1, none⟩ = some (.slice ta ls.length tc)
theorem HS.below {ar : List Int} {n : Int} {ls : List (List Int)} {ta : Option Addr} {tc b bi bm : Nat} {c : List Lit} {ca : Option Addr} {w w' : World} {m : Nat} {g : Int → Option Int} (h : HS ar n ls ta tc b bi bm c ca w m g) (hb : Below w.heap.size w w') : HS ar n ls ta tc b bi bm c ca w' m g :=
  ⟨h.mo, h.ok, h.len, h.rng, h.map.below hb, TabsP_below hb h.tabs, LitsP_below hb h.lits, cellB hb h.ci, cellB hb h.cn, cellB hb h.ct⟩

set_option maxRecDepth 100000 in
set_option maxHeartbeats 400000 in
theorem indexL_any {ar : List Int} {n : Int} {ls : List (List Int)} {ta : Option Addr} {tc b bi bm : Nat} {c : List Lit} {ca : Option Addr} {w : World} {m : Nat} {g : Int → Option Int} (h : HS ar n ls ta tc b bi bm c ca w m g) (cc : Nat) :
    Calls Try.prog 97 #[.slice ca c.length cc, .func (.func 50) #[] #[.pointer (some ⟨bi, 0, none⟩), .pointer (some ⟨bm, 0, none⟩)]] w fun e w' => (∃ i : Int, e = .returned (.int .i64 i) ∧ decide (0 ≤ i) = clHolds n ls (fun k => (g k).getD 0) c) ∧ Below w.heap.size w w' := by
  have eg := eg50
  have H := hide h
  have hl8 := h.len
  clear h
  go_enter Try.func97, Try.ntmps97
  go_wp2_with fail
  go_loopw [8] (fun i wr => ∃ k : Nat, k ≤ c.length ∧ i = .int .i64 k ∧ Hid ((c.take k).any (litHolds n ls (fun k => (g k).getD 0)) = false) ∧ Hid (Below w.heap.size w wr)) (fun i _ => c.length - (intOf i).toNat)
  case atStart => exact ⟨0, Nat.zero_le _, rfl, rfl, Below.refl _ _⟩
  case round =>
    obtain ⟨k, hk, rfl, Hk, Hbr⟩ := hrel
    have Hr := hide (H.out.below Hbr.out)
    by_cases hlt : k < c.length
    · obtain ⟨cb, coff, rfl⟩ := LitsP_some H.out.lits (by omega)
      obtain ⟨x, hx⟩ : ∃ x, c[k]? = some x := ⟨c[k], List.getElem?_eq_getElem hlt⟩
      obtain ⟨a1, c1, a2, c2, k0, k1, k2, k3, k4, k5, k6, hi1, hi2⟩ := LitsP_at Hr.out.lits hx
      have Hst := hide (any_step hx Hk.out)
      have HC := hide (holdsC2_any Hr.out.mo ta tc b m g Hr.out.rng bi bm x a1 c1 a2 c2 wr (Hr.out.ok x (List.mem_of_getElem? hx)) Hr.out.map Hr.out.tabs hi1 hi2 Hr.out.ci Hr.out.cn Hr.out.ct)
      have hI : (k : Int) < c.length := by omega
      have hk0 : (0 : Int) ≤ k := by omega
      clear hx hi1 hi2 Hk
      go_wp2_with fail
      refine HC.out.mono ?_
      rintro e w' ⟨rfl, hb'⟩
      have Hb' := hide (Hbr.out.trans (hb'.mono Hbr.out.size))
      clear hb' HC k0 k1 k2 k3 k4 k5 k6
      cases hd : litHolds n ls (fun k => (g k).getD 0) x with
      | false =>
        have Hn := hide (Hst.out.1 hd)
        clear Hst hd
        go_wp2_with fail
        go_roundw
        case rel => exact ⟨k + 1, by omega, by go_num, Hn, Hb'⟩
        case measure => simp [intOf]; omega
      | true =>
        have Hn := hide (Hst.out.2 hd)
        clear Hst hd
        go_wp2_with fail
        go_ret
        exact ⟨⟨k, rfl, by rw [clHolds, Hn.out]; simp⟩, Hb'.out⟩
    · have hk2 : k = c.length := by omega
      subst hk2
      rw [List.take_length] at Hk
      go_wp2_with fail
      go_ret
      exact ⟨⟨-1, rfl, by rw [clHolds, Hk.out]; rfl⟩, Hbr.out⟩
set_option maxRecDepth 100000 in
set_option maxHeartbeats 400000 in
theorem holdsC1_any {ar : List Int} {n : Int} {ls : List (List Int)} {ta : Option Addr} {tc b bi bm : Nat} {c : List Lit} {ca : Option Addr} {w : World} {m : Nat} {g : Int → Option Int} (h : HS ar n ls ta tc b bi bm c ca w m g) (cc bc : Nat) (hc : w.cell? ⟨bc, 0, none⟩ = some (.slice ca c.length cc)) :
    Calls Try.prog 48 #[.pointer (some ⟨bc, 0, none⟩), .pointer (some ⟨bi, 0, none⟩), .pointer (some ⟨bm, 0, none⟩)] w fun e w' => e = .returned (.bool (clHolds n ls (fun k => (g k).getD 0) c)) ∧ Below w.heap.size w w' := by
  have HC : Hid (Calls Try.prog 49 #[.slice ca c.length cc, .func (.func 50) #[] #[.pointer (some ⟨bi, 0, none⟩), .pointer (some ⟨bm, 0, none⟩)]] w fun e w' => e = .returned (.bool (clHolds n ls (fun k => (g k).getD 0) c)) ∧ Below w.heap.size w w') := by
    have HX := hide (indexL_any h cc)
    clear h hc
    go_enter Try.func49, Try.ntmps49
    go_wp2_with fail
    refine HX.out.mono ?_
    rintro e w' ⟨⟨i, rfl, hi⟩, hb'⟩
    have Hi := hide hi
    have Hb := hide hb'
    clear hi hb'
    go_wp2_with fail
    go_ret
    exact ⟨ret_bool Hi.out, Hb.out⟩
  clear h
  go_enter Try.func48, Try.ntmps48
  go_wp2_with fail
  refine HC.out.mono ?_
  rintro e w' ⟨rfl, hb'⟩
  have Hb := hide hb'
  clear hb'
  go_wp2_with fail
  go_ret
  exact ⟨rfl, Hb.out⟩

end Go.Proofs.Ytbkedppkdhfpoab
