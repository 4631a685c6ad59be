/- The document's ArgsOf: the walk. What the numbers of the arguments mean. No word of the program's memory here. What the document's own order keeps: the parts, the numbers of their arguments, the table. The table of the document's own order: one row more, and its start. What stands fast within one round of the document's own order: what the round reads, and where it lies. How bindings lie in memory; which one a variable has. What is wrong with bindings: the document's check, and the program's. -/
import Derived.BigQuiet
import Derived.Deep.DeepCutAuto
import Derived.Deep.RegionHeld3
import Derived.Test.YtbkedppkdhfpoaaJoined8
namespace Go.Proofs.Ytbkedppkdhfpoaa
open Go.RowKit

theorem nums_bound : ∀ {ts : List T} {o : Nat} {e : Int}, e ∈ numsL o ts → 0 ≤ e ∧ e < ((o + T.sz.szL ts : Nat) : Int) := by
  intro ts
  induction ts with
  | nil => intro o e h; cases h
  | cons t ts ih =>
    intro o e h
    rw [numsL] at h
    have := t.sz_pos
    rw [T.szL_cons]
    rcases List.mem_cons.1 h with rfl | h
    · omega
    · have := ih h; omega
theorem args_bound : ∀ (n : Nat), (∀ (t : T) (o : Nat) (l : List Int) (e : Int), t.sz ≤ n → l ∈ argsAt t o → e ∈ l → 0 ≤ e ∧ e < ((o + t.sz : Nat) : Int)) ∧ (∀ (ts : List T) (o : Nat) (l : List Int) (e : Int), T.sz.szL ts ≤ n → l ∈ argsAt.aL ts o → e ∈ l → 0 ≤ e ∧ e < ((o + T.sz.szL ts : Nat) : Int)) := by
  intro n
  induction n with
  | zero =>
    refine ⟨fun t o l e h => by have := t.sz_pos; omega, fun ts o l e h hl => ?_⟩
    cases ts with
    | nil => cases hl
    | cons t ts => have := t.sz_pos; rw [T.szL_cons] at h; omega
  | succ n ih =>
    have h1 : ∀ (t : T) (o : Nat) (l : List Int) (e : Int), t.sz ≤ n + 1 → l ∈ argsAt t o → e ∈ l → 0 ≤ e ∧ e < ((o + t.sz : Nat) : Int) := fun t o l e h hl he => by
      have hts := T.sz_eq t
      rw [argsAt_eq, List.mem_append, List.mem_singleton] at hl
      rcases hl with hl | rfl
      · have := ih.2 t.args o l e (by omega) hl he; omega
      · have := nums_bound he; omega
    refine ⟨h1, fun ts => ?_⟩
    induction ts with
    | nil => intro o l e _ hl; cases hl
    | cons t ts iht =>
      intro o l e h hl he
      rw [T.szL_cons] at h ⊢
      rw [aL_cons, List.mem_append] at hl
      rcases hl with hl | hl
      · have := h1 t o l e (by omega) hl he; omega
      · have := iht (o + t.sz) l e (by omega) hl he; omega

theorem ownBlock_len {a : Option Addr} {n m c k : Nat} (h : (Value.slice a n c).ownBlock = some k) : (Value.slice a m c).ownBlock = some k := by
  cases a with
  | none => cases h
  | some x => exact h
theorem RowsI_below {base : Nat} {p : Nat → Prop} {w w' : World} {v : Value} {rows : List (List Int)} (h : RowsI base p w v rows) (hb : Below w.heap.size w w') : RowsI base p w' v rows := by
  obtain ⟨xs, h1, h2⟩ := h
  exact ⟨xs, own_same h1 (fun g hg => hb.block g (own_lt h1 g hg).2), RK_mono (fun k hk hlt => ⟨hk, hb.block k hlt⟩) h2⟩
theorem srcv_one {w : World} {v : Value} {e : TypeId} (hv : v.oneCell' = true) : SrcV (w.alloc (.cells #[v] e)) (.slice (some ⟨w.heap.size, 0, none⟩) 1 1) [v] := by
  refine ⟨⟨w.heap.size, 0, 1, rfl, fun j u hu => ?_⟩, fun u hu => ?_⟩
  · cases j with
    | zero =>
      have hu : v = u := by simpa using hu
      subst hu; exact cell_new 0 rfl
    | succ j => simp at hu
  · have hu : u = v := by simpa using hu
    subst hu; exact hv
theorem args_rowlen : ∀ (n : Nat), (∀ (t : T) (o : Nat) (l : List Int), t.sz ≤ n → l ∈ argsAt t o → l.length ≤ t.sz) ∧ (∀ (ts : List T) (o : Nat) (l : List Int), T.sz.szL ts ≤ n → l ∈ argsAt.aL ts o → l.length ≤ T.sz.szL ts) := by
  intro n
  induction n with
  | zero =>
    refine ⟨fun t o l h => by have := t.sz_pos; omega, fun ts o l h hl => ?_⟩
    cases ts with
    | nil => cases hl
    | cons t ts => have := t.sz_pos; rw [T.szL_cons] at h; omega
  | succ n ih =>
    have h1 : ∀ (t : T) (o : Nat) (l : List Int), t.sz ≤ n + 1 → l ∈ argsAt t o → l.length ≤ t.sz := fun t o l h hl => by
      have hts := T.sz_eq t
      rw [argsAt_eq, List.mem_append, List.mem_singleton] at hl
      rcases hl with hl | rfl
      · have := ih.2 t.args o l (by omega) hl; omega
      · rw [numsL_length]; have := T.length_le t.args; omega
    refine ⟨h1, fun ts => ?_⟩
    induction ts with
    | nil => intro o l _ hl; cases hl
    | cons t ts iht =>
      intro o l h hl
      rw [T.szL_cons] at h ⊢
      rw [aL_cons, List.mem_append] at hl
      rcases hl with hl | hl
      · have := h1 t o l (by omega) hl; omega
      · have := iht (o + t.sz) l (by omega) hl; omega

set_option maxRecDepth 100000 in
set_option maxHeartbeats 2000000 in
theorem argsOf_any (N : Nat) : ∀ (t : T) (a : Option Addr) (cap : Nat) (w : World), t.sz ≤ N → t.sz ≤ 120 → InL w t.args a →
    Calls Try.prog 82 #[.agg #[.int .i64 t.v, .int .i64 t.f, .slice a t.args.length cap]] w fun e w' =>
      ∃ v, e = .returned v ∧ RowsI w.heap.size (fun k => w.heap.size ≤ k ∧ v.ownBlock ≠ some k) w' v (argsAt t 0) ∧ Below w.heap.size w w' := by
  induction N with
  | zero => intro t a cap w hN; have := t.sz_pos; omega
  | succ N ih =>
    intro t a cap w hN h120 hin
    have Hih := hide ih
    have hts := T.sz_eq t
    have hlen : t.args.length ≤ 120 := by have := T.length_le t.args; omega
    obtain ⟨W1, hW1⟩ : ∃ W1, W1 = w.alloc (.cells #[.int .i64 t.v, .int .i64 t.f, .slice a t.args.length cap] 27) := ⟨_, rfl⟩
    have hzW : W1.heap.size = w.heap.size + 1 := by rw [hW1]; simp
    have hbW : Below w.heap.size w W1 := by rw [hW1]; exact below1 _ _
    have H3 : Hid (Three W1 w.heap.size (.int .i64 t.v) (.int .i64 t.f) (.slice a t.args.length cap)) := by rw [hW1]; exact Three.new 27 rfl
    have HW1 := hide hW1
    clear ih hW1
    go_enter Try.func82, Try.ntmps82
    go_wp2_with fail
    rw [← HW1.out]
    go_loopw [3, 4, 5] (fun vo va iv wr => ∃ k : Nat, k ≤ t.args.length ∧ iv = .int .i64 k ∧ RowsI (w.heap.size + 1) (fun b => w.heap.size + 1 ≤ b ∧ vo.ownBlock ≠ some b ∧ va.ownBlock ≠ some b) wr vo (argsAt.aL (t.args.take k) 0) ∧
        OwnI (w.heap.size + 1) wr va (numsL 0 (t.args.take k)) ∧ (∀ g, vo.ownBlock = some g → va.ownBlock ≠ some g) ∧ Below (w.heap.size + 1) W1 wr) (fun _ _ iv _ => t.args.length - (intOf iv).toNat)
    case atStart => exact ⟨0, Nat.zero_le _, rfl, ⟨[], ⟨rfl, Or.inl ⟨rfl, rfl⟩⟩, rfl⟩, ⟨rfl, Or.inl ⟨rfl, rfl⟩⟩, (fun g hg => (by cases hg)), Below.refl _ _⟩
    case round =>
      obtain ⟨k, hk, rfl, ⟨xo, hoo, hko⟩, hoa, hdis, hb⟩ := hrel
      have hzr := hb.size
      obtain ⟨c0, c1, c2, _, _, _⟩ := H3.out.same (hb.block w.heap.size (by omega))
      have hbw : Below w.heap.size w wr := hbW.trans (hb.mono (by omega))
      obtain ⟨oa, oc, hvo⟩ := own_shape hoo
      obtain ⟨aa, ac, hva⟩ := own_shape hoa
      have hol : (argsAt.aL (t.args.take k) 0).length = T.sz.szL (t.args.take k) := (args_length _).2 _ 0 (Nat.le_refl _)
      subst hvo hva
      by_cases hlt : k < t.args.length
      · obtain ⟨b, off, rfl⟩ := InP_some hin (by omega)
        obtain ⟨c, hc⟩ : ∃ c, t.args[k]? = some c := ⟨t.args[k], List.getElem?_eq_getElem hlt⟩
        obtain ⟨a1, cap1, _, k0, k1, k2, hin1⟩ := InP_at (InP_below hbw hin) hc
        obtain ⟨hs1, hs2⟩ := szL_take hc
        have hce := T.sz_eq c
        have hcsz := T.szL_mem (List.mem_of_getElem? hc)
        have Hcall := hide (Hih.out c a1 cap1 wr (by omega) (by omega) hin1)
        have Hst1 : Hid (argsAt.aL (t.args.take (k + 1)) 0 = argsAt.aL (t.args.take k) 0 ++ argsAt c (T.sz.szL (t.args.take k))) := by
          show _ = _
          rw [List.take_add_one, hc, aL_append]
          show _ ++ (argsAt c (0 + T.sz.szL (t.args.take k)) ++ []) = _
          rw [Nat.zero_add, List.append_nil]
        have Hst2 : Hid (numsL 0 (t.args.take (k + 1)) = numsL 0 (t.args.take k) ++ [((T.sz.szL (t.args.take k) + c.sz : Nat) : Int) - 1]) := by
          show _ = _
          rw [List.take_add_one, hc, numsL_append, Nat.zero_add]; rfl
        have hkI : (k : Int) < t.args.length := by omega
        have hk0 : (0 : Int) ≤ k := by omega
        obtain ⟨o, ho⟩ : ∃ o, o = T.sz.szL (t.args.take k) := ⟨_, rfl⟩
        rw [hol, ← ho] at hoo
        have Hol : Hid ((argsAt.aL (t.args.take k) 0).length = o) := hol.trans ho.symm
        rw [← ho] at Hst1 Hst2 hs1 hs2
        have Hoo := hide hoo
        have Hko : Hid (RK (fun b => w.heap.size + 1 ≤ b ∧ (Value.slice oa o oc).ownBlock ≠ some b ∧ (Value.slice aa (numsL 0 (t.args.take k)).length ac).ownBlock ≠ some b) wr (argsAt.aL (t.args.take k) 0) xo) := RK_mono (fun k' hk' _ => ⟨⟨hk'.1, fun e => hk'.2.1 (ownBlock_len e), hk'.2.2⟩, rfl⟩) hko
        have Hoa := hide hoa
        have Hdis : Hid (∀ g, (Value.slice oa o oc).ownBlock = some g → (Value.slice aa (numsL 0 (t.args.take k)).length ac).ownBlock ≠ some g) := fun g hg => hdis g (ownBlock_len hg)
        have hoc : o + c.sz ≤ 120 := by omega
        have hcN : c.sz ≤ 120 := by omega
        have Hb := hide hb
        rw [Hol.out]
        clear hc hin1 ho hol hoo hko hoa hdis hb hce hs1 hs2 hcsz
        go_wp2_with fail
        refine Hcall.out.mono ?_
        rintro e wx ⟨vx, rfl, ⟨xx, hox, hkx⟩, hbx⟩
        have hXl : (argsAt c 0).length = c.sz := (args_length _).1 c 0 (Nat.le_refl _)
        obtain ⟨X, hX⟩ : ∃ X, X = argsAt c 0 := ⟨_, rfl⟩
        rw [← hX] at hox hkx hXl
        have hcp := c.sz_pos
        obtain ⟨g, cx, rfl, hg1, hg2, _, _⟩ := own_cells1 hox (by omega)
        have HrX : Hid (RowsI wr.heap.size (fun b' => wr.heap.size ≤ b' ∧ b' ≠ g) wx (.slice (some ⟨g, 0, none⟩) X.length cx) X) := ⟨xx, hox, RK_mono (fun k' hk' _ => ⟨⟨hk'.1, fun e => hk'.2 (by rw [e]; rfl)⟩, rfl⟩) hkx⟩
        have HbX : Hid (∀ l ∈ X, ∀ e ∈ l, 0 ≤ e ∧ e ≤ 1000) := fun l hl e he => by
          rw [hX] at hl
          have h9 := (args_bound _).1 c 0 l e (Nat.le_refl _) hl he
          omega
        have HXs : Hid (X.map (fun l => l.map (· + (o : Int))) = argsAt c o) := by
          show _ = _
          rw [hX, (args_shift o _).1 c 0 (Nat.le_refl _), Nat.zero_add]
        have HrL : Hid (∀ l ∈ X, l.length ≤ 120) := fun l hl => by
          rw [hX] at hl
          have h9 := (args_rowlen _).1 c 0 l (Nat.le_refl _) hl
          omega
        have Hbx := hide hbx
        have hXl2 : X.length ≤ 120 := by omega
        have hX0 : 0 < X.length := by omega
        have ho120 : o ≤ 1000 := by omega
        have HXl := hide hXl
        clear hX hox hkx hbx hXl k0 k1 k2 c0 c1 c2 Hcall
        go_wp2_with fail
        go_loopw [7] (fun kv wi => ∃ kk : Nat, kk ≤ X.length ∧ kv = .int .i64 kk ∧ RowsI wr.heap.size (fun b' => wr.heap.size ≤ b' ∧ b' ≠ g) wi (.slice (some ⟨g, 0, none⟩) X.length cx) (movedRows X o kk) ∧ Below wr.heap.size wr wi) (fun kv _ => X.length - (intOf kv).toNat)
        case atStart => exact ⟨0, Nat.zero_le _, rfl, HrX.out, Hbx.out⟩
        case round =>
          obtain ⟨kk, hkk, rfl, ⟨xi, hoi, hki⟩, hbi⟩ := hrel
          rw [moved_length] at hoi
          obtain ⟨g', cx', he, hgb, hgl, hci, hfi⟩ := own_cells1 hoi hX0
          simp only [Value.slice.injEq, Option.some.injEq, Addr.mk.injEq, and_true, true_and] at he
          obtain ⟨rfl, rfl⟩ := he
          by_cases hlt2 : kk < X.length
          · obtain ⟨l, hl⟩ : ∃ l, X[kk]? = some l := ⟨X[kk], List.getElem?_eq_getElem hlt2⟩
            obtain ⟨m1, m2⟩ := moved_at (m := o) hl
            obtain ⟨la, lc, hxl, hipl⟩ := RK_at hki m1
            have ck := hci kk _ hxl
            have fk := hfi kk
            have Hbl := hide (HbX.out l (List.mem_of_getElem? hl))
            have hll : l.length ≤ 120 := HrL.out l (List.mem_of_getElem? hl)
            have Hoi := hide hoi
            have Hki := hide hki
            have Hbi := hide hbi
            have Hm2 := hide m2
            have Hipl := hide hipl
            have hkkI : (kk : Int) < X.length := by omega
            have hkk0 : (0 : Int) ≤ kk := by omega
            clear hl m1 m2 hxl hipl hoi hki hbi hci hfi
            go_wp2_with fail
            go_loopw [8, 9] (fun vm jv wj => ∃ j : Nat, j ≤ l.length ∧ jv = .int .i64 j ∧ OwnI wr.heap.size wj vm ((l.take j).map (· + (o : Int))) ∧ Below wr.heap.size wr wj) (fun _ jv _ => l.length - (intOf jv).toNat)
            case atStart => exact ⟨0, Nat.zero_le _, rfl, ⟨rfl, Or.inl ⟨rfl, rfl⟩⟩, Below.refl _ _⟩
            case round =>
              obtain ⟨j, hj, rfl, hom, hbj⟩ := hrel
              have ckj := ck
              rw [← hbj.cell (p := ⟨g, kk, none⟩) hgl] at ckj
              have fkj := fk
              rw [← hbj.frozen (p := ⟨g, kk, none⟩) hgl] at fkj
              by_cases hlt3 : j < l.length
              · obtain ⟨lb, loff, rfl, hcl⟩ := Ints_some (IP_ints Hipl.out) (by omega)
                have cj := hcl j hlt3
                rw [← hbj.cell (p := ⟨lb, loff + j, none⟩) (lt_of_cell cj)] at cj
                have hgd : l.getD j 0 = l[j] := by rw [List.getD_eq_getElem?_getD, List.getElem?_eq_getElem hlt3]; rfl
                have hbd := Hbl.out (l.getD j 0) (by rw [hgd]; exact List.getElem_mem hlt3)
                have Htk : Hid ((l.take (j + 1)).map (· + (o : Int)) = (l.take j).map (· + (o : Int)) ++ [l.getD j 0 + (o : Int)]) := by
                  show _ = _
                  rw [hgd, List.take_add_one, List.getElem?_eq_getElem hlt3, List.map_append]; rfl
                obtain ⟨ma, mc, hvm⟩ := own_shape hom
                subst hvm
                have Hom := hide hom
                have Hbj := hide hbj
                have hzj := hbj.size
                have hjI : (j : Int) < l.length := by omega
                have hj0 : (0 : Int) ≤ j := by omega
                have htl : ((l.take j).map (· + (o : Int))).length ≤ 120 := by rw [List.length_map, List.length_take]; omega
                have HO := hide (fun o1 => OwnI.below Hom.out (below1 wr o1))
                clear hcl hom hbj hgd
                generalize l.getD j 0 = e at *
                obtain ⟨e0, e1⟩ := hbd
                go_wp2_with (at_builtin; go_must (refine wpList_append_ints rfl (.tmp 38) (.tmp 49) rfl _ _ ((l.take j).map (· + (o : Int))) rfl (HO.out _) (.slice (some ⟨wr.heap.size, 0, none⟩) 1 1) [e + (o : Int)] rfl (src_one (cell_new 0 rfl)) (by rw [List.length_singleton]; omega) (by rw [World.size_alloc]; omega) ?_))
                intro v6 w6 hown6 hgr6 hat6
                have Hown6 := hide hown6
                have Hb6 := hide ((Hbj.out.alloc hzj _).grown hgr6 (by rw [World.size_alloc]; omega) (fun k' hk' => (own_lt Hom.out k' (ownBlock_len hk')).1))
                clear hown6 hgr6 hat6
                go_wp2_with fail
                go_roundw
                case rel => exact ⟨j + 1, by omega, by go_num, by rw [Htk.out, List.map_take]; exact Hown6.out, Hb6.out⟩
                case measure => simp [intOf]; omega
              · have hj2 : j = l.length := by omega
                subst hj2
                rw [List.take_length] at hom
                obtain ⟨ma, mc, hvm⟩ := own_shape hom
                subst hvm
                have Hst3 := hide (rows_store (kk := kk) (n := X.length) ⟨xi, by rw [moved_length]; exact Hoi.out, Hki.out⟩ (moved_length X o kk) hbj hom Hbi.out.size)
                have Hbs := hide ((Hbi.out.trans (hbj.mono Hbi.out.size)).setCell (p := ⟨g, kk, none⟩) hgb (.slice ma (l.map (· + (o : Int))).length mc))
                clear hom hbj
                rw [Hm2.out] at Hst3
                rw [List.length_map] at Hst3 Hbs ⊢
                go_wp2_with fail
                go_roundw
                case rel => exact ⟨kk + 1, by omega, by go_num, Hst3.out, Hbs.out⟩
                case measure => simp [intOf]; omega
          · have hkk2 : kk = X.length := by omega
            subst hkk2
            rw [moved_all, HXs.out] at hki
            have hRl : (argsAt c o).length = c.sz := (args_length _).1 c o (Nat.le_refl _)
            have hxil : xi.length = c.sz := by rw [RK_length hki]; exact hRl
            have Hsrc := hide (rows_src hoi hki (hRl.trans HXl.out.symm) hX0)
            have Hoo2 := hide (own_same Hoo.out (w' := wr) (fun g' hg' => hbi.block g' (own_lt Hoo.out g' hg').2))
            have Hoa2 := hide (OwnI.below Hoa.out hbi)
            have Hki := hide hki
            have Hbi := hide hbi
            have hzi := hbi.size
            have HRl := hide hRl
            have hnl : (numsL 0 (t.args.take k)).length ≤ 120 := by rw [numsL_length, List.length_take]; omega
            have Hst2' : Hid (numsL 0 (t.args.take (k + 1)) = numsL 0 (t.args.take k) ++ [(o : Int) + (c.sz : Int) - 1]) := by
              show _ = _
              rw [Hst2.out, show ((o + c.sz : Nat) : Int) - 1 = (o : Int) + (c.sz : Int) - 1 by omega]
            clear hoi hki hbi hci hfi hRl Hst2
            go_wp2_with (at_builtin; go_must (refine wpList_append_vals rfl (.tmp 55) (.tmp 56) rfl (w.heap.size + 1) (.slice oa o oc) o xo rfl Hoo2.out _ xi rfl Hsrc.out (by omega) (by omega) ?_))
            intro v5 w5 hown5 hgr5 hat5
            have hjn := rows_join (va := .slice aa (numsL 0 (t.args.take k)).length ac) Hko.out Hki.out Hbi.out rfl (by omega) (fun k' hk' => (own_lt Hoo.out k' hk').2) (fun k' hk' => (own_lt Hoa.out k' hk').2) (by rw [Hol.out, HRl.out]; exact hown5) hgr5 hat5
            have Hoa5 := hide (OwnI.grown Hoa2.out hgr5 (by
              cases hvb : (Value.slice aa (numsL 0 (t.args.take k)).length ac).ownBlock with
              | none => exact Or.inl rfl
              | some g' => exact Or.inr (fun e => Hdis.out g' e.symm hvb)))
            have hd5 : ∀ g', v5.ownBlock = some g' → (Value.slice aa (numsL 0 (t.args.take k)).length ac).ownBlock ≠ some g' := fun g' hg' => by
              rcases hat5 with h | h
              · exact Hdis.out g' (h.symm.trans hg')
              · intro e
                have h9 := (own_lt Hoa.out g' e).2
                have h8 : wr.heap.size = g' := by simpa using h.symm.trans hg'
                omega
            have Hb5 := hide (((Hb.out.trans (Hbi.out.mono (by omega)))).grown hgr5 (by omega) (fun k' hk' => (own_lt Hoo.out k' hk').1))
            obtain ⟨a5, c5, hv5⟩ := own_shape hown5
            have hz5 := hgr5.size
            have Hjn := hide hjn
            have Hd5 := hide hd5
            subst hv5
            have HO5 := hide (fun o1 => OwnI.below Hoa5.out (below1 w5 o1))
            clear hown5 hgr5 hat5 hjn hd5 Hsrc Hoo2
            go_wp2_with (at_builtin; go_must (refine wpList_append_ints rfl (.tmp 58) (.tmp 62) rfl (w.heap.size + 1) (.slice aa (numsL 0 (t.args.take k)).length ac) (numsL 0 (t.args.take k)) rfl (HO5.out _) (.slice (some ⟨w5.heap.size, 0, none⟩) 1 1) [(o : Int) + (c.sz : Int) - 1] rfl (src_one (cell_new 0 rfl)) (by rw [List.length_singleton]; omega) (by rw [World.size_alloc]; omega) ?_))
            intro v6 w6 hown6 hgr6 hat6
            obtain ⟨hr6, hd6⟩ := rows_beside (va' := v6) (RowsI_below Hjn.out (below1 w5 (.cells #[.int .i64 ((o : Int) + (c.sz : Int) - 1)] 3))) Hd5.out hgr6 (by rw [World.size_alloc]; exact hat6)
            have Hb6 := hide ((Hb5.out.alloc (by omega) _).grown hgr6 (by rw [World.size_alloc]; omega) (fun k' hk' => (own_lt Hoa5.out k' hk').1))
            have Hr6 := hide hr6
            have Hd6 := hide hd6
            have Hown6 := hide hown6
            clear hr6 hd6 hown6 hgr6 hat6
            go_wp2_with fail
            go_roundw
            case rel => exact ⟨k + 1, by omega, by go_num, by rw [Hst1.out]; exact Hr6.out, by rw [Hst2'.out]; exact Hown6.out, Hd6.out, Hb6.out⟩
            case measure => simp [intOf]; omega
      · have hk2 : k = t.args.length := by omega
        subst hk2
        rw [List.take_length] at hoo hko hoa hdis hol ⊢
        have Hoo := hide hoo
        have Hko := hide hko
        have Hoa := hide hoa
        have Hdis := hide hdis
        have Hb := hide hb
        have HO := hide (fun o1 => own_same Hoo.out (w' := wr.alloc o1) (fun g' hg' => (below1 wr o1).block g' (own_lt Hoo.out g' hg').2))
        have hsmall : (argsAt.aL t.args 0).length ≤ 120 := by omega
        clear hoo hko hoa hdis hb hol
        go_wp2_with (at_builtin; go_must (refine wpList_append_vals rfl (.tmp 64) (.tmp 66) rfl (w.heap.size + 1) (.slice oa (argsAt.aL t.args 0).length oc) (argsAt.aL t.args 0).length xo rfl (HO.out _) (.slice (some ⟨wr.heap.size, 0, none⟩) 1 1) [.slice aa (numsL 0 t.args).length ac] rfl (srcv_one rfl) (by rw [List.length_singleton]; omega) (by rw [World.size_alloc]; omega) ?_))
        intro v5 w5 hown5 hgr5 hat5
        have Hfin : Hid (RowsI w.heap.size (fun k => w.heap.size ≤ k ∧ v5.ownBlock ≠ some k) w5 v5 (argsAt t 0)) := by
          rw [argsAt_eq]
          have hva := Hoa.out
          have hne : ∀ k', (Value.slice oa (argsAt.aL t.args 0).length oc).ownBlock ≠ some k' → k' < wr.heap.size → v5.ownBlock ≠ some k' ∧ w5.heap[k']? = wr.heap[k']? := fun k' hk' hlt' => by
            refine ⟨?_, by rw [hgr5.block k' (by rw [World.size_alloc]; omega) (fun e => hk' e.symm)]; exact Below.heap_alloc _ _ _ hlt'⟩
            rcases hat5 with h | h
            · rw [h]; exact hk'
            · rw [h]; intro e; cases e; omega
          refine ⟨xo ++ [.slice aa (numsL 0 t.args).length ac], ?_, RK_append (RK_mono (fun k' hk' hlt' => ?_) Hko.out) ⟨aa, ac, [], rfl, ?_, rfl⟩⟩
          · rw [List.length_append, List.length_singleton]
            obtain ⟨h1, h2⟩ := hown5
            refine ⟨h1, ?_⟩
            rcases h2 with h2 | ⟨g', cap', cur, hv, hg', r'⟩
            · exact Or.inl h2
            · exact Or.inr ⟨g', cap', cur, hv, by omega, r'⟩
          · have h9 := hne k' hk'.2.1 hlt'
            exact ⟨⟨by omega, h9.1⟩, h9.2⟩
          · obtain ⟨a9, c9, he, hi⟩ := OwnI.ip hva
            simp only [Value.slice.injEq, true_and] at he
            obtain ⟨rfl, rfl⟩ := he
            refine IP_mono (fun k' hk' hlt' => ?_) hi
            have h9 := hne k' (fun e => Hdis.out k' e hk') hlt'
            have h8 := (own_lt hva k' hk').1
            exact ⟨⟨by omega, h9.1⟩, h9.2⟩
        have Hbf := hide (hbW.trans (((Hb.out.alloc (by omega) _).grown hgr5 (by rw [World.size_alloc]; omega) (fun k' hk' => (own_lt Hoo.out k' hk').1)).mono (by omega)))
        clear hown5 hgr5 hat5
        go_wp2_with fail
        go_ret
        exact ⟨_, rfl, Hfin.out, Hbf.out⟩

end Go.Proofs.Ytbkedppkdhfpoaa

namespace Go.Proofs.Ytbkedppkdhfpoaa

theorem parts_len (t : T) : (parts t).length = t.sz := (parts_length _).1 t (Nat.le_refl _)
theorem partsL_len (ts : List T) : (parts.partsL ts).length = T.sz.szL ts := (parts_length _).2 ts (Nat.le_refl _)

/-- Number m of the arguments' numbers is where that argument stands. -/
theorem nums_at (L : List T) : ∀ (ts : List T) (o : Nat) (rest : List T), L.drop o = parts.partsL ts ++ rest → ∀ (m : Nat) (c : T), ts[m]? = some c → ∃ j : Nat, (numsL o ts)[m]? = some (j : Int) ∧ j < o + T.sz.szL ts ∧ L[j]? = some c := by
  intro ts
  induction ts with
  | nil => intro o rest _ m c h; simp at h
  | cons t ts ih =>
    intro o rest h m c hm
    have hp := t.sz_pos
    rw [partsL_cons, List.append_assoc] at h
    rw [T.szL_cons]
    cases m with
    | zero =>
      have hc : t = c := by simpa using hm
      subst hc
      refine ⟨o + t.sz - 1, ?_, by omega, ?_⟩
      · rw [numsL, List.getElem?_cons_zero, show ((o + t.sz : Nat) : Int) - 1 = ((o + t.sz - 1 : Nat) : Int) by omega]
      · have h1 : (L.drop o)[t.sz - 1]? = some t := by
          rw [h, List.getElem?_append_left (by rw [parts_len]; omega), parts_eq, List.getElem?_append_right (by rw [partsL_len]; have := T.sz_eq t; omega), partsL_len]
          rw [show t.sz - 1 - T.sz.szL t.args = 0 by have := T.sz_eq t; omega]; rfl
        rw [List.getElem?_drop] at h1
        rw [show o + t.sz - 1 = o + (t.sz - 1) by omega]; exact h1
    | succ m =>
      have h2 : L.drop (o + t.sz) = parts.partsL ts ++ rest := by
        rw [← List.drop_drop, h, ← parts_len t, List.drop_left]
      obtain ⟨j, g1, g2, g3⟩ := ih (o + t.sz) rest h2 m c (by simpa using hm)
      exact ⟨j, by rw [numsL, List.getElem?_cons_succ]; exact g1, by omega, g3⟩

/-- Of each part its list has as many numbers as it has arguments; each is lesser than its own, and is that argument's. -/
theorem args_mean (L : List T) : ∀ (n : Nat), (∀ (t : T) (o : Nat) (rest : List T), t.sz ≤ n → L.drop o = parts t ++ rest → ∀ (i : Nat) (x : T), (parts t)[i]? = some x → ∃ l, (argsAt t o)[i]? = some l ∧ l.length = x.args.length ∧ ∀ (m : Nat) (c : T), x.args[m]? = some c → ∃ j : Nat, l[m]? = some (j : Int) ∧ j < o + i ∧ L[j]? = some c) ∧
    (∀ (ts : List T) (o : Nat) (rest : List T), T.sz.szL ts ≤ n → L.drop o = parts.partsL ts ++ rest → ∀ (i : Nat) (x : T), (parts.partsL ts)[i]? = some x → ∃ l, (argsAt.aL ts o)[i]? = some l ∧ l.length = x.args.length ∧ ∀ (m : Nat) (c : T), x.args[m]? = some c → ∃ j : Nat, l[m]? = some (j : Int) ∧ j < o + i ∧ L[j]? = some c) := by
  intro n
  induction n with
  | zero =>
    refine ⟨fun t o rest h => by have := t.sz_pos; omega, fun ts o rest h _ i x hx => ?_⟩
    cases ts with
    | nil => simp [parts.partsL] at hx
    | cons t ts => have := t.sz_pos; rw [T.szL_cons] at h; omega
  | succ n ih =>
    have h1 : ∀ (t : T) (o : Nat) (rest : List T), t.sz ≤ n + 1 → L.drop o = parts t ++ rest → ∀ (i : Nat) (x : T), (parts t)[i]? = some x → ∃ l, (argsAt t o)[i]? = some l ∧ l.length = x.args.length ∧ ∀ (m : Nat) (c : T), x.args[m]? = some c → ∃ j : Nat, l[m]? = some (j : Int) ∧ j < o + i ∧ L[j]? = some c := fun t o rest h hd i x hx => by
      have hts := T.sz_eq t
      rw [parts_eq, List.append_assoc] at hd
      rw [parts_eq] at hx
      have hal : (argsAt.aL t.args o).length = T.sz.szL t.args := (args_length _).2 t.args o (Nat.le_refl _)
      rw [argsAt_eq]
      rcases Nat.lt_or_ge i (T.sz.szL t.args) with hi | hi
      · rw [List.getElem?_append_left (by rw [partsL_len]; exact hi)] at hx
        obtain ⟨l, g1, g2, g3⟩ := ih.2 t.args o ([t] ++ rest) (by omega) hd i x hx
        exact ⟨l, by rw [List.getElem?_append_left (by rw [hal]; exact hi)]; exact g1, g2, g3⟩
      · rw [List.getElem?_append_right (by rw [partsL_len]; exact hi), partsL_len] at hx
        have hi2 : i = T.sz.szL t.args := by
          rcases Nat.lt_or_ge (T.sz.szL t.args) i with h9 | h9
          · rw [List.getElem?_eq_none (by simp; omega)] at hx; cases hx
          · omega
        subst hi2
        rw [Nat.sub_self] at hx
        have hxt : t = x := by simpa using hx
        subst hxt
        refine ⟨numsL o t.args, by rw [List.getElem?_append_right (by omega), hal, Nat.sub_self]; rfl, numsL_length _ _, fun m c hm => ?_⟩
        exact nums_at L t.args o ([t] ++ rest) hd m c hm
    refine ⟨h1, fun ts => ?_⟩
    induction ts with
    | nil => intro o rest _ _ i x hx; simp [parts.partsL] at hx
    | cons t ts iht =>
      intro o rest h hd i x hx
      rw [T.szL_cons] at h
      rw [partsL_cons] at hx
      rw [partsL_cons, List.append_assoc] at hd
      have hal : (argsAt t o).length = t.sz := (args_length _).1 t o (Nat.le_refl _)
      rw [aL_cons]
      rcases Nat.lt_or_ge i t.sz with hi | hi
      · rw [List.getElem?_append_left (by rw [parts_len]; exact hi)] at hx
        obtain ⟨l, g1, g2, g3⟩ := h1 t o (parts.partsL ts ++ rest) (by omega) hd i x hx
        exact ⟨l, by rw [List.getElem?_append_left (by rw [hal]; exact hi)]; exact g1, g2, g3⟩
      · rw [List.getElem?_append_right (by rw [parts_len]; exact hi), parts_len] at hx
        have hd2 : L.drop (o + t.sz) = parts.partsL ts ++ rest := by
          rw [← List.drop_drop, hd, ← parts_len t, List.drop_left]
        obtain ⟨l, g1, g2, g3⟩ := iht (o + t.sz) rest (by omega) hd2 (i - t.sz) x hx
        refine ⟨l, by rw [List.getElem?_append_right (by omega), hal]; exact g1, g2, fun m c hm => ?_⟩
        obtain ⟨j, k1, k2, k3⟩ := g3 m c hm
        exact ⟨j, k1, by omega, k3⟩

theorem args_of {s : T} {i : Nat} {x : T} (h : (parts s)[i]? = some x) : ∃ l, (argsAt s 0)[i]? = some l ∧ l.length = x.args.length ∧ ∀ (m : Nat) (c : T), x.args[m]? = some c → ∃ j : Nat, l[m]? = some (j : Int) ∧ j < i ∧ (parts s)[j]? = some c := by
  obtain ⟨l, h1, h2, h3⟩ := (args_mean (parts s) _).1 s 0 [] (Nat.le_refl _) (by simp) i x h
  exact ⟨l, h1, h2, fun m c hm => by
    obtain ⟨j, g1, g2, g3⟩ := h3 m c hm
    exact ⟨j, g1, by omega, g3⟩⟩

end Go.Proofs.Ytbkedppkdhfpoaa

namespace Go.Proofs.Ytbkedppkdhfpoaa
open Go.RowKit

/-- The parts of s lie in the block g, what stands behind them below lo. -/
def PartsAt (lo : Nat) (w : World) (g : Nat) (s : T) : Prop := g < w.heap.size ∧ ∀ k x, (parts s)[k]? = some x → ∃ a1 cap2, w.cell? ⟨g, k * 3, none⟩ = some (.int .i64 x.v) ∧ w.cell? ⟨g, k * 3 + 1, none⟩ = some (.int .i64 x.f) ∧ w.cell? ⟨g, k * 3 + 2, none⟩ = some (.slice a1 x.args.length cap2) ∧ InP (fun b => b < lo) w x.args a1
theorem PartsAt.below {lo : Nat} {w w' : World} {g : Nat} {s : T} (h : PartsAt lo w g s) (hb : Below w.heap.size w w') : PartsAt lo w' g s := by
  refine ⟨Nat.lt_of_lt_of_le h.1 hb.size, fun k x hx => ?_⟩
  obtain ⟨a1, c2, h0, h1, h2, hi⟩ := h.2 k x hx
  have e : ∀ j, w'.cell? ⟨g, j, none⟩ = w.cell? ⟨g, j, none⟩ := fun j => hb.cell (p := ⟨g, j, none⟩) h.1
  exact ⟨a1, c2, (e _).trans h0, (e _).trans h1, (e _).trans h2, InP_below hb hi⟩
theorem partsAt_one (t : T) (a : Option Addr) (cap : Nat) (w : World) (ht : t.sz ≤ 120) (hin : InL w t.args a) :
    Calls Try.prog 58 #[.slice none 0 0, .agg #[.int .i64 t.v, .int .i64 t.f, .slice a t.args.length cap]] w fun e w' => ∃ g cap1, e = .returned (.slice (some ⟨g, 0, none⟩) t.sz cap1) ∧ PartsAt w.heap.size w' g t ∧ Below w.heap.size w w' := by
  refine (partsK_one t a cap w (by omega) hin).mono ?_
  rintro e w' ⟨g, cap1, rfl, _, hlt, hc, hb⟩
  exact ⟨g, cap1, rfl, ⟨hlt, hc⟩, hb⟩

/-- Lists of numbers lie in the block g. -/
def ListsAt (w : World) (g : Nat) (rows : List (List Int)) : Prop := g < w.heap.size ∧ ∀ i l, rows[i]? = some l → ∃ a c, w.cell? ⟨g, i, none⟩ = some (.slice a l.length c) ∧ Ints w l a
theorem ListsAt.below {w w' : World} {g : Nat} {rows : List (List Int)} (h : ListsAt w g rows) (hb : Below w.heap.size w w') : ListsAt w' g rows := by
  refine ⟨Nat.lt_of_lt_of_le h.1 hb.size, fun i l hl => ?_⟩
  obtain ⟨a, c, h0, hi⟩ := h.2 i l hl
  exact ⟨a, c, by rw [hb.cell (p := ⟨g, i, none⟩) h.1]; exact h0, Ints_below hb hi⟩
theorem listsAt_one (t : T) (a : Option Addr) (cap : Nat) (w : World) (ht : t.sz ≤ 120) (hin : InL w t.args a) :
    Calls Try.prog 82 #[.agg #[.int .i64 t.v, .int .i64 t.f, .slice a t.args.length cap]] w fun e w' => ∃ g cap1, e = .returned (.slice (some ⟨g, 0, none⟩) t.sz cap1) ∧ ListsAt w' g (argsAt t 0) ∧ Below w.heap.size w w' := by
  refine (argsOf_any 120 t a cap w ht ht hin).mono ?_
  rintro e w' ⟨v, rfl, ⟨xs, hown, hrk⟩, hb⟩
  have hl : (argsAt t 0).length = t.sz := (args_length _).1 t 0 (Nat.le_refl _)
  rw [hl] at hown
  obtain ⟨g, cap1, rfl, _, hlt, hc, _⟩ := own_cells1 hown t.sz_pos
  refine ⟨g, cap1, rfl, ⟨hlt, fun i l hi => ?_⟩, hb⟩
  obtain ⟨a', c', h1, h2⟩ := RK_at hrk hi
  exact ⟨a', c', hc i _ h1, IP_ints h2⟩

theorem Try.underlying112 : Try.prog.underlying 112 = some (.slice 113) := by kernel_rfl
theorem Try.underlying113 : Try.prog.underlying 113 = some (.slice 4) := by kernel_rfl
theorem Try.info113 : (Try.prog.info? 113).map (fun i => (i.zero, i.size, i.bytes)) = some (some (.slice none 0 0), 1, 24) := by kernel_rfl
theorem Try.info4 : (Try.prog.info? 4).map (fun i => (i.zero, i.size, i.bytes)) = some (some (.bool false), 1, 1) := by kernel_rfl
def rowT (n : Nat) : Array Value := madeCells #[.slice none 0 0] (n * 1)
def rowB (n : Nat) : Array Value := madeCells #[.bool false] (n * 1)
theorem run_makeT (n : Nat) (hn : n ≤ 1000000) (w : World) : (Instr.makeSlice 112 (.int .i64 (n : Int)) (.int .i64 (n : Int))).run Try.prog w = .ok (.slice (some ⟨w.heap.size, 0, none⟩) n n) (w.alloc (.cells (rowT n) 113)) := by
  obtain ⟨i, hi, hzz⟩ := Option.map_eq_some_iff.1 Try.info113
  simp only [Prod.mk.injEq] at hzz
  obtain ⟨hz, hs, hb⟩ := hzz
  have hr := run_make (P := Try.prog) w 112 113 i _ Try.underlying112 hi hz .i64 .i64 n n (by omega) (Int.le_refl _) (by rw [hb]; omega) (by omega)
  simp only [Int.toNat_natCast, hs] at hr
  exact hr
theorem run_makeB (n : Nat) (hn : n ≤ 1000000) (w : World) : (Instr.makeSlice 113 (.int .i64 (n : Int)) (.int .i64 (n : Int))).run Try.prog w = .ok (.slice (some ⟨w.heap.size, 0, none⟩) n n) (w.alloc (.cells (rowB n) 4)) := by
  obtain ⟨i, hi, hzz⟩ := Option.map_eq_some_iff.1 Try.info4
  simp only [Prod.mk.injEq] at hzz
  obtain ⟨hz, hs, hb⟩ := hzz
  have hr := run_make (P := Try.prog) w 113 4 i _ Try.underlying113 hi hz .i64 .i64 n n (by omega) (Int.le_refl _) (by rw [hb]; omega) (by omega)
  simp only [Int.toNat_natCast, hs] at hr
  exact hr
theorem rowB_at {n j : Nat} (h : j < n) : (rowB n)[j]? = some (.bool false) := by
  simp [rowB, madeCells, h, Nat.mod_one]

/-- The table: n rows of C truths, each in a block of its own behind K. -/
structure TT (K R C n : Nat) (rb : Nat → Nat) (w : World) (M : Nat → Nat → Bool) : Prop where
  rows : ∀ i, i < n → w.cell? ⟨K, i, none⟩ = some (.slice (some ⟨rb i, 0, none⟩) C C)
  ex : ∀ i, i < R → ∃ v, w.cell? ⟨K, i, none⟩ = some v
  frK : ∀ i, w.frozen? ⟨K, i, none⟩ = false
  ent : ∀ i j, i < n → j < C → w.cell? ⟨rb i, j, none⟩ = some (.bool (M i j))
  fr : ∀ i j, i < n → w.frozen? ⟨rb i, j, none⟩ = false
  gtK : ∀ i, i < n → K < rb i
  lt : ∀ i, i < n → rb i < w.heap.size
  inj : ∀ i j, i < n → j < n → rb i = rb j → i = j
  ltK : K < w.heap.size
theorem TT.below {K R C n : Nat} {rb : Nat → Nat} {w w' : World} {M : Nat → Nat → Bool} (h : TT K R C n rb w M) (hb : Below w.heap.size w w') : TT K R C n rb w' M := by
  have eK : ∀ i, w'.cell? ⟨K, i, none⟩ = w.cell? ⟨K, i, none⟩ := fun i => hb.cell (p := ⟨K, i, none⟩) h.ltK
  exact ⟨fun i hi => (eK i).trans (h.rows i hi), fun i hi => by obtain ⟨v, hv⟩ := h.ex i hi; exact ⟨v, (eK i).trans hv⟩, fun i => by rw [hb.frozen (p := ⟨K, i, none⟩) h.ltK]; exact h.frK i,
    fun i j hi hj => by rw [hb.cell (p := ⟨rb i, j, none⟩) (h.lt i hi)]; exact h.ent i j hi hj, fun i j hi => by rw [hb.frozen (p := ⟨rb i, j, none⟩) (h.lt i hi)]; exact h.fr i j hi, h.gtK, fun i hi => Nat.lt_of_lt_of_le (h.lt i hi) hb.size, h.inj, Nat.lt_of_lt_of_le h.ltK hb.size⟩
/-- An entry written. -/
theorem TT.set {K R C n : Nat} {rb : Nat → Nat} {w : World} {M : Nat → Nat → Bool} (h : TT K R C n rb w M) {i j : Nat} (hi : i < n) (hj : j < C) (x : Bool) : TT K R C n rb (w.setCell ⟨rb i, j, none⟩ (.bool x)) (fun i' j' => if i' = i ∧ j' = j then x else M i' j') := by
  have hs : (w.setCell ⟨rb i, j, none⟩ (.bool x)).heap.size = w.heap.size := by simp [World.setCell]
  have hne : K ≠ rb i := by have := h.gtK i hi; omega
  have eK : ∀ k, (w.setCell ⟨rb i, j, none⟩ (.bool x)).cell? ⟨K, k, none⟩ = w.cell? ⟨K, k, none⟩ := fun k => World.cell?_of_block (w := w) (a := ⟨K, k, none⟩) (Below.heap_setCell _ _ _ _ hne)
  refine ⟨fun k hk => (eK k).trans (h.rows k hk), fun k hk => by obtain ⟨v, hv⟩ := h.ex k hk; exact ⟨v, (eK k).trans hv⟩, fun k => by rw [World.frozen?_setCell]; exact h.frK k, fun i' j' hi' hj' => ?_, fun i' j' hi' => by rw [World.frozen?_setCell]; exact h.fr i' j' hi', h.gtK, fun k hk => by rw [hs]; exact h.lt k hk, h.inj, by rw [hs]; exact h.ltK⟩
  by_cases e : i' = i
  · subst e
    by_cases e2 : j' = j
    · subst e2
      rw [World.cell?_setCell_same _ _ _ (h.ent i' j' hi hj), if_pos ⟨rfl, rfl⟩]
    · rw [World.cell?_setCell_other _ _ _ _ (fun e3 => e2 (by injection e3 with _ e4; exact e4.symm)), if_neg (fun h => e2 h.2)]; exact h.ent _ _ hi' hj'
  · rw [World.cell?_of_block (w := w) (a := ⟨rb i', j', none⟩) (Below.heap_setCell _ _ _ _ (fun e3 => e (h.inj _ _ hi' hi e3))), if_neg (fun h => e h.1)]; exact h.ent _ _ hi' hj'

/-- What is done is right: all rows ahead of i, and of row i what lies ahead of k. -/
def Right (PS PT : List T) (M : Nat → Nat → Bool) (i k : Nat) : Prop := ∀ i' j x y, PS[i']? = some x → PT[j]? = some y → (i' < i ∨ i' = i ∧ j < k) → M i' j = gt x y
theorem Right.set {PS PT : List T} {M : Nat → Nat → Bool} {i k : Nat} {x y : T} (h : Right PS PT M i k) (hx : PS[i]? = some x) (hy : PT[k]? = some y) : Right PS PT (fun i' j' => if i' = i ∧ j' = k then gt x y else M i' j') i (k + 1) := by
  intro i' j x' y' hx' hy' hd
  by_cases e : i' = i ∧ j = k
  · obtain ⟨rfl, rfl⟩ := e
    rw [hx] at hx'; rw [hy] at hy'
    obtain rfl : x = x' := by simpa using hx'
    obtain rfl : y = y' := by simpa using hy'
    simp
  · simp only [if_neg e]
    exact h i' j x' y' hx' hy' (by omega)
theorem Right.row {PS PT : List T} {M : Nat → Nat → Bool} {i k : Nat} (h : Right PS PT M i k) (hk : k = PT.length) : Right PS PT M (i + 1) 0 := by
  intro i' j x' y' hx' hy' hd
  refine h i' j x' y' hx' hy' ?_
  have hj : j < PT.length := by
    rcases Nat.lt_or_ge j PT.length with h | h
    · exact h
    · rw [List.getElem?_eq_none h] at hy'; cases hy'
  omega

end Go.Proofs.Ytbkedppkdhfpoaa

namespace Go.Proofs.Ytbkedppkdhfpoaa
open Go.RowKit

/-- One row more, of nothing true yet. -/
theorem TT.row {K R C n : Nat} {rb : Nat → Nat} {w : World} {M : Nat → Nat → Bool} (h : TT K R C n rb w M) (hn : n < R) : TT K R C (n + 1) (fun i => if i = n then w.heap.size else rb i) ((w.setCell ⟨K, n, none⟩ (.slice (some ⟨w.heap.size, 0, none⟩) C C)).alloc (.cells (rowB C) 4)) (fun i j => if i = n then false else M i j) := by
  have hlK := h.ltK
  have hs : (w.setCell ⟨K, n, none⟩ (.slice (some ⟨w.heap.size, 0, none⟩) C C)).heap.size = w.heap.size := by simp [World.setCell]
  have eK : ∀ k, ((w.setCell ⟨K, n, none⟩ (.slice (some ⟨w.heap.size, 0, none⟩) C C)).alloc (.cells (rowB C) 4)).cell? ⟨K, k, none⟩ = (w.setCell ⟨K, n, none⟩ (.slice (some ⟨w.heap.size, 0, none⟩) C C)).cell? ⟨K, k, none⟩ := fun k => cell_alloc_lt (by rw [hs]; exact hlK)
  have eN : ((w.setCell ⟨K, n, none⟩ (.slice (some ⟨w.heap.size, 0, none⟩) C C)).alloc (.cells (rowB C) 4)).heap[w.heap.size]? = some (.cells (rowB C) 4) := by
    have h9 := heap_alloc_new (w.setCell ⟨K, n, none⟩ (.slice (some ⟨w.heap.size, 0, none⟩) C C)) (.cells (rowB C) 4)
    rw [hs] at h9; exact h9
  have eR : ∀ i, i < n → ((w.setCell ⟨K, n, none⟩ (.slice (some ⟨w.heap.size, 0, none⟩) C C)).alloc (.cells (rowB C) 4)).heap[rb i]? = w.heap[rb i]? := fun i hi => by
    have h1 := h.gtK i hi
    have h2 := h.lt i hi
    rw [Below.heap_alloc _ _ _ (by rw [hs]; exact h2)]
    exact Below.heap_setCell _ _ _ _ (show rb i ≠ K by omega)
  refine ⟨fun i hi => ?_, fun i hi => ?_, fun i => ?_, fun i j hi hj => ?_, fun i j hi => ?_, fun i hi => ?_, fun i hi => ?_, fun i j hi hj he => ?_, by rw [World.size_alloc, hs]; omega⟩
  · rw [eK]
    by_cases e : i = n
    · subst e
      obtain ⟨v, hv⟩ := h.ex i hn
      rw [World.cell?_setCell_same _ _ _ hv, if_pos rfl]
    · rw [World.cell?_setCell_other _ _ _ _ (addr_ne (by omega)), if_neg e]; exact h.rows i (by omega)
  · rw [eK]
    obtain ⟨v, hv⟩ := h.ex i hi
    by_cases e : i = n
    · subst e; exact ⟨_, World.cell?_setCell_same _ _ _ hv⟩
    · exact ⟨v, by rw [World.cell?_setCell_other _ _ _ _ (addr_ne (by omega))]; exact hv⟩
  · rw [World.frozen?_of_block (w := w.setCell ⟨K, n, none⟩ (.slice (some ⟨w.heap.size, 0, none⟩) C C)) (a := ⟨K, i, none⟩) (Below.heap_alloc _ _ _ (by rw [hs]; exact hlK)), World.frozen?_setCell]; exact h.frK i
  · by_cases e : i = n
    · simp only [if_pos e]
      rw [cell_new j hs.symm]; exact rowB_at hj
    · simp only [if_neg e]
      rw [World.cell?_of_block (w := w) (a := ⟨rb i, j, none⟩) (eR i (by omega))]; exact h.ent i j (by omega) hj
  · by_cases e : i = n
    · simp only [if_pos e]
      exact frozen_of_heap eN j
    · simp only [if_neg e]
      rw [World.frozen?_of_block (w := w) (a := ⟨rb i, j, none⟩) (eR i (by omega))]; exact h.fr i j (by omega)
  · by_cases e : i = n
    · simp only [if_pos e]; exact hlK
    · simp only [if_neg e]; exact h.gtK i (by omega)
  · rw [World.size_alloc, hs]
    by_cases e : i = n
    · simp only [if_pos e]; omega
    · simp only [if_neg e]; have := h.lt i (by omega); omega
  · by_cases e : i = n
    · by_cases e2 : j = n
      · omega
      · simp only [if_pos e, if_neg e2] at he
        have := h.lt j (by omega); omega
    · by_cases e2 : j = n
      · simp only [if_neg e, if_pos e2] at he
        have := h.lt i (by omega); omega
      · simp only [if_neg e, if_neg e2] at he
        exact h.inj i j (by omega) (by omega) he
theorem TT.start (WB : World) (R C : Nat) : TT WB.heap.size R C 0 (fun _ => 0) (WB.alloc (.cells (rowT R) 113)) (fun _ _ => false) := by
  refine ⟨fun i hi => by omega, fun i hi => ?_, fun i => frozen_new i rfl, fun i j hi => by omega, fun i j hi => by omega, fun i hi => by omega, fun i hi => by omega, fun i j hi => by omega, by simp⟩
  rw [cell_new i rfl]
  have h : i < (rowT R).size := by rw [rowT, size_madeCells]; omega
  exact ⟨(rowT R)[i], Array.getElem?_eq_getElem h⟩

end Go.Proofs.Ytbkedppkdhfpoaa

namespace Go.Proofs.Ytbkedppkdhfpoaa
open Go.RowKit

theorem cell_below {w w' : World} {b o : Nat} {v : Value} (hb : Below w.heap.size w w') (h : w.cell? ⟨b, o, none⟩ = some v) : w'.cell? ⟨b, o, none⟩ = some v := by
  rw [hb.cell (p := ⟨b, o, none⟩) (lt_of_cell h)]; exact h
theorem drewB (B : Nat) (w : World) (n : Nat) : Below B w (w.drewN n) := ⟨rfl, rfl, rfl, Nat.le_refl _, fun _ _ => rfl⟩
theorem any_stepR {l : List T} {p : T → Bool} {m : Nat} {c : T} (h : l[m]? = some c) : (l.take (m + 1)).any p = ((l.take m).any p || p c) := by
  rw [List.take_add_one, h]; simp
theorem all_step {l : List T} {p : T → Bool} {m : Nat} {c : T} (h : l[m]? = some c) : (l.take (m + 1)).all p = ((l.take m).all p && p c) := by
  rw [List.take_add_one, h]; simp
theorem drop_at {l : List T} {m : Nat} {c : T} (h : l[m]? = some c) : l.drop m = c :: l.drop (m + 1) := by
  have hlt : m < l.length := by
    rcases Nat.lt_or_ge m l.length with h1 | h1
    · exact h1
    · rw [List.getElem?_eq_none h1] at h; cases h
  rw [List.getElem?_eq_getElem hlt] at h
  simp only [Option.some.injEq] at h
  rw [← h, List.getElem_cons_drop]
theorem firstN_drop {xs ys : List T} {m : Nat} {c d : T} (hx : xs[m]? = some c) (hy : ys[m]? = some d) : firstN gt (xs.drop m) (ys.drop m) = if sameT c d then firstN gt (xs.drop (m + 1)) (ys.drop (m + 1)) else gt c d := by
  rw [drop_at hx, drop_at hy, firstN]
theorem okP_parts {ar : List Int} : ∀ (n : Nat), (∀ t : T, t.sz ≤ n → okP ar t → ∀ p, p ∈ parts t → okP ar p ∧ p.sz ≤ t.sz) ∧ (∀ ts : List T, T.sz.szL ts ≤ n → okP.okL ar ts → ∀ p, p ∈ parts.partsL ts → okP ar p ∧ p.sz ≤ T.sz.szL ts) := by
  intro n
  induction n with
  | zero =>
    refine ⟨fun t h => by have := t.sz_pos; omega, fun ts h _ p hp => ?_⟩
    cases ts with
    | nil => simp [parts.partsL] at hp
    | cons t ts => have := t.sz_pos; rw [T.szL_cons] at h; omega
  | succ n ih =>
    have h1 : ∀ t : T, t.sz ≤ n + 1 → okP ar t → ∀ p, p ∈ parts t → okP ar p ∧ p.sz ≤ t.sz := fun t h hk p hp => by
      have hte := T.sz_eq t
      rw [parts_eq, List.mem_append, List.mem_singleton] at hp
      rcases hp with hp | rfl
      · have := ih.2 t.args (by omega) (okP_iff.1 hk).2 p hp
        exact ⟨this.1, by omega⟩
      · exact ⟨hk, Nat.le_refl _⟩
    refine ⟨h1, fun ts => ?_⟩
    induction ts with
    | nil => intro _ _ p hp; simp [parts.partsL] at hp
    | cons t ts iht =>
      intro h hk p hp
      rw [T.szL_cons] at h ⊢
      rw [partsL_cons, List.mem_append] at hp
      rcases hp with hp | hp
      · have := h1 t (by omega) (okL_cons.1 hk).1 p hp
        exact ⟨this.1, by omega⟩
      · have := iht (by omega) (okL_cons.1 hk).2 p hp
        exact ⟨this.1, by omega⟩

/-- What a round reads. -/
structure Cx (lo1 lo2 K : Nat) (s t x y : T) (i k gs gt' ga gb b1 b2 : Nat) (xla : Option Addr) (xlc : Nat) (lx : List Int) (yla : Option Addr) (ylc : Nat) (ly : List Int) (rb : Nat → Nat) (M : Nat → Nat → Bool) (xa : Option Addr) (xc : Nat) (ya : Option Addr) (yc : Nat) (w : World) : Prop where
  hx : (parts s)[i]? = some x
  hy : (parts t)[k]? = some y
  lxl : lx.length = x.args.length
  lyl : ly.length = y.args.length
  lxm : ∀ (m : Nat) (c : T), x.args[m]? = some c → ∃ j : Nat, lx[m]? = some (j : Int) ∧ j < i ∧ (parts s)[j]? = some c
  lym : ∀ (m : Nat) (c : T), y.args[m]? = some c → ∃ j : Nat, ly[m]? = some (j : Int) ∧ j < k ∧ (parts t)[j]? = some c
  la : w.cell? ⟨ga, i, none⟩ = some (.slice xla lx.length xlc)
  lai : Ints w lx xla
  lb : w.cell? ⟨gb, k, none⟩ = some (.slice yla ly.length ylc)
  lbi : Ints w ly yla
  ps : PartsAt lo1 w gs s
  pt : PartsAt lo2 w gt' t
  tt : TT K s.sz t.sz (i + 1) rb w M
  rt : Right (parts s) (parts t) M i k
  bx : Three w b1 (.int .i64 x.v) (.int .i64 x.f) (.slice xa x.args.length xc)
  bY : Three w b2 (.int .i64 y.v) (.int .i64 y.f) (.slice ya y.args.length yc)
  yi : InL w y.args ya
theorem Cx.below {lo1 lo2 K : Nat} {s t x y : T} {i k gs gt' ga gb b1 b2 : Nat} {xla : Option Addr} {xlc : Nat} {lx : List Int} {yla : Option Addr} {ylc : Nat} {ly : List Int} {rb : Nat → Nat} {M : Nat → Nat → Bool} {xa : Option Addr} {xc : Nat} {ya : Option Addr} {yc : Nat} {w w' : World}
    (h : Cx lo1 lo2 K s t x y i k gs gt' ga gb b1 b2 xla xlc lx yla ylc ly rb M xa xc ya yc w) (hb : Below w.heap.size w w') : Cx lo1 lo2 K s t x y i k gs gt' ga gb b1 b2 xla xlc lx yla ylc ly rb M xa xc ya yc w' :=
  ⟨h.hx, h.hy, h.lxl, h.lyl, h.lxm, h.lym, by rw [hb.cell (p := ⟨ga, i, none⟩) (lt_of_cell h.la)]; exact h.la, Ints_below hb h.lai, by rw [hb.cell (p := ⟨gb, k, none⟩) (lt_of_cell h.lb)]; exact h.lb, Ints_below hb h.lbi,
    h.ps.below hb, h.pt.below hb, h.tt.below hb, h.rt, h.bx.below hb, h.bY.below hb, InP_below hb h.yi⟩
/-- Argument m of x: where it lies, and what the table says of it. -/
theorem Cx.argX {lo1 lo2 K : Nat} {s t x y : T} {i k gs gt' ga gb b1 b2 : Nat} {xla : Option Addr} {xlc : Nat} {lx : List Int} {yla : Option Addr} {ylc : Nat} {ly : List Int} {rb : Nat → Nat} {M : Nat → Nat → Bool} {xa : Option Addr} {xc : Nat} {ya : Option Addr} {yc : Nat} {w : World}
    (h : Cx lo1 lo2 K s t x y i k gs gt' ga gb b1 b2 xla xlc lx yla ylc ly rb M xa xc ya yc w) {m : Nat} {c : T} (hc : x.args[m]? = some c) :
    ∃ (j b off : Nat) (ca : Option Addr) (cc : Nat), xla = some ⟨b, off, none⟩ ∧ w.cell? ⟨b, off + m, none⟩ = some (.int .i64 (j : Int)) ∧ j < i ∧ (parts s)[j]? = some c ∧ w.cell? ⟨gs, j * 3, none⟩ = some (.int .i64 c.v) ∧ w.cell? ⟨gs, j * 3 + 1, none⟩ = some (.int .i64 c.f) ∧ w.cell? ⟨gs, j * 3 + 2, none⟩ = some (.slice ca c.args.length cc) ∧ InL w c.args ca ∧
      w.cell? ⟨K, j, none⟩ = some (.slice (some ⟨rb j, 0, none⟩) t.sz t.sz) ∧ (∀ k' z, (parts t)[k']? = some z → k' < t.sz → w.cell? ⟨rb j, k', none⟩ = some (.bool (gt c z))) := by
  obtain ⟨j, hj1, hj2, hj3⟩ := h.lxm m c hc
  have hm : m < lx.length := by
    rcases Nat.lt_or_ge m lx.length with h1 | h1
    · exact h1
    · rw [List.getElem?_eq_none h1] at hj1; cases hj1
  obtain ⟨b, off, e1, hcell⟩ := Ints_some h.lai (by omega)
  obtain ⟨ca, cc, p0, p1, p2, pin⟩ := h.ps.2 j c hj3
  refine ⟨j, b, off, ca, cc, e1, ?_, hj2, hj3, p0, p1, p2, InP_imp (fun _ _ => trivial) pin, h.tt.rows j (by omega), fun k' z hz hk' => ?_⟩
  · have h2 := hcell m hm
    rw [List.getD_eq_getElem?_getD, hj1] at h2
    exact h2
  · rw [h.tt.ent j k' (by omega) hk', h.rt j k' c z hj3 hz (Or.inl hj2)]
/-- Argument m of y. -/
theorem Cx.argY {lo1 lo2 K : Nat} {s t x y : T} {i k gs gt' ga gb b1 b2 : Nat} {xla : Option Addr} {xlc : Nat} {lx : List Int} {yla : Option Addr} {ylc : Nat} {ly : List Int} {rb : Nat → Nat} {M : Nat → Nat → Bool} {xa : Option Addr} {xc : Nat} {ya : Option Addr} {yc : Nat} {w : World}
    (h : Cx lo1 lo2 K s t x y i k gs gt' ga gb b1 b2 xla xlc lx yla ylc ly rb M xa xc ya yc w) {m : Nat} {c : T} (hc : y.args[m]? = some c) (hk : k < t.sz) :
    ∃ (j b off : Nat) (ca : Option Addr) (cc : Nat), yla = some ⟨b, off, none⟩ ∧ w.cell? ⟨b, off + m, none⟩ = some (.int .i64 (j : Int)) ∧ j < k ∧ (parts t)[j]? = some c ∧ w.cell? ⟨gt', j * 3, none⟩ = some (.int .i64 c.v) ∧ w.cell? ⟨gt', j * 3 + 1, none⟩ = some (.int .i64 c.f) ∧ w.cell? ⟨gt', j * 3 + 2, none⟩ = some (.slice ca c.args.length cc) ∧ InL w c.args ca ∧
      w.cell? ⟨K, i, none⟩ = some (.slice (some ⟨rb i, 0, none⟩) t.sz t.sz) ∧ w.cell? ⟨rb i, j, none⟩ = some (.bool (gt x c)) := by
  obtain ⟨j, hj1, hj2, hj3⟩ := h.lym m c hc
  have hm : m < ly.length := by
    rcases Nat.lt_or_ge m ly.length with h1 | h1
    · exact h1
    · rw [List.getElem?_eq_none h1] at hj1; cases hj1
  obtain ⟨b, off, e1, hcell⟩ := Ints_some h.lbi (by omega)
  obtain ⟨ca, cc, p0, p1, p2, pin⟩ := h.pt.2 j c hj3
  refine ⟨j, b, off, ca, cc, e1, ?_, hj2, hj3, p0, p1, p2, InP_imp (fun _ _ => trivial) pin, h.tt.rows i (by omega), ?_⟩
  · have h2 := hcell m hm
    rw [List.getD_eq_getElem?_getD, hj1] at h2
    exact h2
  · rw [h.tt.ent i j (by omega) (by omega), h.rt i j x c h.hx hj3 (Or.inr ⟨rfl, hj2⟩)]

end Go.Proofs.Ytbkedppkdhfpoaa

namespace Go.Proofs.Ytbkedppkdhfpoaa
open Go.RowKit

/-- Bindings lie one behind the other from an address on, four cells each, in blocks of which p holds. -/
def Binds (p : Nat → Prop) (w : World) : List (Int × T) → Option Addr → Prop
  | [], _ => True
  | x :: bs, a => ∃ b off a1 cap, a = some ⟨b, off, none⟩ ∧ p b ∧ w.cell? ⟨b, off, none⟩ = some (.int .i64 x.1) ∧ w.cell? ⟨b, off + 1, none⟩ = some (.int .i64 x.2.v) ∧ w.cell? ⟨b, off + 2, none⟩ = some (.int .i64 x.2.f) ∧ w.cell? ⟨b, off + 3, none⟩ = some (.slice a1 x.2.args.length cap) ∧ InP p w x.2.args a1 ∧ Binds p w bs (some ⟨b, off + 4, none⟩)
theorem Binds_some {p : Nat → Prop} {w : World} {bs : List (Int × T)} {a : Option Addr} (h : Binds p w bs a) (hp : 0 < bs.length) : ∃ b off, a = some ⟨b, off, none⟩ := by
  cases bs with
  | nil => simp at hp
  | cons x bs => obtain ⟨b, off, _, _, rfl, _⟩ := h; exact ⟨b, off, rfl⟩
theorem Binds_mono {p q : Nat → Prop} {w w' : World} (hs : ∀ b o v, p b → w.cell? ⟨b, o, none⟩ = some v → q b ∧ w'.cell? ⟨b, o, none⟩ = some v) : ∀ {bs : List (Int × T)} {a : Option Addr}, Binds p w bs a → Binds q w' bs a := by
  intro bs
  induction bs with
  | nil => intro a _; trivial
  | cons x bs ih =>
    intro a h
    obtain ⟨b, off, a1, cap, rfl, hp, h0, h1, h2, h3, hin, hr⟩ := h
    exact ⟨b, off, a1, cap, rfl, (hs _ _ _ hp h0).1, (hs _ _ _ hp h0).2, (hs _ _ _ hp h1).2, (hs _ _ _ hp h2).2, (hs _ _ _ hp h3).2, InP_mono hs _ _ _ (Nat.le_refl _) hin, ih hr⟩
theorem Binds_below {p : Nat → Prop} {w w' : World} {bs : List (Int × T)} {a : Option Addr} (hb : Below w.heap.size w w') (h : Binds p w bs a) : Binds p w' bs a :=
  Binds_mono (fun _ _ _ hp hv => ⟨hp, cell_below hb hv⟩) h
theorem Binds_imp {p q : Nat → Prop} {w : World} {bs : List (Int × T)} {a : Option Addr} (hpq : ∀ k, p k → q k) (h : Binds p w bs a) : Binds q w bs a :=
  Binds_mono (fun _ _ _ hp hv => ⟨hpq _ hp, hv⟩) h
theorem Binds_lt {p : Nat → Prop} {w : World} {bs : List (Int × T)} {a : Option Addr} (h : Binds p w bs a) : Binds (fun k => p k ∧ k < w.heap.size) w bs a :=
  Binds_mono (fun _ _ _ hp hv => ⟨⟨hp, lt_of_cell hv⟩, hv⟩) h
/-- The binding at index k: its four cells. -/
theorem Binds_at {p : Nat → Prop} {w : World} : ∀ {bs : List (Int × T)} {b off k : Nat} {x : Int × T}, Binds p w bs (some ⟨b, off, none⟩) → bs[k]? = some x →
    ∃ a cap, p b ∧ w.cell? ⟨b, off + k * 4, none⟩ = some (.int .i64 x.1) ∧ w.cell? ⟨b, off + k * 4 + 1, none⟩ = some (.int .i64 x.2.v) ∧ w.cell? ⟨b, off + k * 4 + 2, none⟩ = some (.int .i64 x.2.f) ∧ w.cell? ⟨b, off + k * 4 + 3, none⟩ = some (.slice a x.2.args.length cap) ∧ InP p w x.2.args a := by
  intro bs
  induction bs with
  | nil => intro b off k x _ h; simp at h
  | cons y bs ih =>
    intro b off k x h hk
    obtain ⟨b', off', a1, cap, hb, hp, h0, h1, h2, h3, hin, hr⟩ := h
    simp only [Option.some.injEq, Addr.mk.injEq] at hb
    obtain ⟨rfl, rfl, _⟩ := hb
    cases k with
    | zero =>
      simp at hk; subst hk
      exact ⟨a1, cap, hp, by simpa using h0, by simpa using h1, by simpa using h2, by simpa using h3, hin⟩
    | succ k =>
      simp at hk
      obtain ⟨a, c, _, g0, g1, g2, g3, gl⟩ := ih hr hk
      have e : off + (k + 1) * 4 = off + 4 + k * 4 := by omega
      exact ⟨a, c, hp, by rw [e]; exact g0, by rw [e]; exact g1, by rw [e]; exact g2, by rw [e]; exact g3, gl⟩

/-- Which binding a variable has, counted from n on; -1: none. -/
def idxB (v : Int) : List (Int × T) → Nat → Int
  | [], _ => -1
  | x :: bs, n => if x.1 = v then n else idxB v bs (n + 1)
theorem idxB_none {v : Int} : ∀ {bs : List (Int × T)} {n : Nat}, lookB bs v = none → idxB v bs n = -1 := by
  intro bs
  induction bs with
  | nil => intro n _; rfl
  | cons x bs ih =>
    intro n h
    obtain ⟨w, u⟩ := x
    rw [lookB] at h
    by_cases e : w = v
    · rw [if_pos e] at h; cases h
    · rw [if_neg e] at h
      rw [idxB, if_neg e]; exact ih h
theorem idxB_some {v : Int} {u : T} : ∀ {bs : List (Int × T)} {n : Nat}, lookB bs v = some u → ∃ k : Nat, idxB v bs n = ((n + k : Nat) : Int) ∧ k < bs.length ∧ bs[k]? = some (v, u) := by
  intro bs
  induction bs with
  | nil => intro n h; cases h
  | cons x bs ih =>
    intro n h
    obtain ⟨w, u'⟩ := x
    rw [lookB] at h
    by_cases e : w = v
    · rw [if_pos e] at h
      simp only [Option.some.injEq] at h
      exact ⟨0, by rw [idxB, if_pos e]; rfl, by simp, by rw [e, h]; rfl⟩
    · rw [if_neg e] at h
      obtain ⟨k, h1, h2, h3⟩ := ih (n := n + 1) h
      exact ⟨k + 1, by rw [idxB, if_neg e, h1]; congr 1; omega, by simp; omega, by simpa using h3⟩
theorem idxB_step {v : Int} {bs : List (Int × T)} {k : Nat} {x : Int × T} (hx : bs[k]? = some x) : idxB v (bs.drop k) k = if x.1 = v then (k : Int) else idxB v (bs.drop (k + 1)) (k + 1) := by
  have hlt : k < bs.length := by
    rcases Nat.lt_or_ge k bs.length with h1 | h1
    · exact h1
    · rw [List.getElem?_eq_none h1] at hx; cases hx
  have e : bs.drop k = x :: bs.drop (k + 1) := by
    rw [List.getElem?_eq_getElem hlt] at hx
    simp only [Option.some.injEq] at hx
    rw [← hx, List.getElem_cons_drop]
  rw [e, idxB]

theorem Try.underlying51 : Try.prog.underlying 51 = some (.slice 95) := by kernel_rfl
set_option maxRecDepth 100000 in
set_option maxHeartbeats 1000000 in
theorem boundTo_any (bs : List (Int × T)) (a : Option Addr) (cap : Nat) (v : Int) (w : World) (p : Nat → Prop) (hl : bs.length ≤ 9223372036854775807) (hin : Binds p w bs a) :
    Calls Try.prog 70 #[.slice a bs.length cap, .int .i64 v] w fun e w' => e = .returned (.int .i64 (idxB v bs 0)) ∧ w' = w := by
  go_enter Try.func70, Try.ntmps70
  go_wp2_with fail
  go_loop [5] (fun i => ∃ k : Nat, k ≤ bs.length ∧ i = .int .i64 k ∧ Hid (idxB v bs 0 = idxB v (bs.drop k) k)) (fun i => bs.length - (intOf i).toNat)
  case atStart => exact ⟨0, Nat.zero_le _, rfl, rfl⟩
  case round =>
    obtain ⟨k, hk, rfl, HS⟩ := hrel
    by_cases hlt : k < bs.length
    · obtain ⟨b, off, rfl⟩ := Binds_some hin (by omega)
      obtain ⟨x, hx⟩ : ∃ x, bs[k]? = some x := ⟨bs[k], List.getElem?_eq_getElem hlt⟩
      obtain ⟨_, _, _, k0, _, _, _, _⟩ := Binds_at hin hx
      have hkI : (k : Int) < bs.length := by omega
      have hk0 : (0 : Int) ≤ k := by omega
      have HS2 := hide (HS.out.trans (idxB_step hx))
      clear hx HS
      by_cases hv : x.1 = v
      · have e0 : (x.1 == v) = true := by simpa using hv
        rw [if_pos hv] at HS2
        clear hv
        go_wp2_with fail
        go_ret
        exact ⟨ret_int HS2.out.symm, rfl⟩
      · have e0 : (x.1 == v) = false := by simpa using hv
        rw [if_neg hv] at HS2
        clear hv
        go_wp2_with fail
        go_round
        case rel => exact ⟨k + 1, by omega, by go_num, HS2.out⟩
        case measure => simp [intOf]; omega
    · have hk2 : k = bs.length := by omega
      subst hk2
      have HS2 : Hid (idxB v bs 0 = -1) := by show _ = _; rw [HS.out, List.drop_length]; rfl
      go_wp2_with fail
      go_ret
      exact ⟨ret_int HS2.out.symm, rfl⟩

end Go.Proofs.Ytbkedppkdhfpoaa

namespace Go.Proofs.Ytbkedppkdhfpoaa
open Go.RowKit

/-- What is wrong with bindings behind one of a variable. -/
def bindErr (ar : List Int) : Int → List (Int × T) → Int
  | _, [] => 0
  | last, x :: bs => if x.1 < 1 ∨ 1000 < x.1 then 3 else if x.1 ≤ last then 4 else if termErr ar x.2 = 0 then bindErr ar x.1 bs else termErr ar x.2
def bindsErr (ar : List Int) (bs : List (Int × T)) : Int := if sigErr ar = 0 then bindErr ar 0 bs else sigErr ar
/-- The variable ahead of the k-th binding. -/
def lastB (bs : List (Int × T)) (k : Nat) : Int := if k = 0 then 0 else ((bs[k - 1]?).map (·.1)).getD 0
theorem lastB_succ {bs : List (Int × T)} {k : Nat} {x : Int × T} (hx : bs[k]? = some x) : lastB bs (k + 1) = x.1 := by
  rw [lastB, if_neg (by omega), Nat.add_sub_cancel, hx]; rfl
theorem bindErr_step {ar : List Int} {last : Int} {bs : List (Int × T)} {k : Nat} {x : Int × T} (hx : bs[k]? = some x) : bindErr ar last (bs.drop k) = if x.1 < 1 ∨ 1000 < x.1 then 3 else if x.1 ≤ last then 4 else if termErr ar x.2 = 0 then bindErr ar x.1 (bs.drop (k + 1)) else termErr ar x.2 := by
  have hlt : k < bs.length := by
    rcases Nat.lt_or_ge k bs.length with h1 | h1
    · exact h1
    · rw [List.getElem?_eq_none h1] at hx; cases hx
  have e : bs.drop k = x :: bs.drop (k + 1) := by
    rw [List.getElem?_eq_getElem hlt] at hx
    simp only [Option.some.injEq] at hx
    rw [← hx, List.getElem_cons_drop]
  rw [e, bindErr]
theorem bindErr_ok {ar : List Int} : ∀ {bs : List (Int × T)} {last : Int}, bindErr ar last bs = 0 → ∀ v u, (v, u) ∈ bs → 1 ≤ v ∧ v ≤ 1000 ∧ u.sz ≤ 120 ∧ okP ar u := by
  intro bs
  induction bs with
  | nil => intro last _ v u h; cases h
  | cons x bs ih =>
    intro last h v u hm
    rw [bindErr] at h
    by_cases h1 : x.1 < 1 ∨ 1000 < x.1
    · rw [if_pos h1] at h; cases h
    · rw [if_neg h1] at h
      by_cases h2 : x.1 ≤ last
      · rw [if_pos h2] at h; cases h
      · rw [if_neg h2] at h
        by_cases h3 : termErr ar x.2 = 0
        · rw [if_pos h3] at h
          rcases List.mem_cons.1 hm with e | hm
          · subst e
            exact ⟨by omega, by omega, (termErr_iff.1 h3).1, (termErr_iff.1 h3).2⟩
          · exact ih h v u hm
        · rw [if_neg h3] at h; exact absurd h h3

attribute [local go_sem ↓] Go.wp_at_zero Go.wp_at_succ
set_option maxRecDepth 100000 in
set_option maxHeartbeats 1000000 in
theorem refCheckBindings_any (ar : List Int) (ga : Option Addr) (gcap : Nat) (bs : List (Int × T)) (a : Option Addr) (cap : Nat) (w : World) (p : Nat → Prop) (hl : bs.length ≤ 9223372036854775807) (hg : Ints w ar ga) (hin : Binds p w bs a) :
    Calls Try.prog 30 #[.agg #[.slice ga ar.length gcap], .slice a bs.length cap] w fun e w' => e = .returned (.int .i64 (bindsErr ar bs)) ∧ Below w.heap.size w w' := by
  go_enter Try.func30, Try.ntmps30
  go_wp2_with fail
  refine (checkSignature_any ar ga gcap _ (Ints_alloc _ hg)).mono ?_
  rintro e w1 ⟨rfl, hb1⟩
  have hz1 : w.heap.size < w1.heap.size := by have := hb1.size; simp at this; omega
  have hbw : Below w.heap.size w w1 := (below1 _ _).trans (hb1.mono (by simp))
  have cg : w1.cell? ⟨w.heap.size, 0, none⟩ = some (.slice ga ar.length gcap) := by
    rw [hb1.cell (p := ⟨w.heap.size, 0, none⟩) (by simp), cell_new _ rfl]; rfl
  clear hb1
  by_cases hs : sigErr ar = 0
  · have hgl := sig_len hs
    have hfin : bindsErr ar bs = bindErr ar 0 bs := by rw [bindsErr, if_pos hs]
    have Hfin := hide hfin
    rw [hs]
    clear hfin hs
    go_wp2_with fail
    go_loopw [5, 6] (fun e i wr => ∃ (k : Nat) (ek : Int), k ≤ bs.length ∧ i = .int .i64 k ∧ e = .int .i64 ek ∧ Hid ((ek = 0 → bindErr ar 0 bs = bindErr ar (lastB bs k) (bs.drop k)) ∧ (ek ≠ 0 → bindErr ar 0 bs = ek)) ∧ Below w1.heap.size w1 wr) (fun _ i _ => bs.length - (intOf i).toNat)
    case atStart => exact ⟨0, 0, Nat.zero_le _, rfl, rfl, ⟨fun _ => rfl, fun h => absurd rfl h⟩, Below.refl _ _⟩
    case round =>
      obtain ⟨k, ek, hk, rfl, rfl, HL, hb⟩ := hrel
      have hzr := hb.size
      by_cases hlt : k < bs.length
      · by_cases hek : ek = 0
        · subst hek
          have hin' := Binds_below hb (Binds_below hbw hin)
          have hg' := Ints_below hb (Ints_below hbw hg)
          obtain ⟨b, off, rfl⟩ := Binds_some hin (by omega)
          obtain ⟨x, hx⟩ : ∃ x, bs[k]? = some x := ⟨bs[k], List.getElem?_eq_getElem hlt⟩
          obtain ⟨a1, cap1, _, c0, c1, c2, c3, hin1⟩ := Binds_at hin' hx
          have Hst := hide ((HL.out.1 rfl).trans (bindErr_step hx))
          have Hls := hide (lastB_succ hx)
          have cg' : wr.cell? ⟨w.heap.size, 0, none⟩ = some (.slice ga ar.length gcap) := cell_below hb cg
          have hkI : (k : Int) < bs.length := by omega
          have hk0 : (0 : Int) ≤ k := by omega
          have hbR : Below w.heap.size w wr := hbw.trans (hb.mono (by omega))
          by_cases h1 : x.1 < 1 ∨ 1000 < x.1
          · rw [if_pos h1] at Hst
            have H1 : Hid (¬ (1 ≤ x.1 ∧ x.1 ≤ 1000)) := fun h => by omega
            clear h1 hx HL
            go_wp2_with (go_at_call 63; refine (between_no _ _ _ _ H1.out).mono ?_; rintro e w' ⟨rfl, rfl⟩)
            go_ret
            exact ⟨ret_int (by rw [Hfin.out, Hst.out]), hbR⟩
          · rw [if_neg h1] at Hst
            have H1 : Hid (1 ≤ x.1 ∧ x.1 ≤ 1000) := ⟨by omega, by omega⟩
            clear h1
            have hS := hide (fun (w' : World) (hbb : Below wr.heap.size wr w') => (show w'.cell? ⟨w.heap.size, 0, none⟩ = some (.slice ga ar.length gcap) ∧ w'.cell? ⟨b, off + k * 4 + 1, none⟩ = some (.int .i64 x.2.v) ∧ w'.cell? ⟨b, off + k * 4 + 1 + 1, none⟩ = some (.int .i64 x.2.f) ∧ w'.cell? ⟨b, off + k * 4 + 1 + 2, none⟩ = some (.slice a1 x.2.args.length cap1) from ⟨cell_below hbb cg', cell_below hbb c1, cell_below hbb c2, cell_below hbb c3⟩))
            have HL0 : Hid (k = 0 → lastB bs k = 0) := fun h => by rw [h]; rfl
            have Hx1 : Hid (∀ (k' : Nat), k = k' + 1 → ∃ y0, wr.cell? ⟨b, off + k' * 4, none⟩ = some (.int .i64 y0) ∧ lastB bs k = y0) := fun k' e => by
              obtain ⟨y, hy⟩ : ∃ y, bs[k']? = some y := ⟨bs[k']'(by omega), List.getElem?_eq_getElem _⟩
              obtain ⟨_, _, _, d0, _⟩ := Binds_at hin' hy
              exact ⟨y.1, d0, by rw [e, lastB_succ hy]⟩
            have Hin1 := hide (InP_imp (q := fun _ => True) (fun _ _ => trivial) hin1)
            clear hx HL hin hin' hin1
            go_upto_region 7 with (go_at_call 63; refine (between_yes _ _ _ _ H1.out.1 H1.out.2).mono ?_; rintro e w' ⟨rfl, hw'⟩; obtain rfl := hw'.symm; clear hw')
            go_cut [41] (fun v41 wc => v41 = .bool (decide (x.1 ≤ lastB bs k)) ∧ Hid (Below wr.heap.size wr wc))
            case first =>
              by_cases hk1 : 0 < k
              · obtain ⟨k', rfl⟩ : ∃ k', k = k' + 1 := ⟨k - 1, by omega⟩
                obtain ⟨y0, d0, hy0⟩ := Hx1.out k' rfl
                have hk'I : (k' : Int) < bs.length := by omega
                have hk'0 : (0 : Int) ≤ k' := by omega
                have hd1 : decide ((0 : Int) < (k' : Int) + 1) = true := decide_eq_true (by omega)
                have Hy0 := hide hy0
                clear Hx1 HL0 hy0 hk1
                go_wp2_with fail
                go_quiet (fail)
                go_wp2_with fail
                go_meet
                exact ⟨by rw [Hy0.out], drewB _ _ _⟩
              · obtain rfl : k = 0 := by omega
                have Hl0 := hide (HL0.out rfl)
                clear Hx1 HL0 hk1
                go_wp2_with fail
                go_quiet (fail)
                go_wp2_with fail
                go_meet
                exact ⟨by rw [Hl0.out, decide_eq_false (by have := H1.out; omega)], drewB _ _ _⟩
            case rest =>
              obtain ⟨rfl, HBc⟩ := hcut
              have hzc := HBc.out.size
              by_cases h2 : x.1 ≤ lastB bs k
              · rw [if_pos h2] at Hst
                rw [decide_eq_true h2]
                clear h2
                go_wp2_with fail
                go_ret
                exact ⟨ret_int (by rw [Hfin.out, Hst.out]), hbR.trans (HBc.out.mono hbR.size)⟩
              · rw [if_neg h2] at Hst
                rw [decide_eq_false h2]
                have hSc := hide (fun (w' : World) (hbb : Below wc.heap.size wc w') => hS.out w' (HBc.out.trans (hbb.mono hzc)))
                have Hgc := hide (Ints_below HBc.out hg')
                have Hic := hide (InP_below HBc.out Hin1.out)
                clear h2 c0 c1 c2 c3 cg' hS
                go_wp2_with fail
                go_region_held3 (fun w' => w'.cell? ⟨w.heap.size, 0, none⟩ = some (.slice ga ar.length gcap) ∧ w'.cell? ⟨b, off + k * 4 + 1, none⟩ = some (.int .i64 x.2.v) ∧ w'.cell? ⟨b, off + k * 4 + 1 + 1, none⟩ = some (.int .i64 x.2.f) ∧ w'.cell? ⟨b, off + k * 4 + 1 + 2, none⟩ = some (.slice a1 x.2.args.length cap1)) ((first | (refine hSc.out _ ?_; (repeat' (first | with_reducible exact Hid.out ‹Hid (Below _ _ _)› | with_reducible exact Below.refl _ _ | (with_reducible refine Below.drew ?_))); done) | go_keep)) ((first
                  | (go_at_call 31
                     refine (refCheckTerm_any ar ga gcap x.2 a1 cap1 _ ?_ hgl ?_).mono ?_
                     · exact Ints_below (w := wc) ⟨rfl, rfl, rfl, Nat.le_refl _, fun _ _ => rfl⟩ Hgc.out
                     · exact InP_heap (w := wc) rfl Hic.out
                     rintro e w3 ⟨rfl, hb3⟩
                     have Hbb : Hid (Below wc.heap.size wc w3) := below_undrew hb3)))
                have hb4 : Below w1.heap.size w1 w3 := hb.trans ((HBc.out.trans (Hbb.out.mono hzc)).mono hzr)
                have Hrel : Hid ((termErr ar x.2 = 0 → bindErr ar 0 bs = bindErr ar (lastB bs (k + 1)) (bs.drop (k + 1))) ∧ (termErr ar x.2 ≠ 0 → bindErr ar 0 bs = termErr ar x.2)) := ⟨fun h => by rw [Hst.out, if_pos h, Hls.out], fun h => by rw [Hst.out, if_neg h]⟩
                clear Hst Hls
                go_wp2_with fail
                go_roundw
                case rel => exact ⟨k + 1, _, by omega, by go_num, rfl, Hrel, hb4⟩
                case measure => simp [intOf]; omega
        · have hek' : (ek == 0) = false := by simpa using hek
          have He := hide (HL.out.2 hek)
          clear hek
          go_wp2_with fail
          go_ret
          exact ⟨ret_int (by rw [Hfin.out, He.out]), hbw.trans (hb.mono (by omega))⟩
      · have hlt' : ¬ (k : Int) < bs.length := by omega
        have hk2 : k = bs.length := by omega
        have Hek : Hid (bindErr ar 0 bs = ek) := by
          show _ = _
          by_cases h0 : ek = 0
          · rw [HL.out.1 h0, hk2, List.drop_length, h0]; rfl
          · exact HL.out.2 h0
        go_wp2_with fail
        go_ret
        exact ⟨ret_int (by rw [Hfin.out, Hek.out]), hbw.trans (hb.mono (by omega))⟩
  · have hfin : bindsErr ar bs = sigErr ar := by rw [bindsErr, if_neg hs]
    have Hfin := hide hfin
    have hs1 : (sigErr ar == 0) = false := by simpa using hs
    clear hfin hs
    generalize sigErr ar = sg at *
    go_wp2_with fail
    refine wp_loop_rounds 1 ?_
    rw [rounds_succ]
    by_cases h0 : 0 < bs.length
    · have h0' : (0 : Int) < bs.length := by omega
      go_wp2_with fail
      go_ret
      exact ⟨ret_int Hfin.out.symm, hbw⟩
    · have h0' : ¬ (0 : Int) < bs.length := by omega
      go_wp2_with fail
      go_ret
      exact ⟨ret_int Hfin.out.symm, hbw⟩

end Go.Proofs.Ytbkedppkdhfpoaa
