/- The document's ArgsOf: the walk. What the numbers of the arguments mean. No word of the program's memory here. What the document's own order keeps: the parts, the numbers of their arguments, the table. Terms with their parts numbered, as the program's order makes them. -/
import Derived.Test.YtbkedppkdhfpoaaJoined6
namespace Go.Proofs.Ytbkedppkdhfpoaa
open Go.RowKit

theorem nums_bound : ∀ {ts : List T} {o : Nat} {e : Int}, e ∈ numsL o ts → 0 ≤ e ∧ e < ((o + T.sz.szL ts : Nat) : Int) := by
  intro ts
  induction ts with
  | nil => intro o e h; cases h
  | cons t ts ih =>
    intro o e h
    rw [numsL] at h
    have := t.sz_pos
    rw [T.szL_cons]
    rcases List.mem_cons.1 h with rfl | h
    · omega
    · have := ih h; omega
theorem args_bound : ∀ (n : Nat), (∀ (t : T) (o : Nat) (l : List Int) (e : Int), t.sz ≤ n → l ∈ argsAt t o → e ∈ l → 0 ≤ e ∧ e < ((o + t.sz : Nat) : Int)) ∧ (∀ (ts : List T) (o : Nat) (l : List Int) (e : Int), T.sz.szL ts ≤ n → l ∈ argsAt.aL ts o → e ∈ l → 0 ≤ e ∧ e < ((o + T.sz.szL ts : Nat) : Int)) := by
  intro n
  induction n with
  | zero =>
    refine ⟨fun t o l e h => by have := t.sz_pos; omega, fun ts o l e h hl => ?_⟩
    cases ts with
    | nil => cases hl
    | cons t ts => have := t.sz_pos; rw [T.szL_cons] at h; omega
  | succ n ih =>
    have h1 : ∀ (t : T) (o : Nat) (l : List Int) (e : Int), t.sz ≤ n + 1 → l ∈ argsAt t o → e ∈ l → 0 ≤ e ∧ e < ((o + t.sz : Nat) : Int) := fun t o l e h hl he => by
      have hts := T.sz_eq t
      rw [argsAt_eq, List.mem_append, List.mem_singleton] at hl
      rcases hl with hl | rfl
      · have := ih.2 t.args o l e (by omega) hl he; omega
      · have := nums_bound he; omega
    refine ⟨h1, fun ts => ?_⟩
    induction ts with
    | nil => intro o l e _ hl; cases hl
    | cons t ts iht =>
      intro o l e h hl he
      rw [T.szL_cons] at h ⊢
      rw [aL_cons, List.mem_append] at hl
      rcases hl with hl | hl
      · have := h1 t o l e (by omega) hl he; omega
      · have := iht (o + t.sz) l e (by omega) hl he; omega

theorem ownBlock_len {a : Option Addr} {n m c k : Nat} (h : (Value.slice a n c).ownBlock = some k) : (Value.slice a m c).ownBlock = some k := by
  cases a with
  | none => cases h
  | some x => exact h
theorem RowsI_below {base : Nat} {p : Nat → Prop} {w w' : World} {v : Value} {rows : List (List Int)} (h : RowsI base p w v rows) (hb : Below w.heap.size w w') : RowsI base p w' v rows := by
  obtain ⟨xs, h1, h2⟩ := h
  exact ⟨xs, own_same h1 (fun g hg => hb.block g (own_lt h1 g hg).2), RK_mono (fun k hk hlt => ⟨hk, hb.block k hlt⟩) h2⟩
theorem srcv_one {w : World} {v : Value} {e : TypeId} (hv : v.oneCell' = true) : SrcV (w.alloc (.cells #[v] e)) (.slice (some ⟨w.heap.size, 0, none⟩) 1 1) [v] := by
  refine ⟨⟨w.heap.size, 0, 1, rfl, fun j u hu => ?_⟩, fun u hu => ?_⟩
  · cases j with
    | zero =>
      have hu : v = u := by simpa using hu
      subst hu; exact cell_new 0 rfl
    | succ j => simp at hu
  · have hu : u = v := by simpa using hu
    subst hu; exact hv
theorem args_rowlen : ∀ (n : Nat), (∀ (t : T) (o : Nat) (l : List Int), t.sz ≤ n → l ∈ argsAt t o → l.length ≤ t.sz) ∧ (∀ (ts : List T) (o : Nat) (l : List Int), T.sz.szL ts ≤ n → l ∈ argsAt.aL ts o → l.length ≤ T.sz.szL ts) := by
  intro n
  induction n with
  | zero =>
    refine ⟨fun t o l h => by have := t.sz_pos; omega, fun ts o l h hl => ?_⟩
    cases ts with
    | nil => cases hl
    | cons t ts => have := t.sz_pos; rw [T.szL_cons] at h; omega
  | succ n ih =>
    have h1 : ∀ (t : T) (o : Nat) (l : List Int), t.sz ≤ n + 1 → l ∈ argsAt t o → l.length ≤ t.sz := fun t o l h hl => by
      have hts := T.sz_eq t
      rw [argsAt_eq, List.mem_append, List.mem_singleton] at hl
      rcases hl with hl | rfl
      · have := ih.2 t.args o l (by omega) hl; omega
      · rw [numsL_length]; have := T.length_le t.args; omega
    refine ⟨h1, fun ts => ?_⟩
    induction ts with
    | nil => intro o l _ hl; cases hl
    | cons t ts iht =>
      intro o l h hl
      rw [T.szL_cons] at h ⊢
      rw [aL_cons, List.mem_append] at hl
      rcases hl with hl | hl
      · have := h1 t o l (by omega) hl; omega
      · have := iht (o + t.sz) l (by omega) hl; omega

set_option maxRecDepth 100000 in
set_option maxHeartbeats 2000000 in
theorem argsOf_any (N : Nat) : ∀ (t : T) (a : Option Addr) (cap : Nat) (w : World), t.sz ≤ N → t.sz ≤ 120 → InL w t.args a →
    Calls Try.prog 82 #[.agg #[.int .i64 t.v, .int .i64 t.f, .slice a t.args.length cap]] w fun e w' =>
      ∃ v, e = .returned v ∧ RowsI w.heap.size (fun k => w.heap.size ≤ k ∧ v.ownBlock ≠ some k) w' v (argsAt t 0) ∧ Below w.heap.size w w' := by
  induction N with
  | zero => intro t a cap w hN; have := t.sz_pos; omega
  | succ N ih =>
    intro t a cap w hN h120 hin
    have Hih := hide ih
    have hts := T.sz_eq t
    have hlen : t.args.length ≤ 120 := by have := T.length_le t.args; omega
    obtain ⟨W1, hW1⟩ : ∃ W1, W1 = w.alloc (.cells #[.int .i64 t.v, .int .i64 t.f, .slice a t.args.length cap] 27) := ⟨_, rfl⟩
    have hzW : W1.heap.size = w.heap.size + 1 := by rw [hW1]; simp
    have hbW : Below w.heap.size w W1 := by rw [hW1]; exact below1 _ _
    have H3 : Hid (Three W1 w.heap.size (.int .i64 t.v) (.int .i64 t.f) (.slice a t.args.length cap)) := by rw [hW1]; exact Three.new 27 rfl
    have HW1 := hide hW1
    clear ih hW1
    go_enter Try.func82, Try.ntmps82
    go_wp2_with fail
    rw [← HW1.out]
    go_loopw [3, 4, 5] (fun vo va iv wr => ∃ k : Nat, k ≤ t.args.length ∧ iv = .int .i64 k ∧ RowsI (w.heap.size + 1) (fun b => w.heap.size + 1 ≤ b ∧ vo.ownBlock ≠ some b ∧ va.ownBlock ≠ some b) wr vo (argsAt.aL (t.args.take k) 0) ∧
        OwnI (w.heap.size + 1) wr va (numsL 0 (t.args.take k)) ∧ (∀ g, vo.ownBlock = some g → va.ownBlock ≠ some g) ∧ Below (w.heap.size + 1) W1 wr) (fun _ _ iv _ => t.args.length - (intOf iv).toNat)
    case atStart => exact ⟨0, Nat.zero_le _, rfl, ⟨[], ⟨rfl, Or.inl ⟨rfl, rfl⟩⟩, rfl⟩, ⟨rfl, Or.inl ⟨rfl, rfl⟩⟩, (fun g hg => (by cases hg)), Below.refl _ _⟩
    case round =>
      obtain ⟨k, hk, rfl, ⟨xo, hoo, hko⟩, hoa, hdis, hb⟩ := hrel
      have hzr := hb.size
      obtain ⟨c0, c1, c2, _, _, _⟩ := H3.out.same (hb.block w.heap.size (by omega))
      have hbw : Below w.heap.size w wr := hbW.trans (hb.mono (by omega))
      obtain ⟨oa, oc, hvo⟩ := own_shape hoo
      obtain ⟨aa, ac, hva⟩ := own_shape hoa
      have hol : (argsAt.aL (t.args.take k) 0).length = T.sz.szL (t.args.take k) := (args_length _).2 _ 0 (Nat.le_refl _)
      subst hvo hva
      by_cases hlt : k < t.args.length
      · obtain ⟨b, off, rfl⟩ := InP_some hin (by omega)
        obtain ⟨c, hc⟩ : ∃ c, t.args[k]? = some c := ⟨t.args[k], List.getElem?_eq_getElem hlt⟩
        obtain ⟨a1, cap1, _, k0, k1, k2, hin1⟩ := InP_at (InP_below hbw hin) hc
        obtain ⟨hs1, hs2⟩ := szL_take hc
        have hce := T.sz_eq c
        have hcsz := T.szL_mem (List.mem_of_getElem? hc)
        have Hcall := hide (Hih.out c a1 cap1 wr (by omega) (by omega) hin1)
        have Hst1 : Hid (argsAt.aL (t.args.take (k + 1)) 0 = argsAt.aL (t.args.take k) 0 ++ argsAt c (T.sz.szL (t.args.take k))) := by
          show _ = _
          rw [List.take_add_one, hc, aL_append]
          show _ ++ (argsAt c (0 + T.sz.szL (t.args.take k)) ++ []) = _
          rw [Nat.zero_add, List.append_nil]
        have Hst2 : Hid (numsL 0 (t.args.take (k + 1)) = numsL 0 (t.args.take k) ++ [((T.sz.szL (t.args.take k) + c.sz : Nat) : Int) - 1]) := by
          show _ = _
          rw [List.take_add_one, hc, numsL_append, Nat.zero_add]; rfl
        have hkI : (k : Int) < t.args.length := by omega
        have hk0 : (0 : Int) ≤ k := by omega
        obtain ⟨o, ho⟩ : ∃ o, o = T.sz.szL (t.args.take k) := ⟨_, rfl⟩
        rw [hol, ← ho] at hoo
        have Hol : Hid ((argsAt.aL (t.args.take k) 0).length = o) := hol.trans ho.symm
        rw [← ho] at Hst1 Hst2 hs1 hs2
        have Hoo := hide hoo
        have Hko : Hid (RK (fun b => w.heap.size + 1 ≤ b ∧ (Value.slice oa o oc).ownBlock ≠ some b ∧ (Value.slice aa (numsL 0 (t.args.take k)).length ac).ownBlock ≠ some b) wr (argsAt.aL (t.args.take k) 0) xo) := RK_mono (fun k' hk' _ => ⟨⟨hk'.1, fun e => hk'.2.1 (ownBlock_len e), hk'.2.2⟩, rfl⟩) hko
        have Hoa := hide hoa
        have Hdis : Hid (∀ g, (Value.slice oa o oc).ownBlock = some g → (Value.slice aa (numsL 0 (t.args.take k)).length ac).ownBlock ≠ some g) := fun g hg => hdis g (ownBlock_len hg)
        have hoc : o + c.sz ≤ 120 := by omega
        have hcN : c.sz ≤ 120 := by omega
        have Hb := hide hb
        rw [Hol.out]
        clear hc hin1 ho hol hoo hko hoa hdis hb hce hs1 hs2 hcsz
        go_wp2_with fail
        refine Hcall.out.mono ?_
        rintro e wx ⟨vx, rfl, ⟨xx, hox, hkx⟩, hbx⟩
        have hXl : (argsAt c 0).length = c.sz := (args_length _).1 c 0 (Nat.le_refl _)
        obtain ⟨X, hX⟩ : ∃ X, X = argsAt c 0 := ⟨_, rfl⟩
        rw [← hX] at hox hkx hXl
        have hcp := c.sz_pos
        obtain ⟨g, cx, rfl, hg1, hg2, _, _⟩ := own_cells1 hox (by omega)
        have HrX : Hid (RowsI wr.heap.size (fun b' => wr.heap.size ≤ b' ∧ b' ≠ g) wx (.slice (some ⟨g, 0, none⟩) X.length cx) X) := ⟨xx, hox, RK_mono (fun k' hk' _ => ⟨⟨hk'.1, fun e => hk'.2 (by rw [e]; rfl)⟩, rfl⟩) hkx⟩
        have HbX : Hid (∀ l ∈ X, ∀ e ∈ l, 0 ≤ e ∧ e ≤ 1000) := fun l hl e he => by
          rw [hX] at hl
          have h9 := (args_bound _).1 c 0 l e (Nat.le_refl _) hl he
          omega
        have HXs : Hid (X.map (fun l => l.map (· + (o : Int))) = argsAt c o) := by
          show _ = _
          rw [hX, (args_shift o _).1 c 0 (Nat.le_refl _), Nat.zero_add]
        have HrL : Hid (∀ l ∈ X, l.length ≤ 120) := fun l hl => by
          rw [hX] at hl
          have h9 := (args_rowlen _).1 c 0 l (Nat.le_refl _) hl
          omega
        have Hbx := hide hbx
        have hXl2 : X.length ≤ 120 := by omega
        have hX0 : 0 < X.length := by omega
        have ho120 : o ≤ 1000 := by omega
        have HXl := hide hXl
        clear hX hox hkx hbx hXl k0 k1 k2 c0 c1 c2 Hcall
        go_wp2_with fail
        go_loopw [7] (fun kv wi => ∃ kk : Nat, kk ≤ X.length ∧ kv = .int .i64 kk ∧ RowsI wr.heap.size (fun b' => wr.heap.size ≤ b' ∧ b' ≠ g) wi (.slice (some ⟨g, 0, none⟩) X.length cx) (movedRows X o kk) ∧ Below wr.heap.size wr wi) (fun kv _ => X.length - (intOf kv).toNat)
        case atStart => exact ⟨0, Nat.zero_le _, rfl, HrX.out, Hbx.out⟩
        case round =>
          obtain ⟨kk, hkk, rfl, ⟨xi, hoi, hki⟩, hbi⟩ := hrel
          rw [moved_length] at hoi
          obtain ⟨g', cx', he, hgb, hgl, hci, hfi⟩ := own_cells1 hoi hX0
          simp only [Value.slice.injEq, Option.some.injEq, Addr.mk.injEq, and_true, true_and] at he
          obtain ⟨rfl, rfl⟩ := he
          by_cases hlt2 : kk < X.length
          · obtain ⟨l, hl⟩ : ∃ l, X[kk]? = some l := ⟨X[kk], List.getElem?_eq_getElem hlt2⟩
            obtain ⟨m1, m2⟩ := moved_at (m := o) hl
            obtain ⟨la, lc, hxl, hipl⟩ := RK_at hki m1
            have ck := hci kk _ hxl
            have fk := hfi kk
            have Hbl := hide (HbX.out l (List.mem_of_getElem? hl))
            have hll : l.length ≤ 120 := HrL.out l (List.mem_of_getElem? hl)
            have Hoi := hide hoi
            have Hki := hide hki
            have Hbi := hide hbi
            have Hm2 := hide m2
            have Hipl := hide hipl
            have hkkI : (kk : Int) < X.length := by omega
            have hkk0 : (0 : Int) ≤ kk := by omega
            clear hl m1 m2 hxl hipl hoi hki hbi hci hfi
            go_wp2_with fail
            go_loopw [8, 9] (fun vm jv wj => ∃ j : Nat, j ≤ l.length ∧ jv = .int .i64 j ∧ OwnI wr.heap.size wj vm ((l.take j).map (· + (o : Int))) ∧ Below wr.heap.size wr wj) (fun _ jv _ => l.length - (intOf jv).toNat)
            case atStart => exact ⟨0, Nat.zero_le _, rfl, ⟨rfl, Or.inl ⟨rfl, rfl⟩⟩, Below.refl _ _⟩
            case round =>
              obtain ⟨j, hj, rfl, hom, hbj⟩ := hrel
              have ckj := ck
              rw [← hbj.cell (p := ⟨g, kk, none⟩) hgl] at ckj
              have fkj := fk
              rw [← hbj.frozen (p := ⟨g, kk, none⟩) hgl] at fkj
              by_cases hlt3 : j < l.length
              · obtain ⟨lb, loff, rfl, hcl⟩ := Ints_some (IP_ints Hipl.out) (by omega)
                have cj := hcl j hlt3
                rw [← hbj.cell (p := ⟨lb, loff + j, none⟩) (lt_of_cell cj)] at cj
                have hgd : l.getD j 0 = l[j] := by rw [List.getD_eq_getElem?_getD, List.getElem?_eq_getElem hlt3]; rfl
                have hbd := Hbl.out (l.getD j 0) (by rw [hgd]; exact List.getElem_mem hlt3)
                have Htk : Hid ((l.take (j + 1)).map (· + (o : Int)) = (l.take j).map (· + (o : Int)) ++ [l.getD j 0 + (o : Int)]) := by
                  show _ = _
                  rw [hgd, List.take_add_one, List.getElem?_eq_getElem hlt3, List.map_append]; rfl
                obtain ⟨ma, mc, hvm⟩ := own_shape hom
                subst hvm
                have Hom := hide hom
                have Hbj := hide hbj
                have hzj := hbj.size
                have hjI : (j : Int) < l.length := by omega
                have hj0 : (0 : Int) ≤ j := by omega
                have htl : ((l.take j).map (· + (o : Int))).length ≤ 120 := by rw [List.length_map, List.length_take]; omega
                have HO := hide (fun o1 => OwnI.below Hom.out (below1 wr o1))
                clear hcl hom hbj hgd
                generalize l.getD j 0 = e at *
                obtain ⟨e0, e1⟩ := hbd
                go_wp2_with (at_builtin; go_must (refine wpList_append_ints rfl (.tmp 38) (.tmp 49) rfl _ _ ((l.take j).map (· + (o : Int))) rfl (HO.out _) (.slice (some ⟨wr.heap.size, 0, none⟩) 1 1) [e + (o : Int)] rfl (src_one (cell_new 0 rfl)) (by rw [List.length_singleton]; omega) (by rw [World.size_alloc]; omega) ?_))
                intro v6 w6 hown6 hgr6 hat6
                have Hown6 := hide hown6
                have Hb6 := hide ((Hbj.out.alloc hzj _).grown hgr6 (by rw [World.size_alloc]; omega) (fun k' hk' => (own_lt Hom.out k' (ownBlock_len hk')).1))
                clear hown6 hgr6 hat6
                go_wp2_with fail
                go_roundw
                case rel => exact ⟨j + 1, by omega, by go_num, by rw [Htk.out, List.map_take]; exact Hown6.out, Hb6.out⟩
                case measure => simp [intOf]; omega
              · have hj2 : j = l.length := by omega
                subst hj2
                rw [List.take_length] at hom
                obtain ⟨ma, mc, hvm⟩ := own_shape hom
                subst hvm
                have Hst3 := hide (rows_store (kk := kk) (n := X.length) ⟨xi, by rw [moved_length]; exact Hoi.out, Hki.out⟩ (moved_length X o kk) hbj hom Hbi.out.size)
                have Hbs := hide ((Hbi.out.trans (hbj.mono Hbi.out.size)).setCell (p := ⟨g, kk, none⟩) hgb (.slice ma (l.map (· + (o : Int))).length mc))
                clear hom hbj
                rw [Hm2.out] at Hst3
                rw [List.length_map] at Hst3 Hbs ⊢
                go_wp2_with fail
                go_roundw
                case rel => exact ⟨kk + 1, by omega, by go_num, Hst3.out, Hbs.out⟩
                case measure => simp [intOf]; omega
          · have hkk2 : kk = X.length := by omega
            subst hkk2
            rw [moved_all, HXs.out] at hki
            have hRl : (argsAt c o).length = c.sz := (args_length _).1 c o (Nat.le_refl _)
            have hxil : xi.length = c.sz := by rw [RK_length hki]; exact hRl
            have Hsrc := hide (rows_src hoi hki (hRl.trans HXl.out.symm) hX0)
            have Hoo2 := hide (own_same Hoo.out (w' := wr) (fun g' hg' => hbi.block g' (own_lt Hoo.out g' hg').2))
            have Hoa2 := hide (OwnI.below Hoa.out hbi)
            have Hki := hide hki
            have Hbi := hide hbi
            have hzi := hbi.size
            have HRl := hide hRl
            have hnl : (numsL 0 (t.args.take k)).length ≤ 120 := by rw [numsL_length, List.length_take]; omega
            have Hst2' : Hid (numsL 0 (t.args.take (k + 1)) = numsL 0 (t.args.take k) ++ [(o : Int) + (c.sz : Int) - 1]) := by
              show _ = _
              rw [Hst2.out, show ((o + c.sz : Nat) : Int) - 1 = (o : Int) + (c.sz : Int) - 1 by omega]
            clear hoi hki hbi hci hfi hRl Hst2
            go_wp2_with (at_builtin; go_must (refine wpList_append_vals rfl (.tmp 55) (.tmp 56) rfl (w.heap.size + 1) (.slice oa o oc) o xo rfl Hoo2.out _ xi rfl Hsrc.out (by omega) (by omega) ?_))
            intro v5 w5 hown5 hgr5 hat5
            have hjn := rows_join (va := .slice aa (numsL 0 (t.args.take k)).length ac) Hko.out Hki.out Hbi.out rfl (by omega) (fun k' hk' => (own_lt Hoo.out k' hk').2) (fun k' hk' => (own_lt Hoa.out k' hk').2) (by rw [Hol.out, HRl.out]; exact hown5) hgr5 hat5
            have Hoa5 := hide (OwnI.grown Hoa2.out hgr5 (by
              cases hvb : (Value.slice aa (numsL 0 (t.args.take k)).length ac).ownBlock with
              | none => exact Or.inl rfl
              | some g' => exact Or.inr (fun e => Hdis.out g' e.symm hvb)))
            have hd5 : ∀ g', v5.ownBlock = some g' → (Value.slice aa (numsL 0 (t.args.take k)).length ac).ownBlock ≠ some g' := fun g' hg' => by
              rcases hat5 with h | h
              · exact Hdis.out g' (h.symm.trans hg')
              · intro e
                have h9 := (own_lt Hoa.out g' e).2
                have h8 : wr.heap.size = g' := by simpa using h.symm.trans hg'
                omega
            have Hb5 := hide (((Hb.out.trans (Hbi.out.mono (by omega)))).grown hgr5 (by omega) (fun k' hk' => (own_lt Hoo.out k' hk').1))
            obtain ⟨a5, c5, hv5⟩ := own_shape hown5
            have hz5 := hgr5.size
            have Hjn := hide hjn
            have Hd5 := hide hd5
            subst hv5
            have HO5 := hide (fun o1 => OwnI.below Hoa5.out (below1 w5 o1))
            clear hown5 hgr5 hat5 hjn hd5 Hsrc Hoo2
            go_wp2_with (at_builtin; go_must (refine wpList_append_ints rfl (.tmp 58) (.tmp 62) rfl (w.heap.size + 1) (.slice aa (numsL 0 (t.args.take k)).length ac) (numsL 0 (t.args.take k)) rfl (HO5.out _) (.slice (some ⟨w5.heap.size, 0, none⟩) 1 1) [(o : Int) + (c.sz : Int) - 1] rfl (src_one (cell_new 0 rfl)) (by rw [List.length_singleton]; omega) (by rw [World.size_alloc]; omega) ?_))
            intro v6 w6 hown6 hgr6 hat6
            obtain ⟨hr6, hd6⟩ := rows_beside (va' := v6) (RowsI_below Hjn.out (below1 w5 (.cells #[.int .i64 ((o : Int) + (c.sz : Int) - 1)] 3))) Hd5.out hgr6 (by rw [World.size_alloc]; exact hat6)
            have Hb6 := hide ((Hb5.out.alloc (by omega) _).grown hgr6 (by rw [World.size_alloc]; omega) (fun k' hk' => (own_lt Hoa5.out k' hk').1))
            have Hr6 := hide hr6
            have Hd6 := hide hd6
            have Hown6 := hide hown6
            clear hr6 hd6 hown6 hgr6 hat6
            go_wp2_with fail
            go_roundw
            case rel => exact ⟨k + 1, by omega, by go_num, by rw [Hst1.out]; exact Hr6.out, by rw [Hst2'.out]; exact Hown6.out, Hd6.out, Hb6.out⟩
            case measure => simp [intOf]; omega
      · have hk2 : k = t.args.length := by omega
        subst hk2
        rw [List.take_length] at hoo hko hoa hdis hol ⊢
        have Hoo := hide hoo
        have Hko := hide hko
        have Hoa := hide hoa
        have Hdis := hide hdis
        have Hb := hide hb
        have HO := hide (fun o1 => own_same Hoo.out (w' := wr.alloc o1) (fun g' hg' => (below1 wr o1).block g' (own_lt Hoo.out g' hg').2))
        have hsmall : (argsAt.aL t.args 0).length ≤ 120 := by omega
        clear hoo hko hoa hdis hb hol
        go_wp2_with (at_builtin; go_must (refine wpList_append_vals rfl (.tmp 64) (.tmp 66) rfl (w.heap.size + 1) (.slice oa (argsAt.aL t.args 0).length oc) (argsAt.aL t.args 0).length xo rfl (HO.out _) (.slice (some ⟨wr.heap.size, 0, none⟩) 1 1) [.slice aa (numsL 0 t.args).length ac] rfl (srcv_one rfl) (by rw [List.length_singleton]; omega) (by rw [World.size_alloc]; omega) ?_))
        intro v5 w5 hown5 hgr5 hat5
        have Hfin : Hid (RowsI w.heap.size (fun k => w.heap.size ≤ k ∧ v5.ownBlock ≠ some k) w5 v5 (argsAt t 0)) := by
          rw [argsAt_eq]
          have hva := Hoa.out
          have hne : ∀ k', (Value.slice oa (argsAt.aL t.args 0).length oc).ownBlock ≠ some k' → k' < wr.heap.size → v5.ownBlock ≠ some k' ∧ w5.heap[k']? = wr.heap[k']? := fun k' hk' hlt' => by
            refine ⟨?_, by rw [hgr5.block k' (by rw [World.size_alloc]; omega) (fun e => hk' e.symm)]; exact Below.heap_alloc _ _ _ hlt'⟩
            rcases hat5 with h | h
            · rw [h]; exact hk'
            · rw [h]; intro e; cases e; omega
          refine ⟨xo ++ [.slice aa (numsL 0 t.args).length ac], ?_, RK_append (RK_mono (fun k' hk' hlt' => ?_) Hko.out) ⟨aa, ac, [], rfl, ?_, rfl⟩⟩
          · rw [List.length_append, List.length_singleton]
            obtain ⟨h1, h2⟩ := hown5
            refine ⟨h1, ?_⟩
            rcases h2 with h2 | ⟨g', cap', cur, hv, hg', r'⟩
            · exact Or.inl h2
            · exact Or.inr ⟨g', cap', cur, hv, by omega, r'⟩
          · have h9 := hne k' hk'.2.1 hlt'
            exact ⟨⟨by omega, h9.1⟩, h9.2⟩
          · obtain ⟨a9, c9, he, hi⟩ := OwnI.ip hva
            simp only [Value.slice.injEq, true_and] at he
            obtain ⟨rfl, rfl⟩ := he
            refine IP_mono (fun k' hk' hlt' => ?_) hi
            have h9 := hne k' (fun e => Hdis.out k' e hk') hlt'
            have h8 := (own_lt hva k' hk').1
            exact ⟨⟨by omega, h9.1⟩, h9.2⟩
        have Hbf := hide (hbW.trans (((Hb.out.alloc (by omega) _).grown hgr5 (by rw [World.size_alloc]; omega) (fun k' hk' => (own_lt Hoo.out k' hk').1)).mono (by omega)))
        clear hown5 hgr5 hat5
        go_wp2_with fail
        go_ret
        exact ⟨_, rfl, Hfin.out, Hbf.out⟩

end Go.Proofs.Ytbkedppkdhfpoaa

namespace Go.Proofs.Ytbkedppkdhfpoaa

theorem parts_len (t : T) : (parts t).length = t.sz := (parts_length _).1 t (Nat.le_refl _)
theorem partsL_len (ts : List T) : (parts.partsL ts).length = T.sz.szL ts := (parts_length _).2 ts (Nat.le_refl _)

/-- Number m of the arguments' numbers is where that argument stands. -/
theorem nums_at (L : List T) : ∀ (ts : List T) (o : Nat) (rest : List T), L.drop o = parts.partsL ts ++ rest → ∀ (m : Nat) (c : T), ts[m]? = some c → ∃ j : Nat, (numsL o ts)[m]? = some (j : Int) ∧ j < o + T.sz.szL ts ∧ L[j]? = some c := by
  intro ts
  induction ts with
  | nil => intro o rest _ m c h; simp at h
  | cons t ts ih =>
    intro o rest h m c hm
    have hp := t.sz_pos
    rw [partsL_cons, List.append_assoc] at h
    rw [T.szL_cons]
    cases m with
    | zero =>
      have hc : t = c := by simpa using hm
      subst hc
      refine ⟨o + t.sz - 1, ?_, by omega, ?_⟩
      · rw [numsL, List.getElem?_cons_zero, show ((o + t.sz : Nat) : Int) - 1 = ((o + t.sz - 1 : Nat) : Int) by omega]
      · have h1 : (L.drop o)[t.sz - 1]? = some t := by
          rw [h, List.getElem?_append_left (by rw [parts_len]; omega), parts_eq, List.getElem?_append_right (by rw [partsL_len]; have := T.sz_eq t; omega), partsL_len]
          rw [show t.sz - 1 - T.sz.szL t.args = 0 by have := T.sz_eq t; omega]; rfl
        rw [List.getElem?_drop] at h1
        rw [show o + t.sz - 1 = o + (t.sz - 1) by omega]; exact h1
    | succ m =>
      have h2 : L.drop (o + t.sz) = parts.partsL ts ++ rest := by
        rw [← List.drop_drop, h, ← parts_len t, List.drop_left]
      obtain ⟨j, g1, g2, g3⟩ := ih (o + t.sz) rest h2 m c (by simpa using hm)
      exact ⟨j, by rw [numsL, List.getElem?_cons_succ]; exact g1, by omega, g3⟩

/-- Of each part its list has as many numbers as it has arguments; each is lesser than its own, and is that argument's. -/
theorem args_mean (L : List T) : ∀ (n : Nat), (∀ (t : T) (o : Nat) (rest : List T), t.sz ≤ n → L.drop o = parts t ++ rest → ∀ (i : Nat) (x : T), (parts t)[i]? = some x → ∃ l, (argsAt t o)[i]? = some l ∧ l.length = x.args.length ∧ ∀ (m : Nat) (c : T), x.args[m]? = some c → ∃ j : Nat, l[m]? = some (j : Int) ∧ j < o + i ∧ L[j]? = some c) ∧
    (∀ (ts : List T) (o : Nat) (rest : List T), T.sz.szL ts ≤ n → L.drop o = parts.partsL ts ++ rest → ∀ (i : Nat) (x : T), (parts.partsL ts)[i]? = some x → ∃ l, (argsAt.aL ts o)[i]? = some l ∧ l.length = x.args.length ∧ ∀ (m : Nat) (c : T), x.args[m]? = some c → ∃ j : Nat, l[m]? = some (j : Int) ∧ j < o + i ∧ L[j]? = some c) := by
  intro n
  induction n with
  | zero =>
    refine ⟨fun t o rest h => by have := t.sz_pos; omega, fun ts o rest h _ i x hx => ?_⟩
    cases ts with
    | nil => simp [parts.partsL] at hx
    | cons t ts => have := t.sz_pos; rw [T.szL_cons] at h; omega
  | succ n ih =>
    have h1 : ∀ (t : T) (o : Nat) (rest : List T), t.sz ≤ n + 1 → L.drop o = parts t ++ rest → ∀ (i : Nat) (x : T), (parts t)[i]? = some x → ∃ l, (argsAt t o)[i]? = some l ∧ l.length = x.args.length ∧ ∀ (m : Nat) (c : T), x.args[m]? = some c → ∃ j : Nat, l[m]? = some (j : Int) ∧ j < o + i ∧ L[j]? = some c := fun t o rest h hd i x hx => by
      have hts := T.sz_eq t
      rw [parts_eq, List.append_assoc] at hd
      rw [parts_eq] at hx
      have hal : (argsAt.aL t.args o).length = T.sz.szL t.args := (args_length _).2 t.args o (Nat.le_refl _)
      rw [argsAt_eq]
      rcases Nat.lt_or_ge i (T.sz.szL t.args) with hi | hi
      · rw [List.getElem?_append_left (by rw [partsL_len]; exact hi)] at hx
        obtain ⟨l, g1, g2, g3⟩ := ih.2 t.args o ([t] ++ rest) (by omega) hd i x hx
        exact ⟨l, by rw [List.getElem?_append_left (by rw [hal]; exact hi)]; exact g1, g2, g3⟩
      · rw [List.getElem?_append_right (by rw [partsL_len]; exact hi), partsL_len] at hx
        have hi2 : i = T.sz.szL t.args := by
          rcases Nat.lt_or_ge (T.sz.szL t.args) i with h9 | h9
          · rw [List.getElem?_eq_none (by simp; omega)] at hx; cases hx
          · omega
        subst hi2
        rw [Nat.sub_self] at hx
        have hxt : t = x := by simpa using hx
        subst hxt
        refine ⟨numsL o t.args, by rw [List.getElem?_append_right (by omega), hal, Nat.sub_self]; rfl, numsL_length _ _, fun m c hm => ?_⟩
        exact nums_at L t.args o ([t] ++ rest) hd m c hm
    refine ⟨h1, fun ts => ?_⟩
    induction ts with
    | nil => intro o rest _ _ i x hx; simp [parts.partsL] at hx
    | cons t ts iht =>
      intro o rest h hd i x hx
      rw [T.szL_cons] at h
      rw [partsL_cons] at hx
      rw [partsL_cons, List.append_assoc] at hd
      have hal : (argsAt t o).length = t.sz := (args_length _).1 t o (Nat.le_refl _)
      rw [aL_cons]
      rcases Nat.lt_or_ge i t.sz with hi | hi
      · rw [List.getElem?_append_left (by rw [parts_len]; exact hi)] at hx
        obtain ⟨l, g1, g2, g3⟩ := h1 t o (parts.partsL ts ++ rest) (by omega) hd i x hx
        exact ⟨l, by rw [List.getElem?_append_left (by rw [hal]; exact hi)]; exact g1, g2, g3⟩
      · rw [List.getElem?_append_right (by rw [parts_len]; exact hi), parts_len] at hx
        have hd2 : L.drop (o + t.sz) = parts.partsL ts ++ rest := by
          rw [← List.drop_drop, hd, ← parts_len t, List.drop_left]
        obtain ⟨l, g1, g2, g3⟩ := iht (o + t.sz) rest (by omega) hd2 (i - t.sz) x hx
        refine ⟨l, by rw [List.getElem?_append_right (by omega), hal]; exact g1, g2, fun m c hm => ?_⟩
        obtain ⟨j, k1, k2, k3⟩ := g3 m c hm
        exact ⟨j, k1, by omega, k3⟩

theorem args_of {s : T} {i : Nat} {x : T} (h : (parts s)[i]? = some x) : ∃ l, (argsAt s 0)[i]? = some l ∧ l.length = x.args.length ∧ ∀ (m : Nat) (c : T), x.args[m]? = some c → ∃ j : Nat, l[m]? = some (j : Int) ∧ j < i ∧ (parts s)[j]? = some c := by
  obtain ⟨l, h1, h2, h3⟩ := (args_mean (parts s) _).1 s 0 [] (Nat.le_refl _) (by simp) i x h
  exact ⟨l, h1, h2, fun m c hm => by
    obtain ⟨j, g1, g2, g3⟩ := h3 m c hm
    exact ⟨j, g1, by omega, g3⟩⟩

end Go.Proofs.Ytbkedppkdhfpoaa

namespace Go.Proofs.Ytbkedppkdhfpoaa
open Go.RowKit

/-- The parts of s lie in the block g, what stands behind them below lo. -/
def PartsAt (lo : Nat) (w : World) (g : Nat) (s : T) : Prop := g < w.heap.size ∧ ∀ k x, (parts s)[k]? = some x → ∃ a1 cap2, w.cell? ⟨g, k * 3, none⟩ = some (.int .i64 x.v) ∧ w.cell? ⟨g, k * 3 + 1, none⟩ = some (.int .i64 x.f) ∧ w.cell? ⟨g, k * 3 + 2, none⟩ = some (.slice a1 x.args.length cap2) ∧ InP (fun b => b < lo) w x.args a1
theorem PartsAt.below {lo : Nat} {w w' : World} {g : Nat} {s : T} (h : PartsAt lo w g s) (hb : Below w.heap.size w w') : PartsAt lo w' g s := by
  refine ⟨Nat.lt_of_lt_of_le h.1 hb.size, fun k x hx => ?_⟩
  obtain ⟨a1, c2, h0, h1, h2, hi⟩ := h.2 k x hx
  have e : ∀ j, w'.cell? ⟨g, j, none⟩ = w.cell? ⟨g, j, none⟩ := fun j => hb.cell (p := ⟨g, j, none⟩) h.1
  exact ⟨a1, c2, (e _).trans h0, (e _).trans h1, (e _).trans h2, InP_below hb hi⟩
theorem partsAt_one (t : T) (a : Option Addr) (cap : Nat) (w : World) (ht : t.sz ≤ 120) (hin : InL w t.args a) :
    Calls Try.prog 58 #[.slice none 0 0, .agg #[.int .i64 t.v, .int .i64 t.f, .slice a t.args.length cap]] w fun e w' => ∃ g cap1, e = .returned (.slice (some ⟨g, 0, none⟩) t.sz cap1) ∧ PartsAt w.heap.size w' g t ∧ Below w.heap.size w w' := by
  refine (partsK_one t a cap w (by omega) hin).mono ?_
  rintro e w' ⟨g, cap1, rfl, _, hlt, hc, hb⟩
  exact ⟨g, cap1, rfl, ⟨hlt, hc⟩, hb⟩

/-- Lists of numbers lie in the block g. -/
def ListsAt (w : World) (g : Nat) (rows : List (List Int)) : Prop := g < w.heap.size ∧ ∀ i l, rows[i]? = some l → ∃ a c, w.cell? ⟨g, i, none⟩ = some (.slice a l.length c) ∧ Ints w l a
theorem ListsAt.below {w w' : World} {g : Nat} {rows : List (List Int)} (h : ListsAt w g rows) (hb : Below w.heap.size w w') : ListsAt w' g rows := by
  refine ⟨Nat.lt_of_lt_of_le h.1 hb.size, fun i l hl => ?_⟩
  obtain ⟨a, c, h0, hi⟩ := h.2 i l hl
  exact ⟨a, c, by rw [hb.cell (p := ⟨g, i, none⟩) h.1]; exact h0, Ints_below hb hi⟩
theorem listsAt_one (t : T) (a : Option Addr) (cap : Nat) (w : World) (ht : t.sz ≤ 120) (hin : InL w t.args a) :
    Calls Try.prog 82 #[.agg #[.int .i64 t.v, .int .i64 t.f, .slice a t.args.length cap]] w fun e w' => ∃ g cap1, e = .returned (.slice (some ⟨g, 0, none⟩) t.sz cap1) ∧ ListsAt w' g (argsAt t 0) ∧ Below w.heap.size w w' := by
  refine (argsOf_any 120 t a cap w ht ht hin).mono ?_
  rintro e w' ⟨v, rfl, ⟨xs, hown, hrk⟩, hb⟩
  have hl : (argsAt t 0).length = t.sz := (args_length _).1 t 0 (Nat.le_refl _)
  rw [hl] at hown
  obtain ⟨g, cap1, rfl, _, hlt, hc, _⟩ := own_cells1 hown t.sz_pos
  refine ⟨g, cap1, rfl, ⟨hlt, fun i l hi => ?_⟩, hb⟩
  obtain ⟨a', c', h1, h2⟩ := RK_at hrk hi
  exact ⟨a', c', hc i _ h1, IP_ints h2⟩

theorem Try.underlying112 : Try.prog.underlying 112 = some (.slice 113) := by kernel_rfl
theorem Try.underlying113 : Try.prog.underlying 113 = some (.slice 4) := by kernel_rfl
theorem Try.info113 : (Try.prog.info? 113).map (fun i => (i.zero, i.size, i.bytes)) = some (some (.slice none 0 0), 1, 24) := by kernel_rfl
theorem Try.info4 : (Try.prog.info? 4).map (fun i => (i.zero, i.size, i.bytes)) = some (some (.bool false), 1, 1) := by kernel_rfl
def rowT (n : Nat) : Array Value := madeCells #[.slice none 0 0] (n * 1)
def rowB (n : Nat) : Array Value := madeCells #[.bool false] (n * 1)
theorem run_makeT (n : Nat) (hn : n ≤ 1000000) (w : World) : (Instr.makeSlice 112 (.int .i64 (n : Int)) (.int .i64 (n : Int))).run Try.prog w = .ok (.slice (some ⟨w.heap.size, 0, none⟩) n n) (w.alloc (.cells (rowT n) 113)) := by
  obtain ⟨i, hi, hzz⟩ := Option.map_eq_some_iff.1 Try.info113
  simp only [Prod.mk.injEq] at hzz
  obtain ⟨hz, hs, hb⟩ := hzz
  have hr := run_make (P := Try.prog) w 112 113 i _ Try.underlying112 hi hz .i64 .i64 n n (by omega) (Int.le_refl _) (by rw [hb]; omega) (by omega)
  simp only [Int.toNat_natCast, hs] at hr
  exact hr
theorem run_makeB (n : Nat) (hn : n ≤ 1000000) (w : World) : (Instr.makeSlice 113 (.int .i64 (n : Int)) (.int .i64 (n : Int))).run Try.prog w = .ok (.slice (some ⟨w.heap.size, 0, none⟩) n n) (w.alloc (.cells (rowB n) 4)) := by
  obtain ⟨i, hi, hzz⟩ := Option.map_eq_some_iff.1 Try.info4
  simp only [Prod.mk.injEq] at hzz
  obtain ⟨hz, hs, hb⟩ := hzz
  have hr := run_make (P := Try.prog) w 113 4 i _ Try.underlying113 hi hz .i64 .i64 n n (by omega) (Int.le_refl _) (by rw [hb]; omega) (by omega)
  simp only [Int.toNat_natCast, hs] at hr
  exact hr
theorem rowB_at {n j : Nat} (h : j < n) : (rowB n)[j]? = some (.bool false) := by
  simp [rowB, madeCells, h, Nat.mod_one]

/-- The table: n rows of C truths, each in a block of its own behind K. -/
structure TT (K R C n : Nat) (rb : Nat → Nat) (w : World) (M : Nat → Nat → Bool) : Prop where
  rows : ∀ i, i < n → w.cell? ⟨K, i, none⟩ = some (.slice (some ⟨rb i, 0, none⟩) C C)
  ex : ∀ i, i < R → ∃ v, w.cell? ⟨K, i, none⟩ = some v
  frK : ∀ i, w.frozen? ⟨K, i, none⟩ = false
  ent : ∀ i j, i < n → j < C → w.cell? ⟨rb i, j, none⟩ = some (.bool (M i j))
  fr : ∀ i j, i < n → w.frozen? ⟨rb i, j, none⟩ = false
  gtK : ∀ i, i < n → K < rb i
  lt : ∀ i, i < n → rb i < w.heap.size
  inj : ∀ i j, i < n → j < n → rb i = rb j → i = j
  ltK : K < w.heap.size
theorem TT.below {K R C n : Nat} {rb : Nat → Nat} {w w' : World} {M : Nat → Nat → Bool} (h : TT K R C n rb w M) (hb : Below w.heap.size w w') : TT K R C n rb w' M := by
  have eK : ∀ i, w'.cell? ⟨K, i, none⟩ = w.cell? ⟨K, i, none⟩ := fun i => hb.cell (p := ⟨K, i, none⟩) h.ltK
  exact ⟨fun i hi => (eK i).trans (h.rows i hi), fun i hi => by obtain ⟨v, hv⟩ := h.ex i hi; exact ⟨v, (eK i).trans hv⟩, fun i => by rw [hb.frozen (p := ⟨K, i, none⟩) h.ltK]; exact h.frK i,
    fun i j hi hj => by rw [hb.cell (p := ⟨rb i, j, none⟩) (h.lt i hi)]; exact h.ent i j hi hj, fun i j hi => by rw [hb.frozen (p := ⟨rb i, j, none⟩) (h.lt i hi)]; exact h.fr i j hi, h.gtK, fun i hi => Nat.lt_of_lt_of_le (h.lt i hi) hb.size, h.inj, Nat.lt_of_lt_of_le h.ltK hb.size⟩
/-- An entry written. -/
theorem TT.set {K R C n : Nat} {rb : Nat → Nat} {w : World} {M : Nat → Nat → Bool} (h : TT K R C n rb w M) {i j : Nat} (hi : i < n) (hj : j < C) (x : Bool) : TT K R C n rb (w.setCell ⟨rb i, j, none⟩ (.bool x)) (fun i' j' => if i' = i ∧ j' = j then x else M i' j') := by
  have hs : (w.setCell ⟨rb i, j, none⟩ (.bool x)).heap.size = w.heap.size := by simp [World.setCell]
  have hne : K ≠ rb i := by have := h.gtK i hi; omega
  have eK : ∀ k, (w.setCell ⟨rb i, j, none⟩ (.bool x)).cell? ⟨K, k, none⟩ = w.cell? ⟨K, k, none⟩ := fun k => World.cell?_of_block (w := w) (a := ⟨K, k, none⟩) (Below.heap_setCell _ _ _ _ hne)
  refine ⟨fun k hk => (eK k).trans (h.rows k hk), fun k hk => by obtain ⟨v, hv⟩ := h.ex k hk; exact ⟨v, (eK k).trans hv⟩, fun k => by rw [World.frozen?_setCell]; exact h.frK k, fun i' j' hi' hj' => ?_, fun i' j' hi' => by rw [World.frozen?_setCell]; exact h.fr i' j' hi', h.gtK, fun k hk => by rw [hs]; exact h.lt k hk, h.inj, by rw [hs]; exact h.ltK⟩
  by_cases e : i' = i
  · subst e
    by_cases e2 : j' = j
    · subst e2
      rw [World.cell?_setCell_same _ _ _ (h.ent i' j' hi hj), if_pos ⟨rfl, rfl⟩]
    · rw [World.cell?_setCell_other _ _ _ _ (fun e3 => e2 (by injection e3 with _ e4; exact e4.symm)), if_neg (fun h => e2 h.2)]; exact h.ent _ _ hi' hj'
  · rw [World.cell?_of_block (w := w) (a := ⟨rb i', j', none⟩) (Below.heap_setCell _ _ _ _ (fun e3 => e (h.inj _ _ hi' hi e3))), if_neg (fun h => e h.1)]; exact h.ent _ _ hi' hj'

/-- What is done is right: all rows ahead of i, and of row i what lies ahead of k. -/
def Right (PS PT : List T) (M : Nat → Nat → Bool) (i k : Nat) : Prop := ∀ i' j x y, PS[i']? = some x → PT[j]? = some y → (i' < i ∨ i' = i ∧ j < k) → M i' j = gt x y
theorem Right.set {PS PT : List T} {M : Nat → Nat → Bool} {i k : Nat} {x y : T} (h : Right PS PT M i k) (hx : PS[i]? = some x) (hy : PT[k]? = some y) : Right PS PT (fun i' j' => if i' = i ∧ j' = k then gt x y else M i' j') i (k + 1) := by
  intro i' j x' y' hx' hy' hd
  by_cases e : i' = i ∧ j = k
  · obtain ⟨rfl, rfl⟩ := e
    rw [hx] at hx'; rw [hy] at hy'
    obtain rfl : x = x' := by simpa using hx'
    obtain rfl : y = y' := by simpa using hy'
    simp
  · simp only [if_neg e]
    exact h i' j x' y' hx' hy' (by omega)
theorem Right.row {PS PT : List T} {M : Nat → Nat → Bool} {i k : Nat} (h : Right PS PT M i k) (hk : k = PT.length) : Right PS PT M (i + 1) 0 := by
  intro i' j x' y' hx' hy' hd
  refine h i' j x' y' hx' hy' ?_
  have hj : j < PT.length := by
    rcases Nat.lt_or_ge j PT.length with h | h
    · exact h
    · rw [List.getElem?_eq_none h] at hy'; cases hy'
  omega

end Go.Proofs.Ytbkedppkdhfpoaa

namespace Go.Proofs.Ytbkedppkdhfpoaa
open Go.RowKit

/-- The parts of a term's arguments lie behind the slice 's', numbered from n on, in blocks of which p holds; the terms themselves in blocks of which r holds. -/
def T.PIn (p r : Nat → Prop) (w : World) : T → Nat → Value → Prop
  | ⟨_, _, args⟩, n, s => ∃ a cap, s = .slice a args.length cap ∧ args.length ≤ cap ∧ PL args n a
  where
  PL : List T → Nat → Option Addr → Prop
    | [], _, _ => True
    | t :: ts, n, a => ∃ b off ta tc s, a = some ⟨b, off, none⟩ ∧ p b ∧ w.cell? ⟨b, off, none⟩ = some (.int .i64 t.v) ∧ w.cell? ⟨b, off + 1, none⟩ = some (.int .i64 t.f) ∧ w.cell? ⟨b, off + 2, none⟩ = some (.slice ta t.args.length tc) ∧
        w.cell? ⟨b, off + 3, none⟩ = some (.int .i64 (n : Int)) ∧ w.cell? ⟨b, off + 4, none⟩ = some s ∧ InP r w t.args ta ∧ t.PIn p r w (n + 1) s ∧ PL ts (n + t.sz) (some ⟨b, off + 5, none⟩)
abbrev PL (p r : Nat → Prop) (w : World) (ts : List T) (n : Nat) (a : Option Addr) : Prop := T.PIn.PL p r w ts n a

theorem PL_nil {p r : Nat → Prop} {w : World} {n : Nat} {a : Option Addr} : PL p r w [] n a := trivial
theorem PL_cons {p r : Nat → Prop} {w : World} {t : T} {ts : List T} {n : Nat} {a : Option Addr} : PL p r w (t :: ts) n a ↔ ∃ b off ta tc s, a = some ⟨b, off, none⟩ ∧ p b ∧ w.cell? ⟨b, off, none⟩ = some (.int .i64 t.v) ∧ w.cell? ⟨b, off + 1, none⟩ = some (.int .i64 t.f) ∧ w.cell? ⟨b, off + 2, none⟩ = some (.slice ta t.args.length tc) ∧
        w.cell? ⟨b, off + 3, none⟩ = some (.int .i64 (n : Int)) ∧ w.cell? ⟨b, off + 4, none⟩ = some s ∧ InP r w t.args ta ∧ t.PIn p r w (n + 1) s ∧ PL p r w ts (n + t.sz) (some ⟨b, off + 5, none⟩) := Iff.rfl
theorem PIn_iff {p r : Nat → Prop} {w : World} {t : T} {n : Nat} {s : Value} : t.PIn p r w n s ↔ ∃ a cap, s = .slice a t.args.length cap ∧ t.args.length ≤ cap ∧ PL p r w t.args n a := by
  cases t; exact Iff.rfl
theorem PL_some {p r : Nat → Prop} {w : World} {ts : List T} {n : Nat} {a : Option Addr} (h : PL p r w ts n a) (hp : 0 < ts.length) : ∃ b off, a = some ⟨b, off, none⟩ := by
  cases ts with
  | nil => simp at hp
  | cons t us =>
    obtain ⟨b, off, _, _, _, rfl, _⟩ := PL_cons.1 h
    exact ⟨b, off, rfl⟩
theorem szL_zero (t : T) (ts : List T) : T.sz.szL ((t :: ts).take 0) = 0 := rfl

/-- The part at index k: its five cells. -/
theorem PL_at {p r : Nat → Prop} {w : World} {ts : List T} : ∀ {b off n k : Nat} {t : T}, PL p r w ts n (some ⟨b, off, none⟩) → ts[k]? = some t →
    ∃ ta tc pa pc, p b ∧ w.cell? ⟨b, off + k * 5, none⟩ = some (.int .i64 t.v) ∧ w.cell? ⟨b, off + k * 5 + 1, none⟩ = some (.int .i64 t.f) ∧ w.cell? ⟨b, off + k * 5 + 2, none⟩ = some (.slice ta t.args.length tc) ∧
      w.cell? ⟨b, off + k * 5 + 3, none⟩ = some (.int .i64 ((n + T.sz.szL (ts.take k) : Nat) : Int)) ∧ w.cell? ⟨b, off + k * 5 + 4, none⟩ = some (.slice pa t.args.length pc) ∧ t.args.length ≤ pc ∧ InP r w t.args ta ∧ PL p r w t.args (n + T.sz.szL (ts.take k) + 1) pa := by
  induction ts with
  | nil => intro b off n k t _ h; simp at h
  | cons u us ih =>
    intro b off n k t h hk
    obtain ⟨b', off', ta, tc, s, hb, hp, h0, h1, h2, h3, h4, hin, hpin, hr⟩ := PL_cons.1 h
    simp only [Option.some.injEq, Addr.mk.injEq] at hb
    obtain ⟨rfl, rfl, _⟩ := hb
    cases k with
    | zero =>
      simp at hk; subst hk
      obtain ⟨pa, pc, rfl, hpc, hl⟩ := PIn_iff.1 hpin
      exact ⟨ta, tc, pa, pc, hp, by simpa using h0, by simpa using h1, by simpa using h2, by simpa [szL_zero, T.szL_nil] using h3, by simpa using h4, hpc, hin, by simpa [T.szL_nil] using hl⟩
    | succ k =>
      simp at hk
      obtain ⟨ta, tc, pa, pc, _, g0, g1, g2, g3, g4, gc, gi, gl⟩ := ih hr hk
      have e : off + (k + 1) * 5 = off + 5 + k * 5 := by omega
      have e2 : n + T.sz.szL ((u :: us).take (k + 1)) = n + u.sz + T.sz.szL (us.take k) := by rw [List.take_succ_cons, T.szL_cons]; omega
      rw [e, e2]
      exact ⟨ta, tc, pa, pc, hp, g0, g1, g2, g3, g4, gc, gi, gl⟩

/-- What lies in w lies in every world that holds the same cells there. -/
theorem PL_mono {p q r r' : Nat → Prop} {w w' : World} (hs : ∀ b o v, p b → w.cell? ⟨b, o, none⟩ = some v → q b ∧ w'.cell? ⟨b, o, none⟩ = some v) (hr : ∀ b o v, r b → w.cell? ⟨b, o, none⟩ = some v → r' b ∧ w'.cell? ⟨b, o, none⟩ = some v) :
    ∀ (m : Nat) (ts : List T) (n : Nat) (a : Option Addr), T.sz.szL ts ≤ m → PL p r w ts n a → PL q r' w' ts n a := by
  intro m
  induction m with
  | zero =>
    intro ts n a hn h
    cases ts with
    | nil => exact PL_nil
    | cons t ts => have := t.sz_pos; rw [T.szL_cons] at hn; omega
  | succ m ih =>
    intro ts
    induction ts with
    | nil => intro n a _ _; exact PL_nil
    | cons t ts iht =>
      intro n a hn h
      rw [T.szL_cons, T.sz_eq] at hn
      obtain ⟨b, off, ta, tc, s, rfl, hp, h0, h1, h2, h3, h4, hin, hpin, hl⟩ := PL_cons.1 h
      obtain ⟨pa, pc, rfl, hpc, hpl⟩ := PIn_iff.1 hpin
      exact PL_cons.2 ⟨b, off, ta, tc, _, rfl, (hs _ _ _ hp h0).1, (hs _ _ _ hp h0).2, (hs _ _ _ hp h1).2, (hs _ _ _ hp h2).2, (hs _ _ _ hp h3).2, (hs _ _ _ hp h4).2, InP_mono hr _ _ _ (Nat.le_refl _) hin,
        PIn_iff.2 ⟨pa, pc, rfl, hpc, ih _ _ _ (by omega) hpl⟩, iht _ _ (by omega) hl⟩
theorem PL_same {p r : Nat → Prop} {w w' : World} {ts : List T} {n : Nat} {a : Option Addr} (hs : ∀ k, p k ∨ r k → k < w.heap.size → w'.heap[k]? = w.heap[k]?) (h : PL p r w ts n a) : PL p r w' ts n a :=
  PL_mono (fun b o v hp hv => ⟨hp, by rw [World.cell?_of_block (w := w) (a := ⟨b, o, none⟩) (hs b (Or.inl hp) (lt_of_cell hv))]; exact hv⟩) (fun b o v hp hv => ⟨hp, by rw [World.cell?_of_block (w := w) (a := ⟨b, o, none⟩) (hs b (Or.inr hp) (lt_of_cell hv))]; exact hv⟩) _ _ _ _ (Nat.le_refl _) h
theorem PL_below {p r : Nat → Prop} {w w' : World} {ts : List T} {n : Nat} {a : Option Addr} (hb : Below w.heap.size w w') (h : PL p r w ts n a) : PL p r w' ts n a := PL_same (fun k _ hk => hb.block k hk) h
theorem PL_imp {p q r r' : Nat → Prop} {w : World} {ts : List T} {n : Nat} {a : Option Addr} (hpq : ∀ k, p k → q k) (hrr : ∀ k, r k → r' k) (h : PL p r w ts n a) : PL q r' w ts n a :=
  PL_mono (fun _ _ _ hp hv => ⟨hpq _ hp, hv⟩) (fun _ _ _ hp hv => ⟨hrr _ hp, hv⟩) _ _ _ _ (Nat.le_refl _) h

/-- A row of parts, told part by part. -/
theorem PL_of_row {p r : Nat → Prop} {w : World} {b : Nat} (hp : p b) {ts : List T} : ∀ {off n : Nat}, (∀ k t, ts[k]? = some t → ∃ ta tc pa pc, w.cell? ⟨b, off + k * 5, none⟩ = some (.int .i64 t.v) ∧ w.cell? ⟨b, off + k * 5 + 1, none⟩ = some (.int .i64 t.f) ∧ w.cell? ⟨b, off + k * 5 + 2, none⟩ = some (.slice ta t.args.length tc) ∧
      w.cell? ⟨b, off + k * 5 + 3, none⟩ = some (.int .i64 ((n + T.sz.szL (ts.take k) : Nat) : Int)) ∧ w.cell? ⟨b, off + k * 5 + 4, none⟩ = some (.slice pa t.args.length pc) ∧ t.args.length ≤ pc ∧ InP r w t.args ta ∧ PL p r w t.args (n + T.sz.szL (ts.take k) + 1) pa) → PL p r w ts n (some ⟨b, off, none⟩) := by
  induction ts with
  | nil => intro off n _; exact PL_nil
  | cons u us ih =>
    intro off n h
    obtain ⟨ta, tc, pa, pc, h0, h1, h2, h3, h4, hc, hi, hl⟩ := h 0 u rfl
    refine PL_cons.2 ⟨b, off, ta, tc, _, rfl, hp, by simpa using h0, by simpa using h1, by simpa using h2, by simpa [T.szL_nil] using h3, by simpa using h4, hi, PIn_iff.2 ⟨pa, pc, rfl, hc, by simpa [T.szL_nil] using hl⟩, ih (fun k t hk => ?_)⟩
    obtain ⟨ta, tc, pa, pc, g0, g1, g2, g3, g4, gc, gi, gl⟩ := h (k + 1) t (by simpa using hk)
    have e : off + (k + 1) * 5 = off + 5 + k * 5 := by omega
    have e2 : n + T.sz.szL ((u :: us).take (k + 1)) = n + u.sz + T.sz.szL (us.take k) := by rw [List.take_succ_cons, T.szL_cons]; omega
    rw [e] at g0 g1 g2 g3 g4
    rw [e2] at g3 gl
    exact ⟨ta, tc, pa, pc, g0, g1, g2, g3, g4, gc, gi, gl⟩

/-- The parts behind the first k of them. -/
theorem PL_drop {p r : Nat → Prop} {w : World} : ∀ {ts : List T} {n k b off : Nat}, PL p r w ts n (some ⟨b, off, none⟩) → PL p r w (ts.drop k) (n + T.sz.szL (ts.take k)) (some ⟨b, off + k * 5, none⟩) := by
  intro ts
  induction ts with
  | nil => intro n k b off _; rw [List.drop_nil]; exact PL_nil
  | cons t ts ih =>
    intro n k b off h
    cases k with
    | zero => simpa [T.szL_nil] using h
    | succ k =>
      obtain ⟨b', off', ta, tc, s, hb, hp, h0, h1, h2, h3, h4, hin, hpin, hl⟩ := PL_cons.1 h
      simp only [Option.some.injEq, Addr.mk.injEq] at hb
      obtain ⟨rfl, rfl, _⟩ := hb
      have h9 := ih (k := k) hl
      rw [List.drop_succ_cons, List.take_succ_cons, T.szL_cons, show off + (k + 1) * 5 = off + 5 + k * 5 by omega, show n + (t.sz + T.sz.szL (ts.take k)) = n + t.sz + T.sz.szL (ts.take k) by omega]
      exact h9

end Go.Proofs.Ytbkedppkdhfpoaa
