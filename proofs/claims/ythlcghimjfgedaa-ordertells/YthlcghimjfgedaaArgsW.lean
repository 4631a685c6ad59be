/- The document's ArgsOf: the walk. -/
import Derived.Test.YthlcghimjfgedaaArgs
namespace Go.Proofs.Ythlcghimjfgedaa
open Go.RowKit

theorem nums_bound : ∀ {ts : List T} {o : Nat} {e : Int}, e ∈ numsL o ts → 0 ≤ e ∧ e < ((o + T.sz.szL ts : Nat) : Int) := by
  intro ts
  induction ts with
  | nil => intro o e h; cases h
  | cons t ts ih =>
    intro o e h
    rw [numsL] at h
    have := t.sz_pos
    rw [T.szL_cons]
    rcases List.mem_cons.1 h with rfl | h
    · omega
    · have := ih h; omega
theorem args_bound : ∀ (n : Nat), (∀ (t : T) (o : Nat) (l : List Int) (e : Int), t.sz ≤ n → l ∈ argsAt t o → e ∈ l → 0 ≤ e ∧ e < ((o + t.sz : Nat) : Int)) ∧ (∀ (ts : List T) (o : Nat) (l : List Int) (e : Int), T.sz.szL ts ≤ n → l ∈ argsAt.aL ts o → e ∈ l → 0 ≤ e ∧ e < ((o + T.sz.szL ts : Nat) : Int)) := by
  intro n
  induction n with
  | zero =>
    refine ⟨fun t o l e h => by have := t.sz_pos; omega, fun ts o l e h hl => ?_⟩
    cases ts with
    | nil => cases hl
    | cons t ts => have := t.sz_pos; rw [T.szL_cons] at h; omega
  | succ n ih =>
    have h1 : ∀ (t : T) (o : Nat) (l : List Int) (e : Int), t.sz ≤ n + 1 → l ∈ argsAt t o → e ∈ l → 0 ≤ e ∧ e < ((o + t.sz : Nat) : Int) := fun t o l e h hl he => by
      have hts := T.sz_eq t
      rw [argsAt_eq, List.mem_append, List.mem_singleton] at hl
      rcases hl with hl | rfl
      · have := ih.2 t.args o l e (by omega) hl he; omega
      · have := nums_bound he; omega
    refine ⟨h1, fun ts => ?_⟩
    induction ts with
    | nil => intro o l e _ hl; cases hl
    | cons t ts iht =>
      intro o l e h hl he
      rw [T.szL_cons] at h ⊢
      rw [aL_cons, List.mem_append] at hl
      rcases hl with hl | hl
      · have := h1 t o l e (by omega) hl he; omega
      · have := iht (o + t.sz) l e (by omega) hl he; omega

theorem ownBlock_len {a : Option Addr} {n m c k : Nat} (h : (Value.slice a n c).ownBlock = some k) : (Value.slice a m c).ownBlock = some k := by
  cases a with
  | none => cases h
  | some x => exact h
theorem RowsI_below {base : Nat} {p : Nat → Prop} {w w' : World} {v : Value} {rows : List (List Int)} (h : RowsI base p w v rows) (hb : Below w.heap.size w w') : RowsI base p w' v rows := by
  obtain ⟨xs, h1, h2⟩ := h
  exact ⟨xs, own_same h1 (fun g hg => hb.block g (own_lt h1 g hg).2), RK_mono (fun k hk hlt => ⟨hk, hb.block k hlt⟩) h2⟩
theorem srcv_one {w : World} {v : Value} {e : TypeId} (hv : v.oneCell' = true) : SrcV (w.alloc (.cells #[v] e)) (.slice (some ⟨w.heap.size, 0, none⟩) 1 1) [v] := by
  refine ⟨⟨w.heap.size, 0, 1, rfl, fun j u hu => ?_⟩, fun u hu => ?_⟩
  · cases j with
    | zero =>
      have hu : v = u := by simpa using hu
      subst hu; exact cell_new 0 rfl
    | succ j => simp at hu
  · have hu : u = v := by simpa using hu
    subst hu; exact hv
theorem args_rowlen : ∀ (n : Nat), (∀ (t : T) (o : Nat) (l : List Int), t.sz ≤ n → l ∈ argsAt t o → l.length ≤ t.sz) ∧ (∀ (ts : List T) (o : Nat) (l : List Int), T.sz.szL ts ≤ n → l ∈ argsAt.aL ts o → l.length ≤ T.sz.szL ts) := by
  intro n
  induction n with
  | zero =>
    refine ⟨fun t o l h => by have := t.sz_pos; omega, fun ts o l h hl => ?_⟩
    cases ts with
    | nil => cases hl
    | cons t ts => have := t.sz_pos; rw [T.szL_cons] at h; omega
  | succ n ih =>
    have h1 : ∀ (t : T) (o : Nat) (l : List Int), t.sz ≤ n + 1 → l ∈ argsAt t o → l.length ≤ t.sz := fun t o l h hl => by
      have hts := T.sz_eq t
      rw [argsAt_eq, List.mem_append, List.mem_singleton] at hl
      rcases hl with hl | rfl
      · have := ih.2 t.args o l (by omega) hl; omega
      · rw [numsL_length]; have := T.length_le t.args; omega
    refine ⟨h1, fun ts => ?_⟩
    induction ts with
    | nil => intro o l _ hl; cases hl
    | cons t ts iht =>
      intro o l h hl
      rw [T.szL_cons] at h ⊢
      rw [aL_cons, List.mem_append] at hl
      rcases hl with hl | hl
      · have := h1 t o l (by omega) hl; omega
      · have := iht (o + t.sz) l (by omega) hl; omega

set_option maxRecDepth 100000 in
set_option maxHeartbeats 2000000 in
theorem argsOf_any (N : Nat) : ∀ (t : T) (a : Option Addr) (cap : Nat) (w : World), t.sz ≤ N → t.sz ≤ 120 → InL w t.args a →
    Calls Try.prog 82 #[.agg #[.int .i64 t.v, .int .i64 t.f, .slice a t.args.length cap]] w fun e w' =>
      ∃ v, e = .returned v ∧ RowsI w.heap.size (fun k => w.heap.size ≤ k ∧ v.ownBlock ≠ some k) w' v (argsAt t 0) ∧ Below w.heap.size w w' := by
  induction N with
  | zero => intro t a cap w hN; have := t.sz_pos; omega
  | succ N ih =>
    intro t a cap w hN h120 hin
    have Hih := hide ih
    have hts := T.sz_eq t
    have hlen : t.args.length ≤ 120 := by have := T.length_le t.args; omega
    obtain ⟨W1, hW1⟩ : ∃ W1, W1 = w.alloc (.cells #[.int .i64 t.v, .int .i64 t.f, .slice a t.args.length cap] 27) := ⟨_, rfl⟩
    have hzW : W1.heap.size = w.heap.size + 1 := by rw [hW1]; simp
    have hbW : Below w.heap.size w W1 := by rw [hW1]; exact below1 _ _
    have H3 : Hid (Three W1 w.heap.size (.int .i64 t.v) (.int .i64 t.f) (.slice a t.args.length cap)) := by rw [hW1]; exact Three.new 27 rfl
    have HW1 := hide hW1
    clear ih hW1
    go_enter Try.func82, Try.ntmps82
    go_wp2_with fail
    rw [← HW1.out]
    go_loopw [3, 4, 5] (fun vo va iv wr => ∃ k : Nat, k ≤ t.args.length ∧ iv = .int .i64 k ∧ RowsI (w.heap.size + 1) (fun b => w.heap.size + 1 ≤ b ∧ vo.ownBlock ≠ some b ∧ va.ownBlock ≠ some b) wr vo (argsAt.aL (t.args.take k) 0) ∧
        OwnI (w.heap.size + 1) wr va (numsL 0 (t.args.take k)) ∧ (∀ g, vo.ownBlock = some g → va.ownBlock ≠ some g) ∧ Below (w.heap.size + 1) W1 wr) (fun _ _ iv _ => t.args.length - (intOf iv).toNat)
    case atStart => exact ⟨0, Nat.zero_le _, rfl, ⟨[], ⟨rfl, Or.inl ⟨rfl, rfl⟩⟩, rfl⟩, ⟨rfl, Or.inl ⟨rfl, rfl⟩⟩, (fun g hg => nomatch hg), Below.refl _ _⟩
    case round =>
      obtain ⟨k, hk, rfl, ⟨xo, hoo, hko⟩, hoa, hdis, hb⟩ := hrel
      have hzr := hb.size
      obtain ⟨c0, c1, c2, _, _, _⟩ := H3.out.same (hb.block w.heap.size (by omega))
      have hbw : Below w.heap.size w wr := hbW.trans (hb.mono (by omega))
      obtain ⟨oa, oc, hvo⟩ := own_shape hoo
      obtain ⟨aa, ac, hva⟩ := own_shape hoa
      have hol : (argsAt.aL (t.args.take k) 0).length = T.sz.szL (t.args.take k) := (args_length _).2 _ 0 (Nat.le_refl _)
      subst hvo hva
      by_cases hlt : k < t.args.length
      · obtain ⟨b, off, rfl⟩ := InP_some hin (by omega)
        obtain ⟨c, hc⟩ : ∃ c, t.args[k]? = some c := ⟨t.args[k], List.getElem?_eq_getElem hlt⟩
        obtain ⟨a1, cap1, _, k0, k1, k2, hin1⟩ := InP_at (InP_below hbw hin) hc
        obtain ⟨hs1, hs2⟩ := szL_take hc
        have hce := T.sz_eq c
        have hcsz := T.szL_mem (List.mem_of_getElem? hc)
        have Hcall := hide (Hih.out c a1 cap1 wr (by omega) (by omega) hin1)
        have Hst1 : Hid (argsAt.aL (t.args.take (k + 1)) 0 = argsAt.aL (t.args.take k) 0 ++ argsAt c (T.sz.szL (t.args.take k))) := by
          show _ = _
          rw [List.take_add_one, hc, aL_append]
          show _ ++ (argsAt c (0 + T.sz.szL (t.args.take k)) ++ []) = _
          rw [Nat.zero_add, List.append_nil]
        have Hst2 : Hid (numsL 0 (t.args.take (k + 1)) = numsL 0 (t.args.take k) ++ [((T.sz.szL (t.args.take k) + c.sz : Nat) : Int) - 1]) := by
          show _ = _
          rw [List.take_add_one, hc, numsL_append, Nat.zero_add]; rfl
        have hkI : (k : Int) < t.args.length := by omega
        have hk0 : (0 : Int) ≤ k := by omega
        obtain ⟨o, ho⟩ : ∃ o, o = T.sz.szL (t.args.take k) := ⟨_, rfl⟩
        rw [hol, ← ho] at hoo
        have Hol : Hid ((argsAt.aL (t.args.take k) 0).length = o) := hol.trans ho.symm
        rw [← ho] at Hst1 Hst2 hs1 hs2
        have Hoo := hide hoo
        have Hko : Hid (RK (fun b => w.heap.size + 1 ≤ b ∧ (Value.slice oa o oc).ownBlock ≠ some b ∧ (Value.slice aa (numsL 0 (t.args.take k)).length ac).ownBlock ≠ some b) wr (argsAt.aL (t.args.take k) 0) xo) := RK_mono (fun k' hk' _ => ⟨⟨hk'.1, fun e => hk'.2.1 (ownBlock_len e), hk'.2.2⟩, rfl⟩) hko
        have Hoa := hide hoa
        have Hdis : Hid (∀ g, (Value.slice oa o oc).ownBlock = some g → (Value.slice aa (numsL 0 (t.args.take k)).length ac).ownBlock ≠ some g) := fun g hg => hdis g (ownBlock_len hg)
        have hoc : o + c.sz ≤ 120 := by omega
        have hcN : c.sz ≤ 120 := by omega
        have Hb := hide hb
        rw [Hol.out]
        clear hc hin1 ho hol hoo hko hoa hdis hb hce hs1 hs2 hcsz
        go_wp2_with fail
        refine Hcall.out.mono ?_
        rintro e wx ⟨vx, rfl, ⟨xx, hox, hkx⟩, hbx⟩
        have hXl : (argsAt c 0).length = c.sz := (args_length _).1 c 0 (Nat.le_refl _)
        obtain ⟨X, hX⟩ : ∃ X, X = argsAt c 0 := ⟨_, rfl⟩
        rw [← hX] at hox hkx hXl
        have hcp := c.sz_pos
        obtain ⟨g, cx, rfl, hg1, hg2, _, _⟩ := own_cells1 hox (by omega)
        have HrX : Hid (RowsI wr.heap.size (fun b' => wr.heap.size ≤ b' ∧ b' ≠ g) wx (.slice (some ⟨g, 0, none⟩) X.length cx) X) := ⟨xx, hox, RK_mono (fun k' hk' _ => ⟨⟨hk'.1, fun e => hk'.2 (by rw [e]; rfl)⟩, rfl⟩) hkx⟩
        have HbX : Hid (∀ l ∈ X, ∀ e ∈ l, 0 ≤ e ∧ e ≤ 1000) := fun l hl e he => by
          rw [hX] at hl
          have h9 := (args_bound _).1 c 0 l e (Nat.le_refl _) hl he
          omega
        have HXs : Hid (X.map (fun l => l.map (· + (o : Int))) = argsAt c o) := by
          show _ = _
          rw [hX, (args_shift o _).1 c 0 (Nat.le_refl _), Nat.zero_add]
        have HrL : Hid (∀ l ∈ X, l.length ≤ 120) := fun l hl => by
          rw [hX] at hl
          have h9 := (args_rowlen _).1 c 0 l (Nat.le_refl _) hl
          omega
        have Hbx := hide hbx
        have hXl2 : X.length ≤ 120 := by omega
        have hX0 : 0 < X.length := by omega
        have ho120 : o ≤ 1000 := by omega
        have HXl := hide hXl
        clear hX hox hkx hbx hXl k0 k1 k2 c0 c1 c2 Hcall
        go_wp2_with fail
        go_loopw [7] (fun kv wi => ∃ kk : Nat, kk ≤ X.length ∧ kv = .int .i64 kk ∧ RowsI wr.heap.size (fun b' => wr.heap.size ≤ b' ∧ b' ≠ g) wi (.slice (some ⟨g, 0, none⟩) X.length cx) (movedRows X o kk) ∧ Below wr.heap.size wr wi) (fun kv _ => X.length - (intOf kv).toNat)
        case atStart => exact ⟨0, Nat.zero_le _, rfl, HrX.out, Hbx.out⟩
        case round =>
          obtain ⟨kk, hkk, rfl, ⟨xi, hoi, hki⟩, hbi⟩ := hrel
          rw [moved_length] at hoi
          obtain ⟨g', cx', he, hgb, hgl, hci, hfi⟩ := own_cells1 hoi hX0
          simp only [Value.slice.injEq, Option.some.injEq, Addr.mk.injEq, and_true, true_and] at he
          obtain ⟨rfl, rfl⟩ := he
          by_cases hlt2 : kk < X.length
          · obtain ⟨l, hl⟩ : ∃ l, X[kk]? = some l := ⟨X[kk], List.getElem?_eq_getElem hlt2⟩
            obtain ⟨m1, m2⟩ := moved_at (m := o) hl
            obtain ⟨la, lc, hxl, hipl⟩ := RK_at hki m1
            have ck := hci kk _ hxl
            have fk := hfi kk
            have Hbl := hide (HbX.out l (List.mem_of_getElem? hl))
            have hll : l.length ≤ 120 := HrL.out l (List.mem_of_getElem? hl)
            have Hoi := hide hoi
            have Hki := hide hki
            have Hbi := hide hbi
            have Hm2 := hide m2
            have Hipl := hide hipl
            have hkkI : (kk : Int) < X.length := by omega
            have hkk0 : (0 : Int) ≤ kk := by omega
            clear hl m1 m2 hxl hipl hoi hki hbi hci hfi
            go_wp2_with fail
            go_loopw [8, 9] (fun vm jv wj => ∃ j : Nat, j ≤ l.length ∧ jv = .int .i64 j ∧ OwnI wr.heap.size wj vm ((l.take j).map (· + (o : Int))) ∧ Below wr.heap.size wr wj) (fun _ jv _ => l.length - (intOf jv).toNat)
            case atStart => exact ⟨0, Nat.zero_le _, rfl, ⟨rfl, Or.inl ⟨rfl, rfl⟩⟩, Below.refl _ _⟩
            case round =>
              obtain ⟨j, hj, rfl, hom, hbj⟩ := hrel
              have ckj := ck
              rw [← hbj.cell (p := ⟨g, kk, none⟩) hgl] at ckj
              have fkj := fk
              rw [← hbj.frozen (p := ⟨g, kk, none⟩) hgl] at fkj
              by_cases hlt3 : j < l.length
              · obtain ⟨lb, loff, rfl, hcl⟩ := Ints_some (IP_ints Hipl.out) (by omega)
                have cj := hcl j hlt3
                rw [← hbj.cell (p := ⟨lb, loff + j, none⟩) (lt_of_cell cj)] at cj
                have hgd : l.getD j 0 = l[j] := by rw [List.getD_eq_getElem?_getD, List.getElem?_eq_getElem hlt3]; rfl
                have hbd := Hbl.out (l.getD j 0) (by rw [hgd]; exact List.getElem_mem hlt3)
                have Htk : Hid ((l.take (j + 1)).map (· + (o : Int)) = (l.take j).map (· + (o : Int)) ++ [l.getD j 0 + (o : Int)]) := by
                  show _ = _
                  rw [hgd, List.take_add_one, List.getElem?_eq_getElem hlt3, List.map_append]; rfl
                obtain ⟨ma, mc, hvm⟩ := own_shape hom
                subst hvm
                have Hom := hide hom
                have Hbj := hide hbj
                have hzj := hbj.size
                have hjI : (j : Int) < l.length := by omega
                have hj0 : (0 : Int) ≤ j := by omega
                have htl : ((l.take j).map (· + (o : Int))).length ≤ 120 := by rw [List.length_map, List.length_take]; omega
                have HO := hide (fun o1 => OwnI.below Hom.out (below1 wr o1))
                clear hcl hom hbj hgd
                generalize l.getD j 0 = e at *
                obtain ⟨e0, e1⟩ := hbd
                go_wp2_with (at_builtin; go_must (refine wpList_append_ints rfl (.tmp 38) (.tmp 49) rfl _ _ ((l.take j).map (· + (o : Int))) rfl (HO.out _) (.slice (some ⟨wr.heap.size, 0, none⟩) 1 1) [e + (o : Int)] rfl (src_one (cell_new 0 rfl)) (by rw [List.length_singleton]; omega) (by rw [World.size_alloc]; omega) ?_))
                intro v6 w6 hown6 hgr6 hat6
                have Hown6 := hide hown6
                have Hb6 := hide ((Hbj.out.alloc hzj _).grown hgr6 (by rw [World.size_alloc]; omega) (fun k' hk' => (own_lt Hom.out k' (ownBlock_len hk')).1))
                clear hown6 hgr6 hat6
                go_wp2_with fail
                go_roundw
                case rel => exact ⟨j + 1, by omega, by go_num, by rw [Htk.out, List.map_take]; exact Hown6.out, Hb6.out⟩
                case measure => simp [intOf]; omega
              · have hj2 : j = l.length := by omega
                subst hj2
                rw [List.take_length] at hom
                obtain ⟨ma, mc, hvm⟩ := own_shape hom
                subst hvm
                have Hst3 := hide (rows_store (kk := kk) (n := X.length) ⟨xi, by rw [moved_length]; exact Hoi.out, Hki.out⟩ (moved_length X o kk) hbj hom Hbi.out.size)
                have Hbs := hide ((Hbi.out.trans (hbj.mono Hbi.out.size)).setCell (p := ⟨g, kk, none⟩) hgb (.slice ma (l.map (· + (o : Int))).length mc))
                clear hom hbj
                rw [Hm2.out] at Hst3
                rw [List.length_map] at Hst3 Hbs ⊢
                go_wp2_with fail
                go_roundw
                case rel => exact ⟨kk + 1, by omega, by go_num, Hst3.out, Hbs.out⟩
                case measure => simp [intOf]; omega
          · have hkk2 : kk = X.length := by omega
            subst hkk2
            rw [moved_all, HXs.out] at hki
            have hRl : (argsAt c o).length = c.sz := (args_length _).1 c o (Nat.le_refl _)
            have hxil : xi.length = c.sz := by rw [RK_length hki]; exact hRl
            have Hsrc := hide (rows_src hoi hki (hRl.trans HXl.out.symm) hX0)
            have Hoo2 := hide (own_same Hoo.out (w' := wr) (fun g' hg' => hbi.block g' (own_lt Hoo.out g' hg').2))
            have Hoa2 := hide (OwnI.below Hoa.out hbi)
            have Hki := hide hki
            have Hbi := hide hbi
            have hzi := hbi.size
            have HRl := hide hRl
            have hnl : (numsL 0 (t.args.take k)).length ≤ 120 := by rw [numsL_length, List.length_take]; omega
            have Hst2' : Hid (numsL 0 (t.args.take (k + 1)) = numsL 0 (t.args.take k) ++ [(o : Int) + (c.sz : Int) - 1]) := by
              show _ = _
              rw [Hst2.out, show ((o + c.sz : Nat) : Int) - 1 = (o : Int) + (c.sz : Int) - 1 by omega]
            clear hoi hki hbi hci hfi hRl Hst2
            go_wp2_with (at_builtin; go_must (refine wpList_append_vals rfl (.tmp 55) (.tmp 56) rfl (w.heap.size + 1) (.slice oa o oc) o xo rfl Hoo2.out _ xi rfl Hsrc.out (by omega) (by omega) ?_))
            intro v5 w5 hown5 hgr5 hat5
            have hjn := rows_join (va := .slice aa (numsL 0 (t.args.take k)).length ac) Hko.out Hki.out Hbi.out rfl (by omega) (fun k' hk' => (own_lt Hoo.out k' hk').2) (fun k' hk' => (own_lt Hoa.out k' hk').2) (by rw [Hol.out, HRl.out]; exact hown5) hgr5 hat5
            have Hoa5 := hide (OwnI.grown Hoa2.out hgr5 (by
              cases hvb : (Value.slice aa (numsL 0 (t.args.take k)).length ac).ownBlock with
              | none => exact Or.inl rfl
              | some g' => exact Or.inr (fun e => Hdis.out g' e.symm hvb)))
            have hd5 : ∀ g', v5.ownBlock = some g' → (Value.slice aa (numsL 0 (t.args.take k)).length ac).ownBlock ≠ some g' := fun g' hg' => by
              rcases hat5 with h | h
              · exact Hdis.out g' (h.symm.trans hg')
              · intro e
                have h9 := (own_lt Hoa.out g' e).2
                have h8 : wr.heap.size = g' := by simpa using h.symm.trans hg'
                omega
            have Hb5 := hide (((Hb.out.trans (Hbi.out.mono (by omega)))).grown hgr5 (by omega) (fun k' hk' => (own_lt Hoo.out k' hk').1))
            obtain ⟨a5, c5, hv5⟩ := own_shape hown5
            have hz5 := hgr5.size
            have Hjn := hide hjn
            have Hd5 := hide hd5
            subst hv5
            have HO5 := hide (fun o1 => OwnI.below Hoa5.out (below1 w5 o1))
            clear hown5 hgr5 hat5 hjn hd5 Hsrc Hoo2
            go_wp2_with (at_builtin; go_must (refine wpList_append_ints rfl (.tmp 58) (.tmp 62) rfl (w.heap.size + 1) (.slice aa (numsL 0 (t.args.take k)).length ac) (numsL 0 (t.args.take k)) rfl (HO5.out _) (.slice (some ⟨w5.heap.size, 0, none⟩) 1 1) [(o : Int) + (c.sz : Int) - 1] rfl (src_one (cell_new 0 rfl)) (by rw [List.length_singleton]; omega) (by rw [World.size_alloc]; omega) ?_))
            intro v6 w6 hown6 hgr6 hat6
            obtain ⟨hr6, hd6⟩ := rows_beside (va' := v6) (RowsI_below Hjn.out (below1 w5 (.cells #[.int .i64 ((o : Int) + (c.sz : Int) - 1)] 3))) Hd5.out hgr6 (by rw [World.size_alloc]; exact hat6)
            have Hb6 := hide ((Hb5.out.alloc (by omega) _).grown hgr6 (by rw [World.size_alloc]; omega) (fun k' hk' => (own_lt Hoa5.out k' hk').1))
            have Hr6 := hide hr6
            have Hd6 := hide hd6
            have Hown6 := hide hown6
            clear hr6 hd6 hown6 hgr6 hat6
            go_wp2_with fail
            go_roundw
            case rel => exact ⟨k + 1, by omega, by go_num, by rw [Hst1.out]; exact Hr6.out, by rw [Hst2'.out]; exact Hown6.out, Hd6.out, Hb6.out⟩
            case measure => simp [intOf]; omega
      · have hk2 : k = t.args.length := by omega
        subst hk2
        rw [List.take_length] at hoo hko hoa hdis hol ⊢
        have Hoo := hide hoo
        have Hko := hide hko
        have Hoa := hide hoa
        have Hdis := hide hdis
        have Hb := hide hb
        have HO := hide (fun o1 => own_same Hoo.out (w' := wr.alloc o1) (fun g' hg' => (below1 wr o1).block g' (own_lt Hoo.out g' hg').2))
        have hsmall : (argsAt.aL t.args 0).length ≤ 120 := by omega
        clear hoo hko hoa hdis hb hol
        go_wp2_with (at_builtin; go_must (refine wpList_append_vals rfl (.tmp 64) (.tmp 66) rfl (w.heap.size + 1) (.slice oa (argsAt.aL t.args 0).length oc) (argsAt.aL t.args 0).length xo rfl (HO.out _) (.slice (some ⟨wr.heap.size, 0, none⟩) 1 1) [.slice aa (numsL 0 t.args).length ac] rfl (srcv_one rfl) (by rw [List.length_singleton]; omega) (by rw [World.size_alloc]; omega) ?_))
        intro v5 w5 hown5 hgr5 hat5
        have Hfin : Hid (RowsI w.heap.size (fun k => w.heap.size ≤ k ∧ v5.ownBlock ≠ some k) w5 v5 (argsAt t 0)) := by
          rw [argsAt_eq]
          have hva := Hoa.out
          have hne : ∀ k', (Value.slice oa (argsAt.aL t.args 0).length oc).ownBlock ≠ some k' → k' < wr.heap.size → v5.ownBlock ≠ some k' ∧ w5.heap[k']? = wr.heap[k']? := fun k' hk' hlt' => by
            refine ⟨?_, by rw [hgr5.block k' (by rw [World.size_alloc]; omega) (fun e => hk' e.symm)]; exact Below.heap_alloc _ _ _ hlt'⟩
            rcases hat5 with h | h
            · rw [h]; exact hk'
            · rw [h]; intro e; cases e; omega
          refine ⟨xo ++ [.slice aa (numsL 0 t.args).length ac], ?_, RK_append (RK_mono (fun k' hk' hlt' => ?_) Hko.out) ⟨aa, ac, [], rfl, ?_, rfl⟩⟩
          · rw [List.length_append, List.length_singleton]
            obtain ⟨h1, h2⟩ := hown5
            refine ⟨h1, ?_⟩
            rcases h2 with h2 | ⟨g', cap', cur, hv, hg', r'⟩
            · exact Or.inl h2
            · exact Or.inr ⟨g', cap', cur, hv, by omega, r'⟩
          · have h9 := hne k' hk'.2.1 hlt'
            exact ⟨⟨by omega, h9.1⟩, h9.2⟩
          · obtain ⟨a9, c9, he, hi⟩ := OwnI.ip hva
            simp only [Value.slice.injEq, true_and] at he
            obtain ⟨rfl, rfl⟩ := he
            refine IP_mono (fun k' hk' hlt' => ?_) hi
            have h9 := hne k' (fun e => Hdis.out k' e hk') hlt'
            have h8 := (own_lt hva k' hk').1
            exact ⟨⟨by omega, h9.1⟩, h9.2⟩
        have Hbf := hide (hbW.trans (((Hb.out.alloc (by omega) _).grown hgr5 (by rw [World.size_alloc]; omega) (fun k' hk' => (own_lt Hoo.out k' hk').1)).mono (by omega)))
        clear hown5 hgr5 hat5
        go_wp2_with fail
        go_ret
        exact ⟨_, rfl, Hfin.out, Hbf.out⟩

end Go.Proofs.Ythlcghimjfgedaa
