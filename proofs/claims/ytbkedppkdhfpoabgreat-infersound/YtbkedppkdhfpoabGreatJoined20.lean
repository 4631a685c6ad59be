/- Inferences: what is put in. Inferences: is there what one names? -/
import Derived.BigQuiet
import Derived.Deep.RegionHeld3
import Derived.Test.YtbkedppkdhfpoabGreatJoined19
namespace Go.Proofs.YtbkedppkdhfpoabGreat
open Go.RowKit
theorem RowL_below {w w' : World} {v : Value} {c : List Lit} {xs : List Value} (hb : Below w.heap.size w w') (h : RowL w v c xs) : RowL w' v c xs :=
  ⟨SrcL_below hb h.src, KidsL_mono (fun k hk hlt => ⟨Nat.lt_of_lt_of_le hk hb.size, hb.block k hlt⟩) h.kid⟩
theorem Binds_set3 {p : Nat → Prop} {w : World} {bs : List (Int × T)} {a : Option Addr} {b off : Nat} {u0 u1 u2 : Value} (hp : ∀ k, p k → k ≠ b) (h : Binds p w bs a) : Binds p (set3 w b off u0 u1 u2) bs a :=
  Binds_mono (fun k o v hk hv => ⟨hk, by rw [World.cell?_of_block (w := w) (a := ⟨k, o, none⟩) (set3_block (hp k hk))]; exact hv⟩) h
theorem withF_len {c : List Lit} {k : Nat} {tu : Bool} {u : T} : (withF c k tu u).length = c.length := by
  rw [withF]; split
  · rw [List.length_set]
  · rfl
theorem withF_err {ar : List Int} {c : List Lit} {k : Nat} {tu : Bool} {u : T} (hc : ∀ x, x ∈ c → termErr ar x.2.1 = 0 ∧ termErr ar x.2.2 = 0) (hu : termErr ar u = 0) : ∀ x, x ∈ withF c k tu u → termErr ar x.2.1 = 0 ∧ termErr ar x.2.2 = 0 := by
  intro x hx
  rw [withF] at hx
  split at hx
  · rename_i y hy
    have hym := hc y (List.mem_of_getElem? hy)
    rcases List.mem_or_eq_of_mem_set hx with h | h
    · exact hc x h
    · rw [h]
      cases tu
      · exact ⟨hu, hym.2⟩
      · exact ⟨hym.1, hu⟩
  · exact hc x hx
theorem putI_sz {u : T} : ∀ {p : List Int} {t c : T}, atT t p = some c → (putT u t p).sz + c.sz = t.sz + u.sz := by
  intro p
  induction p with
  | nil =>
    intro t c h
    simp only [atT, Option.some.injEq] at h
    subst h
    show u.sz + t.sz = _
    omega
  | cons i p ih =>
    intro t c h
    rw [atT] at h
    by_cases hi : 0 ≤ i ∧ i < t.args.length
    · rw [if_pos hi] at h
      obtain ⟨d, hd, hc⟩ := Option.bind_eq_some_iff.1 h
      rw [putT_at hd]
      have hlt : i.toNat < t.args.length := by omega
      have h1 := ih hc
      have h2 : T.sz.szL (t.args.set i.toNat (putT u d p)) + d.sz = T.sz.szL t.args + (putT u d p).sz := by
        have e1 : t.args.set i.toNat (putT u d p) = t.args.take i.toNat ++ putT u d p :: t.args.drop (i.toNat + 1) := List.set_eq_take_append_cons_drop.trans (by rw [if_pos hlt])
        have e2 : t.args = t.args.take i.toNat ++ d :: t.args.drop (i.toNat + 1) := by
          have hd2 : t.args[i.toNat] = d := by
            rw [List.getElem?_eq_getElem hlt] at hd
            exact Option.some.inj hd
          rw [← hd2, List.getElem_cons_drop, List.take_append_drop]
        have e3 : T.sz.szL t.args = T.sz.szL (t.args.take i.toNat) + (d.sz + T.sz.szL (t.args.drop (i.toNat + 1))) := by
          rw [← T.szL_cons, ← T.szL_append, ← e2]
        rw [e1, T.szL_append, T.szL_cons, e3]; omega
      rw [T.sz_eq, T.sz_eq t]
      show 1 + T.sz.szL (t.args.set i.toNat (putT u d p)) + c.sz = _
      omega
    · rw [if_neg hi] at h; cases h
theorem okP_putI {ar : List Int} {u : T} (hu : okP ar u) : ∀ {p : List Int} {t c : T}, atT t p = some c → okP ar t → okP ar (putT u t p) := by
  intro p
  induction p with
  | nil => intro t c _ _; exact hu
  | cons i p ih =>
    intro t c h hok
    rw [atT] at h
    by_cases hi : 0 ≤ i ∧ i < t.args.length
    · rw [if_pos hi] at h
      obtain ⟨d, hd, hc⟩ := Option.bind_eq_some_iff.1 h
      obtain ⟨hp, hl⟩ := okP_iff.1 hok
      rw [putT_at hd]
      refine okP_iff.2 ⟨?_, okL_mem.2 fun x hx => ?_⟩
      · show partErr ar t.v t.f (t.args.set i.toNat (putT u d p)).length = 0
        rw [List.length_set]; exact hp
      · rcases List.mem_or_eq_of_mem_set hx with hx | rfl
        · exact okL_mem.1 hl x hx
        · exact ih hc (okL_mem.1 hl d (List.mem_of_getElem? hd))
    · rw [if_neg hi] at h; cases h
theorem put_err {ar : List Int} {t u c : T} {p : List Int} (hc : atT t p = some c) (h : (putSpec ar t p u).2 = 0) : termErr ar (putSpec ar t p u).1 = 0 := by
  rw [putSpec] at h ⊢
  by_cases h1 : allErr ar [t, u] = 0
  · rw [if_pos h1, hc] at h ⊢
    simp only at h ⊢
    split at h
    · cases h
    · rename_i h2
      rw [if_neg h2]
      have h3 := putI_sz (u := u) hc
      obtain ⟨ht, hu⟩ : okP ar t ∧ okP ar u := by
        rw [allErr] at h1
        split at h1
        · rw [termsErr, termsErr, termsErr] at h1
          split at h1
          · rename_i e1
            split at h1
            · rename_i e2; exact ⟨(termErr_iff.1 e1).2, (termErr_iff.1 e2).2⟩
            · rename_i e2; exact absurd h1 e2
          · rename_i e1; exact absurd h1 e1
        · rename_i e1; exact absurd h1 e1
      exact termErr_iff.2 ⟨by simp only; omega, okP_putI hu hc ht⟩
  · rw [if_neg h1] at h; exact absurd h h1
attribute [local go_sem ↓] Go.wp_at_zero Go.wp_at_succ
set_option maxRecDepth 100000 in
set_option maxHeartbeats 1000000 in
theorem inferPut_any (ar : List Int) (ga : Option Addr) (gcap : Nat) (c : List Lit) (ca : Option Addr) (cc : Nat) (d : List Lit) (da : Option Addr) (dc : Nat) (i : Inf) (pa : Option Addr) (pc : Nat) (k m : Nat) (x y : Lit) (p : T) (w : World) (hs : sigErr ar = 0) (hcl : c.length ≤ 400) (hdl : d.length ≤ 400) (htc : ∀ x, x ∈ c → termErr ar x.2.1 = 0 ∧ termErr ar x.2.2 = 0) (htd : ∀ x, x ∈ d → termErr ar x.2.1 = 0 ∧ termErr ar x.2.2 = 0) (hik : i.la = (k : Int)) (him : i.ra = (m : Int)) (hx : c[k]? = some x) (hy : d[m]? = some y)
    (hat : atT (side1 y i.rt) i.place = some p) (hpl : i.place.length ≤ 100000) (hg : Ints w ar ga) (hp : Ints w i.place pa) (hc : LitsP w c ca) (hd : LitsP w d da) :
    Calls Tryz.prog 140 #[.agg #[.slice ga ar.length gcap], .slice ca c.length cc, .slice da d.length dc, infV i pa pc] w fun e w' => GivesC (infPut ar c d k m i.rt i.place p (side1 x i.lt) (side2 x i.lt) (side1 y i.rt) (side2 y i.rt)) w.heap.size e w' ∧ Below w.heap.size w w' := by
  have hlt := (List.getElem?_eq_some_iff.1 hx).1
  have hltm := (List.getElem?_eq_some_iff.1 hy).1
  obtain ⟨b, off, rfl⟩ := LitsP_some hc (by omega)
  obtain ⟨b2, off2, rfl⟩ := LitsP_some hd (by omega)
  obtain ⟨W1, hW1⟩ : ∃ W1, W1 = (w.alloc (.cells #[.slice ga ar.length gcap] 24)).alloc (.cells #[.int .i64 i.kind, .int .i64 i.left, .int .i64 i.right, .int .i64 i.la, .int .i64 i.ra, .bool i.lt, .bool i.rt, .slice pa i.place.length pc] 47) := ⟨_, rfl⟩
  have hbW : Below w.heap.size w W1 := by rw [hW1]; exact below2 _ _ _
  have hcg : W1.cell? ⟨w.heap.size, 0, none⟩ = some (.slice ga ar.length gcap) := by rw [hW1, cell_alloc_lt (by simp)]; exact cell_new 0 rfl
  have h8 : I8 W1 (w.heap.size + 1) i pa pc := by rw [hW1]; exact I8.new _ (by simp)
  obtain ⟨a1, c1, a2, c2, k0, k1, k2, k3, k4, k5, k6, i1, i2⟩ := LitsP_at (LitsP_below hbW hc) hx
  obtain ⟨a3, c3, a4, c4, j0, j1, j2, j3, j4, j5, j6, i3, i4⟩ := LitsP_at (LitsP_below hbW hd) hy
  have h83 : W1.cell? ⟨w.heap.size + 1, 3, none⟩ = some (.int .i64 (k : Int)) := by rw [← hik]; exact h8.e3
  have h84 : W1.cell? ⟨w.heap.size + 1, 4, none⟩ = some (.int .i64 (m : Int)) := by rw [← him]; exact h8.e4
  have h85 := h8.e5
  have h86 := h8.e6
  have hSk := hide (fun (w' : World) (hb : Below W1.heap.size W1 w') => (show w'.cell? ⟨w.heap.size + 1, 3, none⟩ = some (.int .i64 (k : Int)) ∧ w'.cell? ⟨w.heap.size + 1, 5, none⟩ = some (.bool i.lt) ∧ w'.cell? ⟨b, off + k * 7, none⟩ = some (.bool x.1) ∧ w'.cell? ⟨b, off + k * 7 + 1, none⟩ = some (.int .i64 x.2.1.v) ∧ w'.cell? ⟨b, off + k * 7 + 2, none⟩ = some (.int .i64 x.2.1.f) ∧ w'.cell? ⟨b, off + k * 7 + 3, none⟩ = some (.slice a1 x.2.1.args.length c1) ∧ w'.cell? ⟨b, off + k * 7 + 4, none⟩ = some (.int .i64 x.2.2.v) ∧ w'.cell? ⟨b, off + k * 7 + 5, none⟩ = some (.int .i64 x.2.2.f) ∧ w'.cell? ⟨b, off + k * 7 + 6, none⟩ = some (.slice a2 x.2.2.args.length c2) from
    ⟨cellB hb h83, cellB hb h85, cellB hb k0, cellB hb k1, cellB hb k2, cellB hb k3, cellB hb k4, cellB hb k5, cellB hb k6⟩))
  have hSm := hide (fun (w' : World) (hb : Below W1.heap.size W1 w') => (show w'.cell? ⟨w.heap.size + 1, 4, none⟩ = some (.int .i64 (m : Int)) ∧ w'.cell? ⟨w.heap.size + 1, 6, none⟩ = some (.bool i.rt) ∧ w'.cell? ⟨b2, off2 + m * 7, none⟩ = some (.bool y.1) ∧ w'.cell? ⟨b2, off2 + m * 7 + 1, none⟩ = some (.int .i64 y.2.1.v) ∧ w'.cell? ⟨b2, off2 + m * 7 + 2, none⟩ = some (.int .i64 y.2.1.f) ∧ w'.cell? ⟨b2, off2 + m * 7 + 3, none⟩ = some (.slice a3 y.2.1.args.length c3) ∧ w'.cell? ⟨b2, off2 + m * 7 + 4, none⟩ = some (.int .i64 y.2.2.v) ∧ w'.cell? ⟨b2, off2 + m * 7 + 5, none⟩ = some (.int .i64 y.2.2.f) ∧ w'.cell? ⟨b2, off2 + m * 7 + 6, none⟩ = some (.slice a4 y.2.2.args.length c4) from
    ⟨cellB hb h84, cellB hb h86, cellB hb j0, cellB hb j1, cellB hb j2, cellB hb j3, cellB hb j4, cellB hb j5, cellB hb j6⟩))
  have hkI : (k : Int) < c.length := by omega
  have hk0 : (0 : Int) ≤ k := by omega
  have hmI : (m : Int) < d.length := by omega
  have hm0 : (0 : Int) ≤ m := by omega
  have HSx := hide (fun (w' : World) => sides_any x a1 c1 a2 c2 i.lt w')
  have HSy := hide (fun (w' : World) => sides_any y a3 c3 a4 c4 i.rt w')
  have HW1 := hide hW1
  have HbW := hide hbW
  have Hcg := hide hcg
  have H83 := hide h83
  have HI8 := hide h8
  have Hik := hide hik
  have HWF := hide (fun (u' : T) (ua' : Option Addr) (uc' : Nat) (w' : World) (hb : Below w.heap.size w w') (hu : InL w' u'.args ua') => withFirst_any d (some ⟨b2, off2, none⟩) dc m i pa pc u' ua' uc' w' hltm him (by omega) (LitsP_below hb hd) hu)
  obtain ⟨s, hs1⟩ : ∃ s, s = side1 x i.lt := ⟨_, rfl⟩
  obtain ⟨t, ht1⟩ : ∃ t, t = side2 x i.lt := ⟨_, rfl⟩
  obtain ⟨u, hu1⟩ : ∃ u, u = side1 y i.rt := ⟨_, rfl⟩
  obtain ⟨v, hv1⟩ : ∃ v, v = side2 y i.rt := ⟨_, rfl⟩
  obtain ⟨sa, hsa⟩ : ∃ sa, sa = if i.lt then a2 else a1 := ⟨_, rfl⟩
  obtain ⟨sc, hsc⟩ : ∃ sc, sc = if i.lt then c2 else c1 := ⟨_, rfl⟩
  obtain ⟨ta, hta⟩ : ∃ ta, ta = if i.lt then a1 else a2 := ⟨_, rfl⟩
  obtain ⟨tc, htc1⟩ : ∃ tc, tc = if i.lt then c1 else c2 := ⟨_, rfl⟩
  obtain ⟨ua, hua⟩ : ∃ ua, ua = if i.rt then a4 else a3 := ⟨_, rfl⟩
  obtain ⟨uc, huc⟩ : ∃ uc, uc = if i.rt then c4 else c3 := ⟨_, rfl⟩
  obtain ⟨va, hva⟩ : ∃ va, va = if i.rt then a3 else a4 := ⟨_, rfl⟩
  obtain ⟨vc, hvc⟩ : ∃ vc, vc = if i.rt then c3 else c4 := ⟨_, rfl⟩
  rw [← hs1, ← ht1, ← hsa, ← hsc, ← hta, ← htc1] at HSx
  rw [← hu1, ← hv1, ← hua, ← huc, ← hva, ← hvc] at HSy
  rw [← hs1, ← ht1, ← hu1, ← hv1]
  rw [← hu1] at hat
  have js : InL W1 s.args sa ∧ InL W1 t.args ta := by rw [hs1, hsa, ht1, hta]; exact side_in _ i1 i2
  have ju : InL W1 u.args ua ∧ InL W1 v.args va := by rw [hu1, hua, hv1, hva]; exact side_in _ i3 i4
  have ts : termErr ar s = 0 ∧ termErr ar t = 0 := by rw [hs1, ht1]; exact side1_mem _ (htc x (List.mem_of_getElem? hx))
  have tu : termErr ar u = 0 ∧ termErr ar v = 0 := by rw [hu1, hv1]; exact side1_mem _ (htd y (List.mem_of_getElem? hy))
  have Hjs := hide js
  have Hju := hide ju
  have Hts := hide ts
  have Htu := hide tu
  have Hat := hide hat
  have Htc := hide htc
  have Htd := hide htd
  clear hs1 ht1 hu1 hv1 hsa hsc hta htc1 hua huc hva hvc js ju ts tu hat htc htd
  clear hW1 hcg h8 h83 h84 h85 h86 k0 k1 k2 k3 k4 k5 k6 j0 j1 j2 j3 j4 j5 j6 hik him
  go_enter Tryz.func140, Tryz.ntmps140
  go_upto_region 1 with fail
  rw [← HW1.out]
  have hL := hSk.out
  have b0 := fun (w' : World) (hb : Below W1.heap.size W1 w') => (hL w' hb).1
  have b1 := fun (w' : World) (hb : Below W1.heap.size W1 w') => (hL w' hb).2.1
  have b2 := fun (w' : World) (hb : Below W1.heap.size W1 w') => (hL w' hb).2.2.1
  have b3 := fun (w' : World) (hb : Below W1.heap.size W1 w') => (hL w' hb).2.2.2.1
  have b4 := fun (w' : World) (hb : Below W1.heap.size W1 w') => (hL w' hb).2.2.2.2.1
  have b5 := fun (w' : World) (hb : Below W1.heap.size W1 w') => (hL w' hb).2.2.2.2.2.1
  have b6 := fun (w' : World) (hb : Below W1.heap.size W1 w') => (hL w' hb).2.2.2.2.2.2.1
  have b7 := fun (w' : World) (hb : Below W1.heap.size W1 w') => (hL w' hb).2.2.2.2.2.2.2.1
  have b8 := fun (w' : World) (hb : Below W1.heap.size W1 w') => (hL w' hb).2.2.2.2.2.2.2.2
  have hbr := Below.refl W1.heap.size W1
  clear hL
  go_cut [10, 11] (fun p q wc => ∃ Bp Bq, p = .pointer (some ⟨Bp, 0, none⟩) ∧ q = .pointer (some ⟨Bq, 0, none⟩) ∧ Hid (TwoV W1 wc Bp Bq (.int .i64 s.v) (.int .i64 s.f) (.slice sa s.args.length sc) (.int .i64 t.v) (.int .i64 t.f) (.slice ta t.args.length tc)))
  case first =>
    go_region_held3 (fun w' => Below W1.heap.size W1 w') ((first | with_reducible exact HK2.out _ _ | with_reducible exact HK1.out _ | ((repeat' (first | with_reducible exact HbA.out | with_reducible exact HK1.out _ | with_reducible exact HK2.out _ _ | with_reducible exact Below.refl _ _ | (with_reducible refine Below.drew ?_) | (with_reducible refine Below.setCell ?_ ?_ _; rotate_left; focus (first | exact Nat.le_refl _ | exact hzA | exact hn3 | (show W1.heap.size ≤ _; omega) | (simp; omega))) | (refine Below.alloc ?_ ?_ _; rotate_left; focus (first | omega | (simp; omega) | (simp; done))))); done) | go_keep)) ((first
        | (go_at_call 134
           with_reducible refine (HSx.out _).mono ?_
           rintro e wA ⟨rfl, hbA⟩
           have HbA : Hid (Below W1.heap.size W1 wA) := by
             refine Below.trans (b := _) ?_ (hbA.mono ?_)
             · repeat' (first | with_reducible exact Below.refl _ _ | (with_reducible refine Below.drew ?_) | (refine Below.alloc ?_ ?_ _; rotate_left; focus (first | omega | (simp; omega) | (simp; done))))
             · first | omega | (simp; omega) | (simp; done)
           have HK1 := hide (fun o => HbA.out.trans ((below1 wA o).mono HbA.out.size))
           have HK2 := hide (fun o1 o2 => HbA.out.trans ((below2 wA o1 o2).mono HbA.out.size))
           have hzA := HbA.out.size
           first
             | (have h3a := three_at hbA (heap_alloc_old W1 _ _)
                have h3b := three_at hbA (heap_alloc_two W1 _ _)
                have hz9 : W1.heap.size + 1 < wA.heap.size := by
                  have h9 := hbA.size
                  simp at h9
                  omega
                have hn1 : W1.heap.size ≠ W1.heap.size + 1 := by omega
                have hn2 : W1.heap.size + 1 ≠ W1.heap.size := by omega
                have hn3 : W1.heap.size ≤ W1.heap.size + 1 := by omega
                generalize hH2 : W1.heap.size + 1 = H2 at h3b hz9 hn1 hn2 hn3 ⊢
                have H3a := hide h3a
                have H3b := hide h3b
                obtain ⟨_, _, _, _, _, _⟩ := h3a
                obtain ⟨_, _, _, _, _, _⟩ := h3b
                clear hH2)
             | (have h3a := three_at hbA (heap_alloc_self W1 _)
                have h3b := fun o => h3a.alloc o
                have r0 := fun o => (h3b o).c0
                have r1 := fun o => (h3b o).c1
                have r2 := fun o => (h3b o).c2
                have r3 := fun o => (h3b o).f0
                have r4 := fun o => (h3b o).f1
                have r5 := fun o => (h3b o).f2
                have hz9 : W1.heap.size < wA.heap.size := by
                  have h9 := hbA.size
                  simp at h9
                  omega
                have hn1 : W1.heap.size ≠ wA.heap.size := by omega
                have hn2 : wA.heap.size ≠ W1.heap.size := by omega
                have H3a := hide h3a
                obtain ⟨_, _, _, _, _, _⟩ := h3a
                clear h3b)
             | skip
           clear b0 b1 b2 b3 b4 b5 b6 b7 b8 hbr hbA)))
    all_goals (go_wp2_with fail; go_meet)
    all_goals first
      | with_reducible exact ⟨_, _, rfl, rfl, hide (twoV_new HbA.out _ _ _ _ _ _ _ _)⟩
      | with_reducible exact ⟨_, _, rfl, rfl, hide (TwoV.swap (twoV_new HbA.out _ _ _ _ _ _ _ _))⟩
      | with_reducible exact ⟨_, _, rfl, rfl, hide (twoV_one HbA.out (Nat.le_refl _) H3a.out _ _ _ _ _ _ _)⟩
      | with_reducible exact ⟨_, _, rfl, rfl, hide (TwoV.swap (twoV_one HbA.out (Nat.le_refl _) H3a.out _ _ _ _ _ _ _))⟩
      | with_reducible exact ⟨_, _, rfl, rfl, hide (twoV_two HbA.out (Nat.le_refl _) hn3 hn1 H3a.out H3b.out _ _ _ _ _ _)⟩
      | with_reducible exact ⟨_, _, rfl, rfl, hide (twoV_two HbA.out hn3 (Nat.le_refl _) hn2 H3b.out H3a.out _ _ _ _ _ _)⟩
  case rest =>
    obtain ⟨B10, B11, rfl, rfl, HX1⟩ := hcut
    clear b0 b1 b2 b3 b4 b5 b6 b7 b8 hbr
    obtain ⟨V1, hV1⟩ : ∃ V1, V1 = wc := ⟨_, rfl⟩
    rw [← hV1] at HX1 ⊢
    clear hV1
    have HBV := hide HX1.out.below
    go_upto_region 2 with fail
    have hL := hSm.out
    have b0 := fun (w' : World) (hb : Below V1.heap.size V1 w') => (hL w' (HBV.out.trans (Below.mono hb HBV.out.size))).1
    have b1 := fun (w' : World) (hb : Below V1.heap.size V1 w') => (hL w' (HBV.out.trans (Below.mono hb HBV.out.size))).2.1
    have b2 := fun (w' : World) (hb : Below V1.heap.size V1 w') => (hL w' (HBV.out.trans (Below.mono hb HBV.out.size))).2.2.1
    have b3 := fun (w' : World) (hb : Below V1.heap.size V1 w') => (hL w' (HBV.out.trans (Below.mono hb HBV.out.size))).2.2.2.1
    have b4 := fun (w' : World) (hb : Below V1.heap.size V1 w') => (hL w' (HBV.out.trans (Below.mono hb HBV.out.size))).2.2.2.2.1
    have b5 := fun (w' : World) (hb : Below V1.heap.size V1 w') => (hL w' (HBV.out.trans (Below.mono hb HBV.out.size))).2.2.2.2.2.1
    have b6 := fun (w' : World) (hb : Below V1.heap.size V1 w') => (hL w' (HBV.out.trans (Below.mono hb HBV.out.size))).2.2.2.2.2.2.1
    have b7 := fun (w' : World) (hb : Below V1.heap.size V1 w') => (hL w' (HBV.out.trans (Below.mono hb HBV.out.size))).2.2.2.2.2.2.2.1
    have b8 := fun (w' : World) (hb : Below V1.heap.size V1 w') => (hL w' (HBV.out.trans (Below.mono hb HBV.out.size))).2.2.2.2.2.2.2.2
    have hbr := Below.refl V1.heap.size V1
    clear hL
    go_cut [12, 13] (fun p q wc => ∃ Bp Bq, p = .pointer (some ⟨Bp, 0, none⟩) ∧ q = .pointer (some ⟨Bq, 0, none⟩) ∧ Hid (TwoV V1 wc Bp Bq (.int .i64 u.v) (.int .i64 u.f) (.slice ua u.args.length uc) (.int .i64 v.v) (.int .i64 v.f) (.slice va v.args.length vc)))
    case first =>
      go_region_held3 (fun w' => Below V1.heap.size V1 w') ((first | with_reducible exact HK2.out _ _ | with_reducible exact HK1.out _ | ((repeat' (first | with_reducible exact HbA.out | with_reducible exact HK1.out _ | with_reducible exact HK2.out _ _ | with_reducible exact Below.refl _ _ | (with_reducible refine Below.drew ?_) | (with_reducible refine Below.setCell ?_ ?_ _; rotate_left; focus (first | exact Nat.le_refl _ | exact hzA | exact hn3 | (show V1.heap.size ≤ _; omega) | (simp; omega))) | (refine Below.alloc ?_ ?_ _; rotate_left; focus (first | omega | (simp; omega) | (simp; done))))); done) | go_keep)) ((first
          | (go_at_call 134
             with_reducible refine (HSy.out _).mono ?_
             rintro e wA ⟨rfl, hbA⟩
             have HbA : Hid (Below V1.heap.size V1 wA) := by
               refine Below.trans (b := _) ?_ (hbA.mono ?_)
               · repeat' (first | with_reducible exact Below.refl _ _ | (with_reducible refine Below.drew ?_) | (refine Below.alloc ?_ ?_ _; rotate_left; focus (first | omega | (simp; omega) | (simp; done))))
               · first | omega | (simp; omega) | (simp; done)
             have HK1 := hide (fun o => HbA.out.trans ((below1 wA o).mono HbA.out.size))
             have HK2 := hide (fun o1 o2 => HbA.out.trans ((below2 wA o1 o2).mono HbA.out.size))
             have hzA := HbA.out.size
             first
               | (have h3a := three_at hbA (heap_alloc_old V1 _ _)
                  have h3b := three_at hbA (heap_alloc_two V1 _ _)
                  have hz9 : V1.heap.size + 1 < wA.heap.size := by
                    have h9 := hbA.size
                    simp at h9
                    omega
                  have hn1 : V1.heap.size ≠ V1.heap.size + 1 := by omega
                  have hn2 : V1.heap.size + 1 ≠ V1.heap.size := by omega
                  have hn3 : V1.heap.size ≤ V1.heap.size + 1 := by omega
                  generalize hH2 : V1.heap.size + 1 = H2 at h3b hz9 hn1 hn2 hn3 ⊢
                  have H3a := hide h3a
                  have H3b := hide h3b
                  obtain ⟨_, _, _, _, _, _⟩ := h3a
                  obtain ⟨_, _, _, _, _, _⟩ := h3b
                  clear hH2)
               | (have h3a := three_at hbA (heap_alloc_self V1 _)
                  have h3b := fun o => h3a.alloc o
                  have r0 := fun o => (h3b o).c0
                  have r1 := fun o => (h3b o).c1
                  have r2 := fun o => (h3b o).c2
                  have r3 := fun o => (h3b o).f0
                  have r4 := fun o => (h3b o).f1
                  have r5 := fun o => (h3b o).f2
                  have hz9 : V1.heap.size < wA.heap.size := by
                    have h9 := hbA.size
                    simp at h9
                    omega
                  have hn1 : V1.heap.size ≠ wA.heap.size := by omega
                  have hn2 : wA.heap.size ≠ V1.heap.size := by omega
                  have H3a := hide h3a
                  obtain ⟨_, _, _, _, _, _⟩ := h3a
                  clear h3b)
               | skip
             clear b0 b1 b2 b3 b4 b5 b6 b7 b8 hbr hbA)))
      all_goals (go_wp2_with fail; go_meet)
      all_goals first
        | with_reducible exact ⟨_, _, rfl, rfl, hide (twoV_new HbA.out _ _ _ _ _ _ _ _)⟩
        | with_reducible exact ⟨_, _, rfl, rfl, hide (TwoV.swap (twoV_new HbA.out _ _ _ _ _ _ _ _))⟩
        | with_reducible exact ⟨_, _, rfl, rfl, hide (twoV_one HbA.out (Nat.le_refl _) H3a.out _ _ _ _ _ _ _)⟩
        | with_reducible exact ⟨_, _, rfl, rfl, hide (TwoV.swap (twoV_one HbA.out (Nat.le_refl _) H3a.out _ _ _ _ _ _ _))⟩
        | with_reducible exact ⟨_, _, rfl, rfl, hide (twoV_two HbA.out (Nat.le_refl _) hn3 hn1 H3a.out H3b.out _ _ _ _ _ _)⟩
        | with_reducible exact ⟨_, _, rfl, rfl, hide (twoV_two HbA.out hn3 (Nat.le_refl _) hn2 H3b.out H3a.out _ _ _ _ _ _)⟩
    case rest =>
      obtain ⟨B12, B13, rfl, rfl, HX2⟩ := hcut
      clear b0 b1 b2 b3 b4 b5 b6 b7 b8 hbr
      obtain ⟨V2, hV2⟩ : ∃ V2, V2 = wc := ⟨_, rfl⟩
      rw [← hV2] at HX2 ⊢
      clear hV2
      have HB2 := hide HX2.out.below
      have HW2 := hide (HBV.out.trans (HB2.out.mono HBV.out.size))
      have HwV := hide (HbW.out.trans (HW2.out.mono HbW.out.size))
      have HC := hide (fun (w' : World) (hb : Below V2.heap.size V2 w') => (show w'.cell? ⟨w.heap.size, 0, none⟩ = some (.slice ga ar.length gcap) ∧ w'.cell? ⟨w.heap.size + 1, 7, none⟩ = some (.slice pa i.place.length pc) ∧ Three w' B10 (.int .i64 s.v) (.int .i64 s.f) (.slice sa s.args.length sc) ∧ Three w' B11 (.int .i64 t.v) (.int .i64 t.f) (.slice ta t.args.length tc) ∧ Three w' B12 (.int .i64 u.v) (.int .i64 u.f) (.slice ua u.args.length uc) ∧ Three w' B13 (.int .i64 v.v) (.int .i64 v.f) (.slice va v.args.length vc) from
        ⟨cell_below hb (cell_below HW2.out Hcg.out), cell_below hb (cell_below HW2.out HI8.out.e7), (HX1.out.one.below HB2.out).below hb, (HX1.out.two.below HB2.out).below hb, HX2.out.one.below hb, HX2.out.two.below hb⟩))
      have HPt := hide (fun (w' : World) (hb : Below V2.heap.size V2 w') => part_any u p ua uc i.place pa pc w' Hat.out hpl (InP_below hb (InP_below HW2.out Hju.out.1)) (Ints_below (HwV.out.trans (hb.mono HwV.out.size)) hp))
      have HU := hide (fun (a1 : Option Addr) (c1 : Nat) (w' : World) (hb : Below V2.heap.size V2 w') (hi : InL w' p.args a1) => unifyE_any ar ga gcap p a1 c1 s sa sc w' (Ints_below (HwV.out.trans (hb.mono HwV.out.size)) hg) hi (InP_below hb (InP_below HW2.out Hjs.out.1)))
      have HU5 := hide (fun (h0 : (uniE ar p s).2 = 0) => uniE_ok hs h0)
      obtain ⟨U, hU⟩ : ∃ U, U = uniE ar p s := ⟨_, rfl⟩
      rw [← hU] at HU HU5
      have HF := hide (fun (h0 : U.2 = 0) (ba : Option Addr) (bc : Nat) (w' : World) (hb : Below V2.heap.size V2 w') (hbs : Binds (fun _ => True) w' U.1 ba) => falls_any ar ga gcap U.1 ba bc s sa sc t ta tc w' (HU5.out h0).2 (HU5.out h0).1 Hts.out.1 Hts.out.2 (Ints_below (HwV.out.trans (hb.mono HwV.out.size)) hg) hbs (InP_below hb (InP_below HW2.out Hjs.out.1)) (InP_below hb (InP_below HW2.out Hjs.out.2)))
      have HF' := hide (fun (h0 : U.2 = 0) (ba : Option Addr) (bc : Nat) (w' : World) (hb : Below V2.heap.size V2 w') (hbs : Binds (fun _ => True) w' U.1 ba) => falls_any ar ga gcap U.1 ba bc u ua uc v va vc w' (HU5.out h0).2 (HU5.out h0).1 Htu.out.1 Htu.out.2 (Ints_below (HwV.out.trans (hb.mono HwV.out.size)) hg) hbs (InP_below hb (InP_below HW2.out Hju.out.1)) (InP_below hb (InP_below HW2.out Hju.out.2)))
      obtain ⟨F, hF⟩ : ∃ F, F = fallS ar U.1 s t := ⟨_, rfl⟩
      obtain ⟨F', hF'⟩ : ∃ F', F' = fallS ar U.1 u v := ⟨_, rfl⟩
      rw [← hF] at HF
      rw [← hF'] at HF'
      have HQ := hide (fun (w' : World) (hb : Below V2.heap.size V2 w') => Put_new ar ga gcap u ua uc i.place pa pc t ta tc w' (Ints_below (HwV.out.trans (hb.mono HwV.out.size)) hg) (InP_below hb (InP_below HW2.out Hju.out.1)) (Ints_below (HwV.out.trans (hb.mono HwV.out.size)) hp) (InP_below hb (InP_below HW2.out Hjs.out.2)) (by omega))
      have HPe := hide (fun (h0 : (putSpec ar u i.place t).2 = 0) => put_err Hat.out h0)
      obtain ⟨P, hP⟩ : ∃ P, P = putSpec ar u i.place t := ⟨_, rfl⟩
      rw [← hP] at HQ HPe
      have HO := hide (fun (w' : World) (hb : Below w.heap.size w w') => without_any c (some ⟨b, off, none⟩) cc k w' hlt (by omega) (LitsP_below hb hc))
      rw [← Hik.out] at HO
      have hel : (c.eraseIdx k).length ≤ 400 := by rw [List.length_eraseIdx]; split <;> omega
      have hwl : (withF d m i.rt P.1).length = d.length := withF_len
      obtain ⟨E, hE⟩ : ∃ E, E = c.eraseIdx k := ⟨_, rfl⟩
      obtain ⟨G, hG⟩ : ∃ G, G = withF d m i.rt P.1 := ⟨_, rfl⟩
      rw [← hE] at HO hel
      rw [← hG] at hwl
      have HD := hide (fun (h0 : P.2 = 0) => (show ∀ z, z ∈ E ++ G → termErr ar z.2.1 = 0 ∧ termErr ar z.2.2 = 0 from fun z hz => by
        rcases List.mem_append.1 hz with h | h
        · rw [hE] at h; exact Htc.out z (List.mem_of_mem_eraseIdx h)
        · rw [hG] at h; exact withF_err Htd.out (HPe.out h0) z h))
      have HP := hide (fun (h0 : U.2 = 0) (h1 : P.2 = 0) (ba : Option Addr) (bc : Nat) (da : Option Addr) (dc : Nat) (w' : World) (hb : Below w.heap.size w w') (hbs : Binds (fun _ => True) w' U.1 ba) (hd : LitsP w' (E ++ G) da) => applied_any ar ga gcap U.1 ba bc (E ++ G) da dc w' (HU5.out h0).2 (by rw [List.length_append]; omega) (HU5.out h0).1 (HD.out h1) (Ints_below hb hg) hbs hd)
      rw [List.length_append] at HP
      have HWG := hide (fun (ua' : Option Addr) (uc' : Nat) (w' : World) (hb : Below w.heap.size w w') (hu : InL w' P.1.args ua') => HWF.out P.1 ua' uc' w' hb hu)
      rw [← hG] at HWG
      have Hsp : Hid (infPut ar c d k m i.rt i.place p s t u v = if U.2 = 0 then (if F = 0 then (if F' = 0 then (if P.2 = 0 then appliedS ar U.1 (E ++ G) else ([], P.2)) else ([], F')) else ([], F)) else ([], U.2)) := by show _ = _; rw [infPut, hF, hF', hE, hG, hP, hU]
      have Hel := hide hel
      have Hwl := hide hwl
      have HV1 := hide (And.intro HX2.out.lp (And.intro HBV.out.size HX2.out.one.lt))
      have HWV := hide (HbW.out.trans (HBV.out.mono HbW.out.size))
      clear hE hG hF hF' hP hU hg hc hd hp hs hx hy i1 i2 i3 i4 hSk hSm HSx HSy HX1 HX2 HW2 Hjs Hju Hts Htu H83 HW1 hel hwl hbW HU5 HD HPe HWF Hat Htc Htd
      go_upto_region 3 with fail
      have hL := HC.out
      have b0 := fun (w' : World) (hb : Below V2.heap.size V2 w') => (hL w' hb).1
      have b1 := fun (w' : World) (hb : Below V2.heap.size V2 w') => (hL w' hb).2.1
      have b2 := fun (w' : World) (hb : Below V2.heap.size V2 w') => (hL w' hb).2.2.1.c0
      have b3 := fun (w' : World) (hb : Below V2.heap.size V2 w') => (hL w' hb).2.2.1.c1
      have b4 := fun (w' : World) (hb : Below V2.heap.size V2 w') => (hL w' hb).2.2.1.c2
      have b5 := fun (w' : World) (hb : Below V2.heap.size V2 w') => (hL w' hb).2.2.2.2.1.c0
      have b6 := fun (w' : World) (hb : Below V2.heap.size V2 w') => (hL w' hb).2.2.2.2.1.c1
      have b7 := fun (w' : World) (hb : Below V2.heap.size V2 w') => (hL w' hb).2.2.2.2.1.c2
      have hbr := Below.refl V2.heap.size V2
      clear hL
      go_cut [14, 15] (fun p q wc => ∃ la lc, p = .slice la U.1.length lc ∧ q = .int .i64 U.2 ∧ Hid (Binds (fun k => V2.heap.size ≤ k) wc U.1 la) ∧ Hid (Below V2.heap.size V2 wc))
      case first =>
        go_region_held3 (fun w' => Below V2.heap.size V2 w') ((first | with_reducible exact HbB.out | with_reducible exact HbA.out | ((repeat' (first | with_reducible exact HbB.out | with_reducible exact HbA.out | with_reducible exact Below.refl _ _ | (with_reducible refine Below.drew ?_))); done) | go_keep)) ((first
          | (go_at_call 135
             with_reducible refine (HPt.out _ ?_).mono ?_
             focus ((repeat' (first | with_reducible exact Below.refl _ _ | (with_reducible refine Below.drew ?_))); done)
             rintro e wA ⟨a1, c1, rfl, hi1, hbA⟩
             have HbA : Hid (Below V2.heap.size V2 wA) := by first | exact hbA | exact below_undrew hbA
             have Hi1 := hide (fun (w' : World) (hb : Below wA.heap.size wA w') => InP_below hb hi1)
             clear hi1 hbA)
          | (go_at_call 177
             with_reducible refine (HU.out _ _ _ ?_ (Hi1.out _ ?_)).mono ?_
             focus ((repeat' (first | with_reducible exact HbA.out | (with_reducible refine Below.drew ?_))); done)
             focus ((repeat' (first | with_reducible exact Below.refl _ _ | (with_reducible refine Below.drew ?_))); done)
             rintro e wB ⟨la, lc, rfl, hbs, hbB⟩
             have HbB : Hid (Below V2.heap.size V2 wB) := by
               first
                 | exact HbA.out.trans (Below.mono hbB HbA.out.size)
                 | exact HbA.out.trans (Below.mono (below_undrew hbB) HbA.out.size)
             have Hbs : Hid (Binds (fun k => V2.heap.size ≤ k) wB U.1 la) := Binds_imp (fun k hk => Nat.le_trans HbA.out.size hk) hbs
             clear hbs hbB)))
        all_goals (go_wp2_with fail; go_meet)
        all_goals exact ⟨la, lc, rfl, rfl, Hbs, HbB⟩
      case rest =>
        obtain ⟨la, lc, rfl, rfl, Hbs, Hb1⟩ := hcut
        clear b0 b1 b2 b3 b4 b5 b6 b7 hbr
        obtain ⟨w1, hw1⟩ : ∃ w1, w1 = wc := ⟨_, rfl⟩
        rw [← hw1] at Hbs Hb1 ⊢
        clear hw1 HU HPt
        by_cases hU0 : U.2 = 0
        · have eu : (U.2 != 0) = false := by simpa using hU0
          have HU0 := hide hU0
          clear hU0
          have HF1 := hide (HF.out HU0.out la lc w1 Hb1.out (Binds_imp (fun _ _ => trivial) Hbs.out))
          obtain ⟨g0, _, ⟨p0, p1, p2, _, _, _⟩, ⟨q0, q1, q2, _, _, _⟩, _, _⟩ := HC.out w1 Hb1.out
          go_wp2_with fail
          refine HF1.out.mono ?_
          rintro e w2 ⟨rfl, hb2⟩
          have Hb2 := hide (Hb1.out.trans (hb2.mono Hb1.out.size))
          have Hbs2 := hide (Binds_below hb2 Hbs.out)
          clear hb2 HF1 HF g0 p0 p1 p2 q0 q1 q2 Hbs Hb1
          by_cases hF0 : F = 0
          · have ef : (F != 0) = false := by simpa using hF0
            have HF0 := hide hF0
            clear hF0
            have HF2 := hide (HF'.out HU0.out la lc w2 Hb2.out (Binds_imp (fun _ _ => trivial) Hbs2.out))
            obtain ⟨g0, _, _, _, ⟨p0, p1, p2, _, _, _⟩, ⟨q0, q1, q2, _, _, _⟩⟩ := HC.out w2 Hb2.out
            go_wp2_with fail
            refine HF2.out.mono ?_
            rintro e w3 ⟨rfl, hb3⟩
            have Hb3 := hide (Hb2.out.trans (hb3.mono Hb2.out.size))
            have Hbs3 := hide (Binds_below hb3 Hbs2.out)
            clear hb3 HF2 HF' g0 p0 p1 p2 q0 q1 q2 Hbs2 Hb2
            by_cases hF1 : F' = 0
            · have ef' : (F' != 0) = false := by simpa using hF1
              have HF1 := hide hF1
              clear hF1
              have HQ1 := hide (HQ.out w3 Hb3.out)
              obtain ⟨g0, g7, _, ⟨q0, q1, q2, _, _, _⟩, ⟨p0, p1, p2, _, _, _⟩, _⟩ := HC.out w3 Hb3.out
              go_wp2_with fail
              refine HQ1.out.mono ?_
              rintro e w4 ⟨⟨xa, xc, rfl, hix⟩, hb4⟩
              have Hb4 := hide (Hb3.out.trans (hb4.mono Hb3.out.size))
              have Hbs4 := hide (Binds_below hb4 Hbs3.out)
              have Hix : Hid (InP (fun k => V2.heap.size ≤ k) w4 P.1.args xa) := InP_imp (fun k hk => Nat.le_trans Hb3.out.size hk) hix
              clear hb4 hix HQ1 HQ g0 g7 p0 p1 p2 q0 q1 q2 Hbs3 Hb3
              have H12 := hide (HC.out w4 Hb4.out).2.2.2.2.1
              obtain ⟨wS, hwS⟩ : ∃ wS, wS = set3 w4 B12 0 (.int .i64 P.1.v) (.int .i64 P.1.f) (.slice xa P.1.args.length xc) := ⟨_, rfl⟩
              have HS0 : Hid (((w4.setCell ⟨B12, 0, none⟩ (.int .i64 P.1.v)).setCell ⟨B12, 1, none⟩ (.int .i64 P.1.f)).setCell ⟨B12, 2, none⟩ (.slice xa P.1.args.length xc) = wS) := by show _ = _; rw [hwS]
              have hlp := HV1.out.1
              have hlq := HV1.out.2.2
              have HbV : Hid (Below V1.heap.size V1 wS) := by
                rw [hwS]; exact below_set3 (HB2.out.trans (Hb4.out.mono HB2.out.size)) hlp _ _ _
              have H3S : Hid (Three wS B12 (.int .i64 P.1.v) (.int .i64 P.1.f) (.slice xa P.1.args.length xc)) := by rw [hwS]; exact H12.out.set _ _ _
              have HbsS : Hid (Binds (fun _ => True) wS U.1 la) := by rw [hwS]; exact Binds_imp (fun _ _ => trivial) (Binds_set3 (fun j hj => by omega) Hbs4.out)
              have HixS : Hid (InL wS P.1.args xa) := by rw [hwS]; exact InP_imp (fun _ _ => trivial) (InP_same (fun j hj _ => set3_block (b := B12) (off := 0) (show j ≠ _ by omega)) Hix.out)
              have HwwS := hide (HWV.out.trans (HbV.out.mono HWV.out.size))
              have HW1S := hide (HBV.out.trans (HbV.out.mono HBV.out.size))
              have HIS := hide (HI8.out.below HW1S.out)
              have HgS := hide (cell_below HW1S.out Hcg.out)
              obtain ⟨p0, p1, p2, f0, f1, f2⟩ := H12.out
              clear hwS Hbs4 Hix hlp hlq
              by_cases hP0 : P.2 = 0
              · have ep : (P.2 != 0) = false := by simpa using hP0
                have HP0 := hide hP0
                clear hP0
                go_upto_region 15 with fail
                rw [HS0.out]
                have HLS := hide (fun (w' : World) (hb : Below wS.heap.size wS w') => And.intro (cell_below hb HgS.out) (And.intro (HIS.out.below hb) (H3S.out.below hb)))
                have hL := HLS.out
                have b0 := fun (w' : World) (hb : Below wS.heap.size wS w') => (hL w' hb).1
                have b1 := fun (w' : World) (hb : Below wS.heap.size wS w') => (hL w' hb).2.1.e0
                have b2 := fun (w' : World) (hb : Below wS.heap.size wS w') => (hL w' hb).2.1.e1
                have b3 := fun (w' : World) (hb : Below wS.heap.size wS w') => (hL w' hb).2.1.e2
                have b4 := fun (w' : World) (hb : Below wS.heap.size wS w') => (hL w' hb).2.1.e3
                have b5 := fun (w' : World) (hb : Below wS.heap.size wS w') => (hL w' hb).2.1.e4
                have b6 := fun (w' : World) (hb : Below wS.heap.size wS w') => (hL w' hb).2.1.e5
                have b7 := fun (w' : World) (hb : Below wS.heap.size wS w') => (hL w' hb).2.1.e6
                have b8 := fun (w' : World) (hb : Below wS.heap.size wS w') => (hL w' hb).2.1.e7
                have b9 := fun (w' : World) (hb : Below wS.heap.size wS w') => (hL w' hb).2.2.c0
                have b10 := fun (w' : World) (hb : Below wS.heap.size wS w') => (hL w' hb).2.2.c1
                have b11 := fun (w' : World) (hb : Below wS.heap.size wS w') => (hL w' hb).2.2.c2
                have hbr := Below.refl wS.heap.size wS
                clear hL HS0 p0 p1 p2 f0 f1 f2
                go_region_held3 (fun w' => Below wS.heap.size wS w') ((first | with_reducible exact HbE.out | with_reducible exact HbD.out | with_reducible exact HK1.out _ | with_reducible exact HbC.out | with_reducible exact HbB.out | ((repeat' (first | with_reducible exact HbB.out | with_reducible exact HK1.out _ | with_reducible exact HbC.out | with_reducible exact HbD.out | with_reducible exact Below.refl _ _ | (with_reducible refine Below.drew ?_))); done) | go_keep)) ((first
                  | (go_at_call 179
                     with_reducible refine (HO.out _ ?_).mono ?_
                     focus ((repeat' (first | with_reducible exact HwwS.out | (with_reducible refine Below.drew ?_))); done)
                     rintro e wB ⟨vB, rfl, hkB, hbB⟩
                     obtain ⟨aB, capB, xs1, rfl, hr1⟩ := (OwnK.outs hkB).row
                     have HbB : Hid (Below wS.heap.size wS wB) := by first | exact hbB | exact below_undrew hbB
                     have Hr1 := hide hr1
                     clear hkB hbB hr1)
                  | (go_at_call 183
                     with_reducible refine (HWG.out _ _ _ ?_ (InP_below (w := wS) ?_ HixS.out)).mono ?_
                     focus ((repeat' (first | with_reducible exact HwwS.out.trans (HbB.out.mono HwwS.out.size) | (with_reducible refine Below.drew ?_))); done)
                     focus ((repeat' (first | with_reducible exact HbB.out | (with_reducible refine Below.drew ?_))); done)
                     rintro e wC ⟨vC, rfl, hoC, hbC⟩
                     obtain ⟨aC, capC, xs2, rfl, hr2⟩ := hoC.row
                     have HbC1 : Hid (Below wB.heap.size wB wC) := by first | exact hbC | exact below_undrew hbC
                     have HbC := hide (HbB.out.trans (HbC1.out.mono HbB.out.size))
                     have Hr1' := hide (RowL_below HbC1.out Hr1.out)
                     have Hr2 := hide hr2
                     have HK1 := hide (fun o => HbC.out.trans ((below1 wC o).mono HbC.out.size))
                     have HCc := hide (fun (qc : Nat) (w' : World) (hb : Below (wC.alloc (.cells #[.slice aB E.length capB, .slice aC G.length capC] 26)).heap.size (wC.alloc (.cells #[.slice aB E.length capB, .slice aC G.length capC] 26)) w') => And.intro hb (concat_any E G aB capB aC capC wC.heap.size qc xs1 xs2 w' (by have := Hwl.out; omega) (by have := Hel.out; omega) (by have := Hwl.out; omega) (cell_below hb (cell_new 0 rfl)) (cell_below hb (cell_new 1 rfl)) (RowL_below hb (RowL_below (below1 _ _) Hr1'.out)) (RowL_below hb (RowL_below (below1 _ _) Hr2.out))))
                     clear hoC hbC hr2)
                  | (go_at_call 182
                     with_reducible refine (HCc.out _ _ ?_).2.mono ?_
                     focus ((repeat' (first | with_reducible exact Below.refl _ _ | (with_reducible refine Below.drew ?_))); done)
                     rintro e wD ⟨aD, capD, rfl, hlD, hbD⟩
                     have HbD : Hid (Below wS.heap.size wS wD) := by
                       refine Below.trans (b := _) ?_ (hbD.mono ?_)
                       · repeat' (first | with_reducible exact HK1.out _ | (with_reducible refine Below.drew ?_))
                       · have h9 := HbC.out.size
                         simp; omega
                     have HlD := hide hlD
                     clear hlD hbD)
                  | (go_at_call 178
                     with_reducible refine (HP.out HU0.out HP0.out _ _ _ _ _ ?_ (Binds_below HbD.out HbsS.out) HlD.out).mono ?_
                     focus (exact HwwS.out.trans (HbD.out.mono HwwS.out.size))
                     rintro e wE ⟨hgE, hbE⟩
                     obtain ⟨aE, capE, rfl, hlE, hoE⟩ := hgE
                     have Hb5 : Hid (Below wD.heap.size wD wE) := by first | exact hbE | exact below_undrew hbE
                     have HbE : Hid (Below wS.heap.size wS wE) := HbD.out.trans (Hb5.out.mono HbD.out.size)
                     have HfE := hide (And.intro hlE hoE)
                     clear hlE hoE hbE)))
                all_goals
                  go_wp2_with fail
                  go_ret2
                  have hbr := HwwS.out.size
                  have hba := HbD.out.size
                  refine ⟨?_, HwwS.out.trans (HbE.out.mono HwwS.out.size)⟩
                  rw [Hsp.out, if_pos HU0.out, if_pos HF0.out, if_pos HF1.out, if_pos HP0.out]
                  refine ⟨aE, capE, rfl, HfE.out.1, ?_⟩
                  rcases HfE.out.2 with h | ⟨g, B, h1, h2, h3, h4, h5⟩
                  · exact Or.inl h
                  · exact Or.inr ⟨g, B, h1, h2, h3, h4, fun j hj => by have := h5 j hj; omega⟩
              · have ep : (P.2 != 0) = true := by simpa using hP0
                have HP0 := hide hP0
                clear hP0
                go_wp2_with fail
                go_ret2
                rw [HS0.out]
                exact ⟨by rw [Hsp.out, if_pos HU0.out, if_pos HF0.out, if_pos HF1.out, if_neg HP0.out]; exact ⟨none, 0, rfl, trivial, Or.inl rfl⟩, HwwS.out⟩
            · have ef : (F' != 0) = true := by simpa using hF1
              have HF1 := hide hF1
              clear hF1
              go_wp2_with fail
              go_ret2
              exact ⟨by rw [Hsp.out, if_pos HU0.out, if_pos HF0.out, if_neg HF1.out]; exact ⟨none, 0, rfl, trivial, Or.inl rfl⟩, HwV.out.trans (Hb3.out.mono HwV.out.size)⟩
          · have ef : (F != 0) = true := by simpa using hF0
            have HF0 := hide hF0
            clear hF0
            go_wp2_with fail
            go_ret2
            exact ⟨by rw [Hsp.out, if_pos HU0.out, if_neg HF0.out]; exact ⟨none, 0, rfl, trivial, Or.inl rfl⟩, HwV.out.trans (Hb2.out.mono HwV.out.size)⟩
        · have eu : (U.2 != 0) = true := by simpa using hU0
          have HU0 := hide hU0
          clear hU0
          go_wp2_with fail
          go_ret2
          exact ⟨by rw [Hsp.out, if_neg HU0.out]; exact ⟨none, 0, rfl, trivial, Or.inl rfl⟩, HwV.out.trans (Hb1.out.mono HwV.out.size)⟩
end Go.Proofs.YtbkedppkdhfpoabGreat

namespace Go.Proofs.YtbkedppkdhfpoabGreat
open Go.RowKit
theorem drewW (w : World) (n : Nat) : Below w.heap.size w (w.drewN n) := ⟨rfl, rfl, rfl, Nat.le_refl _, fun _ _ => rfl⟩
theorem atE {ar : List Int} {t : T} {p : List Int} : (atSpec ar t p).2 = 0 → ∃ q, atT t p = some q := by
  intro h
  rw [atSpec] at h
  split at h
  · cases hq : atT t p with
    | some q => exact ⟨q, rfl⟩
    | none => rw [hq] at h; cases h
  · rename_i h9; exact absurd h h9
attribute [local go_sem ↓] Go.wp_at_zero Go.wp_at_succ
set_option maxRecDepth 100000 in
set_option maxHeartbeats 1000000 in
theorem there_any (ar : List Int) (ga : Option Addr) (gcap : Nat) (cs : List (List Lit)) (la : Option Addr) (lc : Nat) (i : Inf) (pa : Option Addr) (pc : Nat) (w : World) (hs : clausesErr ar cs = 0) (hkk : i.kind = 1 ∨ i.kind = 2 ∨ i.kind = 3) (hpl : i.place.length ≤ 9223372036854775807) (hg : Ints w ar ga) (hp : Ints w i.place pa) (hc : ClausesP w cs la) :
    Calls Tryz.prog 132 #[.agg #[.slice ga ar.length gcap], .slice la cs.length lc, infV i pa pc] w fun e w' => e = .returned (.bool (thereS ar cs i)) ∧ Below w.heap.size w w' := by
  obtain ⟨hsig, hcl60, hall⟩ := clauses_all hs
  obtain ⟨W1, hW1⟩ : ∃ W1, W1 = (w.alloc (.cells #[.slice ga ar.length gcap] 24)).alloc (.cells #[.int .i64 i.kind, .int .i64 i.left, .int .i64 i.right, .int .i64 i.la, .int .i64 i.ra, .bool i.lt, .bool i.rt, .slice pa i.place.length pc] 47) := ⟨_, rfl⟩
  have hbW : Below w.heap.size w W1 := by rw [hW1]; exact below2 _ _ _
  have hcg : W1.cell? ⟨w.heap.size, 0, none⟩ = some (.slice ga ar.length gcap) := by rw [hW1, cell_alloc_lt (by simp)]; exact cell_new 0 rfl
  have h8 : I8 W1 (w.heap.size + 1) i pa pc := by rw [hW1]; exact I8.new _ (by simp)
  have HW1 := hide hW1
  have HbW := hide hbW
  have Hcg := hide hcg
  have H8 := hide h8
  have Hbd := hide (fun (w' : World) (hb : Below W1.heap.size W1 w') => HbW.out.trans (hb.mono HbW.out.size))
  by_cases h1 : hasN i.left cs.length = true
  · obtain ⟨nl, hnl, enl, hcl0⟩ := hasN_at [] h1
    have hcl : cs[nl]? = some (clAt cs i.left) := hcl0
    clear hcl0
    have hltl := (List.getElem?_eq_some_iff.1 hcl).1
    obtain ⟨b, off, rfl⟩ := ClausesP_some hc (by omega)
    obtain ⟨ca, cc, hcell, hcP⟩ := ClausesP_at (ClausesP_below hbW hc) hcl
    have hC8 : (clAt cs i.left).length ≤ 8 := (hall _ (List.mem_of_getElem? hcl)).1
    have HC1 := hide (fun (w' : World) => hasC_any (some ⟨b, off, none⟩) cs.length lc (nl : Int) w')
    rw [← hnl, h1] at HC1
    have HC2 := hide (fun (w' : World) => hasL_any ca (clAt cs i.left).length cc i.la w')
    have e1 : W1.cell? ⟨w.heap.size + 1, 1, none⟩ = some (.int .i64 (nl : Int)) := by rw [← hnl]; exact h8.e1
    rw [hnl] at HC1
    have e3 := h8.e3
    have hnI : (nl : Int) < cs.length := by omega
    have hn0 : (0 : Int) ≤ nl := by omega
    by_cases h2 : hasN i.la (clAt cs i.left).length = true
    · rw [h2] at HC2
      have HT : Hid (thereS ar cs i = (if i.kind = 1 then true else if i.kind = 2 then hasN i.ra (clAt cs i.left).length else hasN i.right cs.length && hasN i.ra (clAt cs i.right).length && ((atSpec ar (side1 (litAt (clAt cs i.right) i.ra) i.rt) i.place).2 == 0))) := by show _ = _; rw [thereS, h1, h2]; rfl
      have HL := hide (fun (w' : World) (hb : Below W1.heap.size W1 w') => (show I8 w' (w.heap.size + 1) i pa pc ∧ w'.cell? ⟨w.heap.size + 1, 1, none⟩ = some (.int .i64 (nl : Int)) ∧ w'.cell? ⟨b, off + nl, none⟩ = some (.slice ca (clAt cs i.left).length cc) ∧ w'.cell? ⟨w.heap.size, 0, none⟩ = some (.slice ga ar.length gcap) from ⟨H8.out.below hb, cell_below hb e1, cell_below hb hcell, cell_below hb Hcg.out⟩))
      have HC3 := hide (fun (w' : World) => hasL_any ca (clAt cs i.left).length cc i.ra w')
      obtain ⟨C, hC⟩ : ∃ C, C = clAt cs i.left := ⟨_, rfl⟩
      rw [← hC] at HC2 HC3 HT HL hC8 hcell
      clear hC hcP hW1 hcg h8 h1 h2 hcl hnl enl hbW
      go_enter Tryz.func132, Tryz.ntmps132
      go_upto_region 1 with fail
      rw [← HW1.out]
      go_quiet ((first | (go_at_call 84; exact Calls.quiet_of_same (HC1.out _)) | (go_at_call 174; exact Calls.quiet_of_same (HC2.out _))))
      obtain ⟨V1, hV1⟩ : ∃ V1, V1 = W1.drewN nq := ⟨_, rfl⟩
      have HbV := hide (show Below W1.heap.size W1 V1 by rw [hV1]; exact drewW _ _)
      rw [← hV1]
      clear hV1 e1 e3 hcell HC1 HC2
      obtain ⟨⟨e0, -, e2, -, e4, -, e6, e7⟩, e1, hcell, g0⟩ := HL.out V1 HbV.out
      rcases hkk with hk | hk | hk
      · have ek : (i.kind == 1) = true := by simpa using hk
        go_wp2_with fail
        go_ret
        exact ⟨ret_bool (by rw [HT.out, if_pos hk]), Hbd.out _ HbV.out⟩
      · have ek : (i.kind == 1) = false := by rw [hk]; rfl
        have ek2 : (i.kind == 2) = true := by simpa using hk
        go_upto_region 7 with fail
        go_quiet ((go_at_call 174; exact Calls.quiet_of_same (HC3.out _)))
        go_wp2_with fail
        go_ret
        exact ⟨ret_bool (by rw [HT.out, if_neg (by omega), if_pos hk]), Hbd.out _ (HbV.out.trans ((drewW _ _).mono HbV.out.size))⟩
      · have ek : (i.kind == 1) = false := by rw [hk]; rfl
        have ek2 : (i.kind == 2) = false := by rw [hk]; rfl
        have HT3 : Hid (thereS ar cs i = (hasN i.right cs.length && hasN i.ra (clAt cs i.right).length && ((atSpec ar (side1 (litAt (clAt cs i.right) i.ra) i.rt) i.place).2 == 0))) := by show _ = _; rw [HT.out, if_neg (by omega), if_neg (by omega)]
        clear HT hk HC3
        go_upto_region 8 with fail
        by_cases h1 : hasN i.right cs.length = true
        · obtain ⟨nr, hnr, enr, hdr0⟩ := hasN_at [] h1
          have hdr : cs[nr]? = some (clAt cs i.right) := hdr0
          clear hdr0
          have hltr := (List.getElem?_eq_some_iff.1 hdr).1
          obtain ⟨da, dc, hcell2, hdP⟩ := ClausesP_at (ClausesP_below (Hbd.out _ HbV.out) hc) hdr
          have hD8 : (clAt cs i.right).length ≤ 8 := (hall _ (List.mem_of_getElem? hdr)).1
          have HC1 := hide (fun (w' : World) => hasC_any (some ⟨b, off, none⟩) cs.length lc (nr : Int) w')
          rw [← hnr, h1] at HC1
          rw [hnr] at HC1 e2
          have HC2 := hide (fun (w' : World) => hasL_any da (clAt cs i.right).length dc i.ra w')
          have hrI : (nr : Int) < cs.length := by omega
          have hr0 : (0 : Int) ≤ nr := by omega
          by_cases h2 : hasN i.ra (clAt cs i.right).length = true
          · obtain ⟨m, hm, em, hyl0⟩ := hasN_at zeroL h2
            have hyl : (clAt cs i.right)[m]? = some (litAt (clAt cs i.right) i.ra) := hyl0
            clear hyl0
            have hltm := (List.getElem?_eq_some_iff.1 hyl).1
            rw [h2] at HC2
            have hyo := (hall _ (List.mem_of_getElem? hdr)).2 _ (List.mem_of_getElem? hyl)
            have HT4 : Hid (thereS ar cs i = ((atSpec ar (side1 (litAt (clAt cs i.right) i.ra) i.rt) i.place).2 == 0)) := by show _ = _; rw [HT3.out, h1, h2]; rfl
            obtain ⟨y, hyy⟩ : ∃ y, y = litAt (clAt cs i.right) i.ra := ⟨_, rfl⟩
            have hyl2 : (clAt cs i.right)[m]? = some y := by rw [hyl, hyy]
            obtain ⟨b3, off3, rfl⟩ := LitsP_some hdP (by omega)
            obtain ⟨a3, c3, a4, c4, j0, j1, j2, j3, j4, j5, j6, i3, i4⟩ := LitsP_at hdP hyl2
            rw [← hyy] at HT4
            have HSy := hide (fun (w' : World) => sides_any y a3 c3 a4 c4 i.rt w')
            have H84 := hide (show V1.cell? ⟨w.heap.size + 1, 4, none⟩ = some (.int .i64 (m : Int)) by rw [← hm]; exact e4)
            have HL2 := hide (fun (w' : World) (hb : Below V1.heap.size V1 w') => (show w'.cell? ⟨w.heap.size + 1, 2, none⟩ = some (.int .i64 (nr : Int)) ∧ w'.cell? ⟨b, off + nr, none⟩ = some (.slice (some ⟨b3, off3, none⟩) (clAt cs i.right).length dc) ∧ w'.cell? ⟨w.heap.size + 1, 4, none⟩ = some (.int .i64 (m : Int)) ∧ w'.cell? ⟨w.heap.size + 1, 6, none⟩ = some (.bool i.rt) ∧ w'.cell? ⟨b3, off3 + m * 7, none⟩ = some (.bool y.1) ∧ w'.cell? ⟨b3, off3 + m * 7 + 1, none⟩ = some (.int .i64 y.2.1.v) ∧ w'.cell? ⟨b3, off3 + m * 7 + 2, none⟩ = some (.int .i64 y.2.1.f) ∧ w'.cell? ⟨b3, off3 + m * 7 + 3, none⟩ = some (.slice a3 y.2.1.args.length c3) ∧ w'.cell? ⟨b3, off3 + m * 7 + 4, none⟩ = some (.int .i64 y.2.2.v) ∧ w'.cell? ⟨b3, off3 + m * 7 + 5, none⟩ = some (.int .i64 y.2.2.f) ∧ w'.cell? ⟨b3, off3 + m * 7 + 6, none⟩ = some (.slice a4 y.2.2.args.length c4) from
              ⟨cellB hb e2, cellB hb hcell2, cellB hb H84.out, cellB hb e6, cellB hb j0, cellB hb j1, cellB hb j2, cellB hb j3, cellB hb j4, cellB hb j5, cellB hb j6⟩))
            have HL3 := hide (fun (w' : World) (hb : Below V1.heap.size V1 w') => And.intro (cellB hb g0) (cellB hb e7))
            obtain ⟨u, hu1⟩ : ∃ u, u = side1 y i.rt := ⟨_, rfl⟩
            obtain ⟨v, hv1⟩ : ∃ v, v = side2 y i.rt := ⟨_, rfl⟩
            obtain ⟨ua, hua⟩ : ∃ ua, ua = if i.rt then a4 else a3 := ⟨_, rfl⟩
            obtain ⟨uc, huc⟩ : ∃ uc, uc = if i.rt then c4 else c3 := ⟨_, rfl⟩
            obtain ⟨va, hva⟩ : ∃ va, va = if i.rt then a3 else a4 := ⟨_, rfl⟩
            obtain ⟨vc, hvc⟩ : ∃ vc, vc = if i.rt then c3 else c4 := ⟨_, rfl⟩
            rw [← hu1, ← hv1, ← hua, ← huc, ← hva, ← hvc] at HSy
            rw [← hu1] at HT4
            have Hju : Hid (InL V1 u.args ua) := by show InL _ _ _; rw [hu1, hua]; exact (side_in _ i3 i4).1
            have HA := hide (fun (w' : World) (hb : Below V1.heap.size V1 w') => At_any ar ga gcap u ua uc i.place pa pc w' (Ints_below (Hbd.out _ (HbV.out.trans (hb.mono HbV.out.size))) hg) (InP_below hb Hju.out) (Ints_below (Hbd.out _ (HbV.out.trans (hb.mono HbV.out.size))) hp) hpl)
            obtain ⟨A, hA⟩ : ∃ A, A = atSpec ar u i.place := ⟨_, rfl⟩
            rw [← hA] at HA HT4
            obtain ⟨D, hD⟩ : ∃ D, D = clAt cs i.right := ⟨_, rfl⟩
            rw [← hD] at HL2 HC2 hD8 hltm hcell2
            have hmI : (m : Int) < D.length := by omega
            have hm0 : (0 : Int) ≤ m := by omega
            clear hA hD hu1 hv1 hua huc hva hvc hyl2 hyy hyl hm em h2 h1 hnr enr hdr hdP i3 i4 hyo j0 j1 j2 j3 j4 j5 j6 e0 e1 hcell
            rw [show V1.cell? ⟨w.heap.size + 1, 4, none⟩ = some (.int .i64 i.ra) from e4] at H84
            clear H84
            go_quiet ((first | (go_at_call 84; exact Calls.quiet_of_same (HC1.out _)) | (go_at_call 174; exact Calls.quiet_of_same (HC2.out _))))
            obtain ⟨V2, hV2⟩ : ∃ V2, V2 = V1.drewN nq := ⟨_, rfl⟩
            have HB2 := hide (show Below V1.heap.size V1 V2 by rw [hV2]; exact drewW _ _)
            rw [← hV2]
            clear hV2 e2 e4 e6 e7 g0 hcell2 HC1 HC2
            go_upto_region 10 with fail
            have hL := HL2.out
            have b0 := fun (w' : World) (hb : Below V2.heap.size V2 w') => (hL w' (HB2.out.trans (Below.mono hb HB2.out.size))).1
            have b1 := fun (w' : World) (hb : Below V2.heap.size V2 w') => (hL w' (HB2.out.trans (Below.mono hb HB2.out.size))).2.1
            have b2 := fun (w' : World) (hb : Below V2.heap.size V2 w') => (hL w' (HB2.out.trans (Below.mono hb HB2.out.size))).2.2.1
            have b3 := fun (w' : World) (hb : Below V2.heap.size V2 w') => (hL w' (HB2.out.trans (Below.mono hb HB2.out.size))).2.2.2.1
            have b4 := fun (w' : World) (hb : Below V2.heap.size V2 w') => (hL w' (HB2.out.trans (Below.mono hb HB2.out.size))).2.2.2.2.1
            have b5 := fun (w' : World) (hb : Below V2.heap.size V2 w') => (hL w' (HB2.out.trans (Below.mono hb HB2.out.size))).2.2.2.2.2.1
            have b6 := fun (w' : World) (hb : Below V2.heap.size V2 w') => (hL w' (HB2.out.trans (Below.mono hb HB2.out.size))).2.2.2.2.2.2.1
            have b7 := fun (w' : World) (hb : Below V2.heap.size V2 w') => (hL w' (HB2.out.trans (Below.mono hb HB2.out.size))).2.2.2.2.2.2.2.1
            have b8 := fun (w' : World) (hb : Below V2.heap.size V2 w') => (hL w' (HB2.out.trans (Below.mono hb HB2.out.size))).2.2.2.2.2.2.2.2.1
            have b9 := fun (w' : World) (hb : Below V2.heap.size V2 w') => (hL w' (HB2.out.trans (Below.mono hb HB2.out.size))).2.2.2.2.2.2.2.2.2.1
            have b10 := fun (w' : World) (hb : Below V2.heap.size V2 w') => (hL w' (HB2.out.trans (Below.mono hb HB2.out.size))).2.2.2.2.2.2.2.2.2.2
            have hbr := Below.refl V2.heap.size V2
            clear hL
            go_cut [7, 8] (fun p q wc => ∃ Bp Bq, p = .pointer (some ⟨Bp, 0, none⟩) ∧ q = .pointer (some ⟨Bq, 0, none⟩) ∧ Hid (TwoV V2 wc Bp Bq (.int .i64 u.v) (.int .i64 u.f) (.slice ua u.args.length uc) (.int .i64 v.v) (.int .i64 v.f) (.slice va v.args.length vc)))
            case first =>
              go_region_held3 (fun w' => Below V2.heap.size V2 w') ((first | with_reducible exact HK2.out _ _ | with_reducible exact HK1.out _ | ((repeat' (first | with_reducible exact HbA.out | with_reducible exact HK1.out _ | with_reducible exact HK2.out _ _ | with_reducible exact Below.refl _ _ | (with_reducible refine Below.drew ?_) | (with_reducible refine Below.setCell ?_ ?_ _; rotate_left; focus (first | exact Nat.le_refl _ | exact hzA | exact hn3 | (show V2.heap.size ≤ _; omega) | (simp; omega))) | (refine Below.alloc ?_ ?_ _; rotate_left; focus (first | omega | (simp; omega) | (simp; done))))); done) | go_keep)) ((first
                  | (go_at_call 134
                     with_reducible refine (HSy.out _).mono ?_
                     rintro e wA ⟨rfl, hbA⟩
                     have HbA : Hid (Below V2.heap.size V2 wA) := by
                       refine Below.trans (b := _) ?_ (hbA.mono ?_)
                       · repeat' (first | with_reducible exact Below.refl _ _ | (with_reducible refine Below.drew ?_) | (refine Below.alloc ?_ ?_ _; rotate_left; focus (first | omega | (simp; omega) | (simp; done))))
                       · first | omega | (simp; omega) | (simp; done)
                     have HK1 := hide (fun o => HbA.out.trans ((below1 wA o).mono HbA.out.size))
                     have HK2 := hide (fun o1 o2 => HbA.out.trans ((below2 wA o1 o2).mono HbA.out.size))
                     have hzA := HbA.out.size
                     first
                       | (have h3a := three_at hbA (heap_alloc_old V2 _ _)
                          have h3b := three_at hbA (heap_alloc_two V2 _ _)
                          have hz9 : V2.heap.size + 1 < wA.heap.size := by
                            have h9 := hbA.size
                            simp at h9
                            omega
                          have hn1 : V2.heap.size ≠ V2.heap.size + 1 := by omega
                          have hn2 : V2.heap.size + 1 ≠ V2.heap.size := by omega
                          have hn3 : V2.heap.size ≤ V2.heap.size + 1 := by omega
                          generalize hH2 : V2.heap.size + 1 = H2 at h3b hz9 hn1 hn2 hn3 ⊢
                          have H3a := hide h3a
                          have H3b := hide h3b
                          obtain ⟨_, _, _, _, _, _⟩ := h3a
                          obtain ⟨_, _, _, _, _, _⟩ := h3b
                          clear hH2)
                       | (have h3a := three_at hbA (heap_alloc_self V2 _)
                          have h3b := fun o => h3a.alloc o
                          have r0 := fun o => (h3b o).c0
                          have r1 := fun o => (h3b o).c1
                          have r2 := fun o => (h3b o).c2
                          have r3 := fun o => (h3b o).f0
                          have r4 := fun o => (h3b o).f1
                          have r5 := fun o => (h3b o).f2
                          have hz9 : V2.heap.size < wA.heap.size := by
                            have h9 := hbA.size
                            simp at h9
                            omega
                          have hn1 : V2.heap.size ≠ wA.heap.size := by omega
                          have hn2 : wA.heap.size ≠ V2.heap.size := by omega
                          have H3a := hide h3a
                          obtain ⟨_, _, _, _, _, _⟩ := h3a
                          clear h3b)
                       | skip
                     clear b0 b1 b2 b3 b4 b5 b6 b7 b8 b9 b10 hbr hbA)))
              all_goals (go_wp2_with fail; go_meet)
              all_goals first
                | with_reducible exact ⟨_, _, rfl, rfl, hide (twoV_new HbA.out _ _ _ _ _ _ _ _)⟩
                | with_reducible exact ⟨_, _, rfl, rfl, hide (TwoV.swap (twoV_new HbA.out _ _ _ _ _ _ _ _))⟩
                | with_reducible exact ⟨_, _, rfl, rfl, hide (twoV_one HbA.out (Nat.le_refl _) H3a.out _ _ _ _ _ _ _)⟩
                | with_reducible exact ⟨_, _, rfl, rfl, hide (TwoV.swap (twoV_one HbA.out (Nat.le_refl _) H3a.out _ _ _ _ _ _ _))⟩
                | with_reducible exact ⟨_, _, rfl, rfl, hide (twoV_two HbA.out (Nat.le_refl _) hn3 hn1 H3a.out H3b.out _ _ _ _ _ _)⟩
                | with_reducible exact ⟨_, _, rfl, rfl, hide (twoV_two HbA.out hn3 (Nat.le_refl _) hn2 H3b.out H3a.out _ _ _ _ _ _)⟩
            case rest =>
              obtain ⟨B7, B8, rfl, rfl, HX⟩ := hcut
              clear b0 b1 b2 b3 b4 b5 b6 b7 b8 b9 b10 hbr
              obtain ⟨V3, hV3⟩ : ∃ V3, V3 = wc := ⟨_, rfl⟩
              rw [← hV3] at HX ⊢
              clear hV3
              have HB3 := hide (HB2.out.trans (HX.out.below.mono HB2.out.size))
              have HBw := hide (Hbd.out _ (HbV.out.trans (HB3.out.mono HbV.out.size)))
              have HA1 := hide (HA.out V3 HB3.out)
              obtain ⟨g0, e7⟩ := HL3.out V3 HB3.out
              obtain ⟨p0, p1, p2, _, _, _⟩ := HX.out.one
              clear HA
              go_wp2_with fail
              refine HA1.out.mono ?_
              rintro e w1 ⟨hgv, hb1⟩
              obtain ⟨xa, xc, rfl, _⟩ := hgv
              have Hf := hide (HBw.out.trans (hb1.mono HBw.out.size))
              clear hb1 HA1
              go_wp2_with fail
              go_ret
              exact ⟨ret_bool HT4.out.symm, Hf.out.trans ((below1 w1 _).mono Hf.out.size)⟩
          · have h2' : hasN i.ra (clAt cs i.right).length = false := by simpa using h2
            rw [h2'] at HC2
            have HT4 : Hid (thereS ar cs i = false) := by show _ = _; rw [HT3.out, h1, h2']; rfl
            obtain ⟨D, hD⟩ : ∃ D, D = clAt cs i.right := ⟨_, rfl⟩
            rw [← hD] at HC2 hD8 hcell2
            clear hD h2 h2' h1 hnr enr hdr hdP
            go_quiet ((first | (go_at_call 84; exact Calls.quiet_of_same (HC1.out _)) | (go_at_call 174; exact Calls.quiet_of_same (HC2.out _))))
            go_wp2_with fail
            go_ret
            exact ⟨ret_bool HT4.out.symm, Hbd.out _ (HbV.out.trans ((drewW _ _).mono HbV.out.size))⟩
        · have h1' : hasN i.right cs.length = false := by simpa using h1
          have HC1 := hide (fun (w' : World) => hasC_any (some ⟨b, off, none⟩) cs.length lc i.right w')
          rw [h1'] at HC1
          have HT4 : Hid (thereS ar cs i = false) := by show _ = _; rw [HT3.out, h1']; rfl
          clear h1 h1'
          go_quiet ((go_at_call 84; exact Calls.quiet_of_same (HC1.out _)))
          go_wp2_with fail
          go_ret
          exact ⟨ret_bool HT4.out.symm, Hbd.out _ (HbV.out.trans ((drewW _ _).mono HbV.out.size))⟩
    · have h2' : hasN i.la (clAt cs i.left).length = false := by simpa using h2
      rw [h2'] at HC2
      have HT4 : Hid (thereS ar cs i = false) := by show _ = _; rw [thereS, h1, h2']; rfl
      obtain ⟨C, hC⟩ : ∃ C, C = clAt cs i.left := ⟨_, rfl⟩
      rw [← hC] at HC2 hC8 hcell
      clear hC hcP hW1 hcg h8 h1 h2 h2' hcl hnl enl hbW
      go_enter Tryz.func132, Tryz.ntmps132
      go_upto_region 1 with fail
      rw [← HW1.out]
      go_quiet ((first | (go_at_call 84; exact Calls.quiet_of_same (HC1.out _)) | (go_at_call 174; exact Calls.quiet_of_same (HC2.out _))))
      go_wp2_with fail
      go_ret
      exact ⟨ret_bool HT4.out.symm, Hbd.out _ (drewW _ _)⟩
  · have h1' : hasN i.left cs.length = false := by simpa using h1
    have HC1 := hide (fun (w' : World) => hasC_any la cs.length lc i.left w')
    rw [h1'] at HC1
    have HT4 : Hid (thereS ar cs i = false) := by show _ = _; rw [thereS, h1']; rfl
    have e1 := h8.e1
    clear hW1 hcg h8 h1 h1' hbW
    go_enter Tryz.func132, Tryz.ntmps132
    go_upto_region 1 with fail
    rw [← HW1.out]
    go_quiet ((go_at_call 84; exact Calls.quiet_of_same (HC1.out _)))
    go_wp2_with fail
    go_ret
    exact ⟨ret_bool HT4.out.symm, Hbd.out _ (drewW _ _)⟩
end Go.Proofs.YtbkedppkdhfpoabGreat
