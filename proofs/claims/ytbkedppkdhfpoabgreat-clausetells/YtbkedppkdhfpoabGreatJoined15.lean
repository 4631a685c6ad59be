/- ClauseTells: the document's CoversOf. ClauseTells: the document's ApplyClause. ClauseTells: the document's TidyOf. -/
import Derived.Test.YtbkedppkdhfpoabGreatJoined14
namespace Go.Proofs.YtbkedppkdhfpoabGreat
open Go.RowKit

/-- A clause without its first literal, as it is cut off. -/
theorem tailL_any {w : World} {l : Lit} {c : List Lit} {b off cap : Nat} (h : LitsP w (l :: c) (some ⟨b, off, none⟩)) (hc : c.length + 1 ≤ cap) :
    ∃ pa, (∀ w' : World, (Instr.slice 26 (.slice (some ⟨b, off, none⟩) (c.length + 1) cap) (some (.int .i64 1)) none none).run Tryz.prog w' = .ok (.slice pa c.length (cap - 1)) w') ∧ LitsP w c pa := by
  have ht : Tryz.prog.underlying 26 = some (.slice (Tryz.prog.elem 26)) := by kernel_rfl
  have hsz : ∀ w : World, (sizeOf (Tryz.prog.elem 26)).run Tryz.prog w = .ok 7 w := fun w => by kernel_rfl
  have hrun := fun w' : World => run_slice_l (P := Tryz.prog) w' 26 (some ⟨b, off, none⟩) (c.length + 1) cap ht .i64 1 (by omega) (by omega)
  by_cases h1 : cap = 1
  · subst h1
    have hp : c = [] := List.length_eq_zero_iff.1 (by omega)
    subst hp
    refine ⟨some ⟨b, off, none⟩, fun w' => ?_, trivial⟩
    rw [hrun w', hsz]
    simp [sliced]
  · obtain ⟨b', off', a1, c1, a2, c2, hb, _, _, _, _, _, _, _, _, _, hr⟩ := h
    simp only [Option.some.injEq, Addr.mk.injEq] at hb
    obtain ⟨rfl, rfl, _⟩ := hb
    refine ⟨some ⟨b, off + 7, none⟩, fun w' => ?_, hr⟩
    rw [hrun w', hsz]
    simp [sliced, h1, Addr.add]
/-- Seven cells that may be written. -/
structure Free7 (w : World) (b : Nat) (x : Lit) (a1 : Option Addr) (c1 : Nat) (a2 : Option Addr) (c2 : Nat) : Prop where
  e0 : w.cell? ⟨b, 0, none⟩ = some (.bool x.1)
  e1 : w.cell? ⟨b, 1, none⟩ = some (.int .i64 x.2.1.v)
  e2 : w.cell? ⟨b, 2, none⟩ = some (.int .i64 x.2.1.f)
  e3 : w.cell? ⟨b, 3, none⟩ = some (.slice a1 x.2.1.args.length c1)
  e4 : w.cell? ⟨b, 4, none⟩ = some (.int .i64 x.2.2.v)
  e5 : w.cell? ⟨b, 5, none⟩ = some (.int .i64 x.2.2.f)
  e6 : w.cell? ⟨b, 6, none⟩ = some (.slice a2 x.2.2.args.length c2)
theorem Free7.of_heap {w : World} {b : Nat} {x : Lit} {a1 : Option Addr} {c1 : Nat} {a2 : Option Addr} {c2 : Nat} {e : TypeId} (h : w.heap[b]? = some (.cells #[.bool x.1, .int .i64 x.2.1.v, .int .i64 x.2.1.f, .slice a1 x.2.1.args.length c1, .int .i64 x.2.2.v, .int .i64 x.2.2.f, .slice a2 x.2.2.args.length c2] e)) : Free7 w b x a1 c1 a2 c2 ∧ ∀ j, w.frozen? ⟨b, j, none⟩ = false := by
  refine ⟨⟨?_, ?_, ?_, ?_, ?_, ?_, ?_⟩, fun j => ?_⟩
  all_goals first | (unfold World.cell?; rw [h]; rfl) | (unfold World.frozen?; rw [h]; simp)
theorem set7_heap {w : World} {b : Nat} {t : TypeId} {u0 u1 u2 u3 u4 u5 u6 : Value} (v0 v1 v2 v3 v4 v5 v6 : Value) (h : w.heap[b]? = some (.cells #[u0, u1, u2, u3, u4, u5, u6] t)) : (((((((w.setCell ⟨b, 0, none⟩ v0).setCell ⟨b, 1, none⟩ v1).setCell ⟨b, 2, none⟩ v2).setCell ⟨b, 3, none⟩ v3).setCell ⟨b, 4, none⟩ v4).setCell ⟨b, 5, none⟩ v5).setCell ⟨b, 6, none⟩ v6).heap[b]? = some (.cells #[v0, v1, v2, v3, v4, v5, v6] t) := by
  simp [World.setCell, Array.getElem?_modify, h]
theorem set7_below {B b : Nat} {a w : World} (hb : B ≤ b) (v0 v1 v2 v3 v4 v5 v6 : Value) (h : Below B a w) : Below B a (((((((w.setCell ⟨b, 0, none⟩ v0).setCell ⟨b, 1, none⟩ v1).setCell ⟨b, 2, none⟩ v2).setCell ⟨b, 3, none⟩ v3).setCell ⟨b, 4, none⟩ v4).setCell ⟨b, 5, none⟩ v5).setCell ⟨b, 6, none⟩ v6) :=
  ((((((h.setCell (p := ⟨b, 0, none⟩) hb v0).setCell (p := ⟨b, 1, none⟩) hb v1).setCell (p := ⟨b, 2, none⟩) hb v2).setCell (p := ⟨b, 3, none⟩) hb v3).setCell (p := ⟨b, 4, none⟩) hb v4).setCell (p := ⟨b, 5, none⟩) hb v5).setCell (p := ⟨b, 6, none⟩) hb v6
theorem grow_no {ar : List Int} {p t : T} {bs : List (Int × T)} (hg : growT p t bs = none) (pa : Option Addr) (pc : Nat) (ta : Option Addr) (tc : Nat) (ba : Option Addr) (bc : Nat) (w : World) (h1 : bs.length + p.sz ≤ 100000) (h2 : okP ar p) (h3 : okP ar t) (h4 : t.sz ≤ 1000) (h5 : ∀ v u, (v, u) ∈ bs → u.sz ≤ 1000) (h6 : Shape ba bc) (h7 : Binds (fun _ => True) w bs ba) (h8 : InL w p.args pa) (h9 : InL w t.args ta) :
    Calls Tryz.prog 58 #[.slice ba bs.length bc, .agg #[.int .i64 p.v, .int .i64 p.f, .slice pa p.args.length pc], .agg #[.int .i64 t.v, .int .i64 t.f, .slice ta t.args.length tc]] w fun e w' => (∃ a' n' c', e = .returned (.tuple #[.slice a' n' c', .bool false])) ∧ Below w.heap.size w w' := by
  refine (grow_any (fun _ => True) 0 (fun _ _ => trivial) ar (p.sz + 1) p t pa pc ta tc bs ba bc w (Nat.zero_le _) (Nat.lt_succ_self _) h1 h2 h3 h4 h5 h6 h7 h8 h9).mono ?_
  rintro e w' ⟨⟨a', n', c', rfl, _⟩, hb⟩
  rw [hg]
  exact ⟨⟨a', n', c', rfl⟩, hb⟩
theorem grow_yes {ar : List Int} {p t : T} {bs b2 : List (Int × T)} (hg : growT p t bs = some b2) (pa : Option Addr) (pc : Nat) (ta : Option Addr) (tc : Nat) (ba : Option Addr) (bc : Nat) (w : World) (h1 : bs.length + p.sz ≤ 100000) (h2 : okP ar p) (h3 : okP ar t) (h4 : t.sz ≤ 1000) (h5 : ∀ v u, (v, u) ∈ bs → u.sz ≤ 1000) (h6 : Shape ba bc) (h7 : Binds (fun _ => True) w bs ba) (h8 : InL w p.args pa) (h9 : InL w t.args ta) :
    Calls Tryz.prog 58 #[.slice ba bs.length bc, .agg #[.int .i64 p.v, .int .i64 p.f, .slice pa p.args.length pc], .agg #[.int .i64 t.v, .int .i64 t.f, .slice ta t.args.length tc]] w fun e w' => (∃ a' c', e = .returned (.tuple #[.slice a' b2.length c', .bool true]) ∧ Shape a' c' ∧ Binds (fun _ => True) w' b2 a') ∧ Below w.heap.size w w' := by
  refine (grow_any (fun _ => True) 0 (fun _ _ => trivial) ar (p.sz + 1) p t pa pc ta tc bs ba bc w (Nat.zero_le _) (Nat.lt_succ_self _) h1 h2 h3 h4 h5 h6 h7 h8 h9).mono ?_
  rintro e w' ⟨⟨a', n', c', rfl, h⟩, hb⟩
  obtain ⟨rfl, q1, q2⟩ := h b2 hg
  rw [hg]
  exact ⟨⟨a', c', rfl, q1, q2⟩, hb⟩
theorem try_no0 {l y : Lit} {bs : List (Int × T)} (h : ¬ y.1 = l.1) : tryF l y bs = none := by rw [tryF, if_neg h]
theorem try_no1 {l y : Lit} {bs : List (Int × T)} (h1 : growT l.2.1 y.2.1 bs = none) : tryF l y bs = none := by
  rw [tryF]; split
  · rw [h1]
  · rfl
theorem try_no2 {l y : Lit} {bs m : List (Int × T)} (h1 : growT l.2.1 y.2.1 bs = some m) (h2 : growT l.2.2 y.2.2 m = none) : tryF l y bs = none := by
  rw [tryF]; split
  · rw [h1]; exact h2
  · rfl
theorem try_yes {l y : Lit} {bs m m2 : List (Int × T)} (h : y.1 = l.1) (h1 : growT l.2.1 y.2.1 bs = some m) (h2 : growT l.2.2 y.2.2 m = some m2) : tryF l y bs = some m2 := by
  rw [tryF, if_pos h, h1]; exact h2
attribute [local go_sem ↓] Go.wp_at_zero Go.wp_at_succ
set_option maxRecDepth 100000 in
set_option maxHeartbeats 8000000 in
theorem coversOf_any (ar : List Int) (d : List Lit) (da : Option Addr) (dc : Nat) (hdl : d.length ≤ 1000) (hdo : LitsOk ar d) (c : List Lit) : ∀ (ca : Option Addr) (cc : Nat) (bs : List (Int × T)) (ba : Option Addr) (bc : Nat) (w : World), c.length ≤ cc → c.length ≤ 8 → LitsOk ar c → bs.length + 240 * c.length ≤ 50000 → (∀ v u, (v, u) ∈ bs → u.sz ≤ 1000) → Shape ba bc → Binds (fun _ => True) w bs ba → LitsP w c ca → LitsP w d da →
    Calls Tryz.prog 18 #[.slice ba bs.length bc, .slice ca c.length cc, .slice da d.length dc] w fun e w' => e = .returned (.bool (coversF d c bs)) ∧ Below w.heap.size w w' := by
  induction c with
  | nil =>
    intro ca cc bs ba bc w _ _ _ _ _ _ _ _ _
    rw [coversF]
    go_enter Tryz.func18, Tryz.ntmps18
    go_wp2_with fail
    go_ret
    exact ⟨rfl, Below.refl _ _⟩
  | cons l c ih =>
    intro ca cc bs ba bc w hcc hc8 hco hbl hbz hsh hbs hcl hd
    rw [List.length_cons] at hcc hc8 hbl
    obtain ⟨b, off, rfl⟩ := LitsP_some hcl (by simp)
    obtain ⟨pa, hsl, hpt⟩ := tailL_any hcl hcc
    obtain ⟨a1, c1, a2, c2, hA, i1, i2⟩ := LitsP_at7 hcl (k := 0) (x := l) rfl
    rw [Nat.zero_mul, Nat.add_zero] at hA
    have hlo := hco l List.mem_cons_self
    have hco' : LitsOk ar c := fun x hx => hco x (List.mem_cons_of_mem _ hx)
    obtain ⟨G, hG⟩ : ∃ G : Lit → Bool, G = fun y => nextF (coversF d c) (tryF l y bs) := ⟨_, rfl⟩
    have hZ : coversF d (l :: c) bs = d.any (fun k => G k || G (turnL k)) := by rw [coversF, hG]
    rw [hZ]
    obtain ⟨P, hP⟩ : ∃ P : Lit → Bool, P = fun k => G k || G (turnL k) := ⟨_, rfl⟩
    rw [← hP]
    have HG := hide hG
    have HP := hide hP
    have Hd := hide hd
    have HA := hide hA
    have Hi1 := hide i1
    have Hi2 := hide i2
    have Hbs := hide hbs
    have Hpt := hide hpt
    have Hlo := hide hlo
    have Hdo := hide hdo
    have Hbz0 := hide hbz
    have Hsh := hide hsh
    have Hih := hide (fun (b2 : List (Int × T)) (ba2 : Option Addr) (bc2 : Nat) (w' : World) (hb : Below w.heap.size w w') (h1 : b2.length ≤ bs.length + 240) (h2 : ∀ v u, (v, u) ∈ b2 → u.sz ≤ 1000) (h3 : Shape ba2 bc2) (h4 : Binds (fun _ => True) w' b2 ba2) => ih pa (cc - 1) b2 ba2 bc2 w' (by omega) (by omega) hco' (by omega) h2 h3 h4 (LitsP_below hb hpt) (LitsP_below hb hd))
    have hl1 : (l :: c).length = c.length + 1 := rfl
    rw [hl1]
    have hne : ((c.length : Int) + 1 == 0) = false := by rw [beq_eq_false_iff_ne]; omega
    have hc0 : (0 : Int) < (c.length : Int) + 1 := by omega
    clear hG hP hd hA i1 i2 hbs hpt hlo hdo hbz hsh ih hcl hco hco' hZ hl1
    go_enter Tryz.func18, Tryz.ntmps18
    go_wp2_with fail
    go_loopw [7] (fun i wr => ∃ k : Nat, k ≤ d.length ∧ i = .int .i64 k ∧ Hid ((d.take k).any P = false) ∧ Hid (Below w.heap.size w wr)) (fun i _ => d.length - (intOf i).toNat)
    case atStart => exact ⟨0, Nat.zero_le _, rfl, rfl, Below.refl _ _⟩
    case round =>
      obtain ⟨k, hk, rfl, Hk, Hb⟩ := hrel
      by_cases hlt : k < d.length
      · obtain ⟨db, doff, rfl⟩ := LitsP_some Hd.out (by omega)
        obtain ⟨x, hx⟩ : ∃ x, d[k]? = some x := ⟨d[k], List.getElem?_eq_getElem hlt⟩
        obtain ⟨b1, d1, b2, d2, _, hB', j1, j2⟩ := LitsP_both (LitsP_below Hb.out Hd.out) hx
        have hxo := Hdo.out x (List.mem_of_getElem? hx)
        have Hst := hide (any_litS hx Hk.out)
        have HPx : Hid (P x = (G x || G (turnL x))) := by show _ = _; rw [HP.out]
        have HB' := hide hB'
        have Hj1 := hide j1
        have Hj2 := hide j2
        have Hxo := hide hxo
        have hkI : (k : Int) < d.length := by omega
        have hk0 : (0 : Int) ≤ k := by omega
        clear hx hB' j1 j2 hxo Hk
        go_wp2_with fail
        go_loopw [8] (fun i wi => ∃ m : Nat, m ≤ 2 ∧ i = .int .i64 m ∧ Hid (1 ≤ m → G x = false) ∧ Hid (2 ≤ m → G (turnL x) = false) ∧ Hid (Below wr.heap.size wr wi)) (fun i _ => 2 - (intOf i).toNat)
        case atStart => exact ⟨0, Nat.zero_le _, rfl, fun h => absurd h (by omega), fun h => absurd h (by omega), Below.refl _ _⟩
        case round =>
          obtain ⟨m, hm, rfl, Hm1, Hm2, Hbi⟩ := hrel
          have HbW := hide (Hb.out.trans (Hbi.out.mono Hb.out.size))
          obtain ⟨p0, p1, p2, p3, p4, p5, p6⟩ := HB'.out.below Hbi.out
          by_cases hm2 : m < 2
          · obtain ⟨W1, hW1⟩ : ∃ W1, W1 = wr.alloc (.cells #[.bool x.1, .int .i64 x.2.1.v, .int .i64 x.2.1.f, .slice b1 x.2.1.args.length d1, .int .i64 x.2.2.v, .int .i64 x.2.2.f, .slice b2 x.2.2.args.length d2] 79) := ⟨_, rfl⟩
            have HW1 := hide hW1
            clear hW1
            obtain ⟨nb, hnb⟩ : ∃ nb, nb = wr.heap.size := ⟨_, rfl⟩
            have Hnb := hide hnb
            have HyA : Hid (W1.heap[nb]? = some (.cells #[.bool x.1, .int .i64 x.2.1.v, .int .i64 x.2.1.f, .slice b1 x.2.1.args.length d1, .int .i64 x.2.2.v, .int .i64 x.2.2.f, .slice b2 x.2.2.args.length d2] 79)) := by show _ = _; rw [HW1.out, hnb]; exact heap_alloc_new _ _
            have HbW1 : Hid (Below wr.heap.size wr W1) := by rw [HW1.out]; exact below1 _ _
            have HGx : Hid (m = 0 → (G x = true → P x = true) ∧ (G x = false → (1 ≤ m + 1 → G x = false) ∧ (2 ≤ m + 1 → G (turnL x) = false))) := fun hm => ⟨fun h => by rw [HPx.out, h]; rfl, fun h => ⟨fun _ => h, fun h2 => absurd h2 (by omega)⟩⟩
            have HGt : Hid (m = 1 → (G (turnL x) = true → P x = true) ∧ (G (turnL x) = false → (1 ≤ m + 1 → G x = false) ∧ (2 ≤ m + 1 → G (turnL x) = false))) := fun hm => ⟨fun h => by rw [HPx.out, h]; simp, fun h => ⟨fun _ => Hm1.out (by omega), fun _ => h⟩⟩
            have Hk1 := hide (InP_below Hbi.out Hj1.out)
            have Hk2 := hide (InP_below Hbi.out Hj2.out)
            clear hnb
            by_cases hm1 : m = 1
            case' pos =>
              have HGt' := hide (HGt.out hm1)
              have hmE : ((m : Int) == 1) = true := by rw [beq_iff_eq]; omega
              have hmI : (m : Int) < 2 := by omega
              clear hm1
              go_wp2_with fail
              rw [← HW1.out]
              refine (turned_any x b1 d1 b2 d2 W1).mono ?_
              rintro e w2 ⟨rfl, hb2⟩
              have hh2 : w2.heap[nb]? = some (.cells #[.bool x.1, .int .i64 x.2.1.v, .int .i64 x.2.1.f, .slice b1 x.2.1.args.length d1, .int .i64 x.2.2.v, .int .i64 x.2.2.f, .slice b2 x.2.2.args.length d2] 79) := by rw [hb2.block nb (by rw [HW1.out, Hnb.out]; simp)]; exact HyA.out
              have Hh2 := hide hh2
              obtain ⟨hfr, hfz⟩ := Free7.of_heap hh2
              obtain ⟨f0, f1, f2, f3, f4, f5, f6⟩ := hfr
              have z0 := hfz 0
              have z1 := hfz 1
              have z2 := hfz 2
              have z3 := hfz 3
              have z4 := hfz 4
              have z5 := hfz 5
              have z6 := hfz 6
              have Hbw2 := hide (HbW1.out.trans (hb2.mono HbW1.out.size))
              rw [Hnb.out] at f0 f1 f2 f3 f4 f5 f6 z0 z1 z2 z3 z4 z5 z6
              clear hfz hb2 hh2
              go_wp2_with fail
              rw [← Hnb.out]
              obtain ⟨wy, hwy⟩ : ∃ wy, wy = (((((((w2.setCell ⟨nb, 0, none⟩ (.bool (turnL x).1)).setCell ⟨nb, 1, none⟩ (.int .i64 (turnL x).2.1.v)).setCell ⟨nb, 2, none⟩ (.int .i64 (turnL x).2.1.f)).setCell ⟨nb, 3, none⟩ (.slice b2 (turnL x).2.1.args.length d2)).setCell ⟨nb, 4, none⟩ (.int .i64 (turnL x).2.2.v)).setCell ⟨nb, 5, none⟩ (.int .i64 (turnL x).2.2.f)).setCell ⟨nb, 6, none⟩ (.slice b1 (turnL x).2.2.args.length d1)) := ⟨_, rfl⟩
              rw [← hwy]
              obtain ⟨y, ya1, yc1, ya2, yc2, Hy7, Hby, Hyi1, Hyi2, Hyo, Hys, HGy, HGn⟩ : ∃ (y : Lit) (ya1 : Option Addr) (yc1 : Nat) (ya2 : Option Addr) (yc2 : Nat), Hid (Free7 wy nb y ya1 yc1 ya2 yc2) ∧ Hid (Below wr.heap.size wr wy) ∧ Hid (InL wy y.2.1.args ya1) ∧ Hid (InL wy y.2.2.args ya2) ∧ Hid ((y.2.1.sz ≤ 120 ∧ okP ar y.2.1) ∧ (y.2.2.sz ≤ 120 ∧ okP ar y.2.2)) ∧ Hid (y.1 = x.1) ∧ Hid (G y = true → P x = true) ∧ Hid (G y = false → (1 ≤ m + 1 → G x = false) ∧ (2 ≤ m + 1 → G (turnL x) = false)) := by
                have hbb : Below wr.heap.size wr wy := by rw [hwy]; exact set7_below (by rw [Hnb.out]; exact Nat.le_refl _) _ _ _ _ _ _ _ Hbw2.out
                refine ⟨turnL x, b2, d2, b1, d1, ?_, hbb, InP_below hbb Hk2.out, InP_below hbb Hk1.out, ⟨Hxo.out.2, Hxo.out.1⟩, rfl, HGt'.out.1, HGt'.out.2⟩
                rw [hwy]
                exact (Free7.of_heap (set7_heap _ _ _ _ _ _ _ Hh2.out)).1
              clear hwy Hh2 f0 f1 f2 f3 f4 f5 f6 z0 z1 z2 z3 z4 z5 z6 Hbw2
            case' neg =>
              have hm0 : m = 0 := by omega
              have HGx' := hide (HGx.out hm0)
              have hmE : ((m : Int) == 1) = false := by rw [beq_eq_false_iff_ne]; omega
              have hmI : (m : Int) < 2 := by omega
              clear hm0 hm1
              go_wp2_with fail
              rw [← HW1.out]
              obtain ⟨wy, hwy⟩ : ∃ wy, wy = W1 := ⟨_, rfl⟩
              rw [← hwy, ← Hnb.out]
              obtain ⟨y, ya1, yc1, ya2, yc2, Hy7, Hby, Hyi1, Hyi2, Hyo, Hys, HGy, HGn⟩ : ∃ (y : Lit) (ya1 : Option Addr) (yc1 : Nat) (ya2 : Option Addr) (yc2 : Nat), Hid (Free7 wy nb y ya1 yc1 ya2 yc2) ∧ Hid (Below wr.heap.size wr wy) ∧ Hid (InL wy y.2.1.args ya1) ∧ Hid (InL wy y.2.2.args ya2) ∧ Hid ((y.2.1.sz ≤ 120 ∧ okP ar y.2.1) ∧ (y.2.2.sz ≤ 120 ∧ okP ar y.2.2)) ∧ Hid (y.1 = x.1) ∧ Hid (G y = true → P x = true) ∧ Hid (G y = false → (1 ≤ m + 1 → G x = false) ∧ (2 ≤ m + 1 → G (turnL x) = false)) := by
                rw [hwy]
                exact ⟨x, b1, d1, b2, d2, (Free7.of_heap HyA.out).1, HbW1.out, InP_below HbW1.out Hk1.out, InP_below HbW1.out Hk2.out, Hxo.out, rfl, HGx'.out.1, HGx'.out.2⟩
              clear hwy
            all_goals (
              clear p0 p1 p2 p3 p4 p5 p6 HyA HbW1 HGx HGt Hk1 Hk2 HW1 Hm1 Hm2
              have HBy := hide (HbW.out.trans (Hby.out.mono HbW.out.size))
              obtain ⟨t0, t1, t2, t3, t4, t5, t6⟩ := Hy7.out
              obtain ⟨r0, r1, r2, r3, r4, r5, r6⟩ := HA.out.below HBy.out
              have HGy0 : Hid (G y = nextF (coversF d c) (tryF l y bs)) := by show _ = _; rw [HG.out]
              rcases Decidable.em (y.1 = l.1) with hyl | hyl
              · have hyl' : (l.1 != l.1) = false := by simp
                have Hyl := hide hyl
                rw [hyl] at t0
                clear hyl
                go_quiet (fail)
                go_wp2_with fail
                obtain ⟨wz, hwz⟩ : ∃ wz, wz = wy.drewN nq := ⟨_, rfl⟩
                rw [← hwz]
                have hyz : Below wy.heap.size wy wz := by rw [hwz]; exact below_drewN (Below.refl _ _) _
                have Hyz := hide hyz
                have Hbz := hide (Hbi.out.trans ((Hby.out.trans (hyz.mono Hby.out.size)).mono Hbi.out.size))
                have HBz := hide (HBy.out.trans (hyz.mono HBy.out.size))
                have hS := hide (fun (w' : World) (hb : Below wz.heap.size wz w') => (show w'.cell? ⟨b, off + 1, none⟩ = some (.int .i64 l.2.1.v) ∧ w'.cell? ⟨b, off + 1 + 1, none⟩ = some (.int .i64 l.2.1.f) ∧ w'.cell? ⟨b, off + 1 + 2, none⟩ = some (.slice a1 l.2.1.args.length c1) ∧ w'.cell? ⟨nb, 1, none⟩ = some (.int .i64 y.2.1.v) ∧ w'.cell? ⟨nb, 2, none⟩ = some (.int .i64 y.2.1.f) ∧ w'.cell? ⟨nb, 3, none⟩ = some (.slice ya1 y.2.1.args.length yc1) from by
                  obtain ⟨_, q1, q2, q3, _, _, _⟩ := HA.out.below (HBz.out.trans (hb.mono HBz.out.size))
                  exact ⟨q1, q2, q3, cell_below hb (cell_below hyz t1), cell_below hb (cell_below hyz t2), cell_below hb (cell_below hyz t3)⟩))
                have HU := hide (And.intro (cell_below hyz t4) (And.intro (cell_below hyz t5) (cell_below hyz t6)))
                have HGr0 := hide (fun (w' : World) (hb : Below wz.heap.size wz w') (hg : growT l.2.1 y.2.1 bs = none) => grow_no hg a1 c1 ya1 yc1 ba bc w' (by have := Hlo.out.1.1; omega) Hlo.out.1.2 Hyo.out.1.2 (by have := Hyo.out.1.1; omega) Hbz0.out Hsh.out (Binds_below (HBz.out.trans (hb.mono HBz.out.size)) Hbs.out) (InP_below (HBz.out.trans (hb.mono HBz.out.size)) Hi1.out) (InP_below hb (InP_below hyz Hyi1.out)))
                have HGr1 := hide (fun (w' : World) (hb : Below wz.heap.size wz w') (m1 : List (Int × T)) (hg : growT l.2.1 y.2.1 bs = some m1) => grow_yes hg a1 c1 ya1 yc1 ba bc w' (by have := Hlo.out.1.1; omega) Hlo.out.1.2 Hyo.out.1.2 (by have := Hyo.out.1.1; omega) Hbz0.out Hsh.out (Binds_below (HBz.out.trans (hb.mono HBz.out.size)) Hbs.out) (InP_below (HBz.out.trans (hb.mono HBz.out.size)) Hi1.out) (InP_below hb (InP_below hyz Hyi1.out)))
                obtain ⟨s1, s2, s3, s4, s5, s6⟩ := hS.out wz (Below.refl _ _)
                clear hwz hyz t0 t1 t2 t3 t4 t5 t6 r0 r1 r2 r3 r4 r5 r6 hyl'
                cases hg1 : growT l.2.1 y.2.1 bs with
                | none =>
                  have Hno := hide (HGn.out (by rw [HGy0.out, try_no1 hg1]; rfl))
                  have HGr := hide (fun w' hb => HGr0.out w' hb hg1)
                  clear hg1 HGr0 HGr1
                  go_region_held3 (fun w' => w'.cell? ⟨b, off + 1, none⟩ = some (.int .i64 l.2.1.v) ∧ w'.cell? ⟨b, off + 1 + 1, none⟩ = some (.int .i64 l.2.1.f) ∧ w'.cell? ⟨b, off + 1 + 2, none⟩ = some (.slice a1 l.2.1.args.length c1) ∧ w'.cell? ⟨nb, 1, none⟩ = some (.int .i64 y.2.1.v) ∧ w'.cell? ⟨nb, 2, none⟩ = some (.int .i64 y.2.1.f) ∧ w'.cell? ⟨nb, 3, none⟩ = some (.slice ya1 y.2.1.args.length yc1)) ((first | (refine hS.out _ ?_; (repeat' (first | with_reducible exact Hid.out ‹Hid (Below _ _ _)› | with_reducible exact Below.refl _ _ | (with_reducible refine Below.drew ?_))); done) | go_keep)) ((first
                  | (go_at_call 58
                     with_reducible refine (HGr.out _ ?_).mono ?_
                     · (repeat' (first | with_reducible exact Below.refl _ _ | (with_reducible refine Below.drew ?_)))
                     rintro e xA ⟨⟨ga1, gn1, gc1, rfl⟩, hbq⟩
                     have HxA : Hid (Below wz.heap.size wz xA) := by
                       refine Below.trans (b := _) ?_ (hbq.mono ?_)
                       · (repeat' (first | with_reducible exact Below.refl _ _ | (with_reducible refine Below.drew ?_)))
                       · first | omega | (simp; omega) | (simp; done)
                     clear hbq)))
                  go_wp2_with fail
                  go_roundw
                  case rel => exact ⟨m + 1, by omega, by go_num, Hno.out.1, Hno.out.2, hide (Hbz.out.trans (HxA.out.mono Hbz.out.size))⟩
                  case measure => simp [intOf]; omega
                | some m1 =>
                  have HGr := hide (fun w' hb => HGr1.out w' hb m1 hg1)
                  have hl1 := (grow_size _).1 _ _ _ _ (Nat.le_refl _) hg1
                  have Hl1 : Hid (m1.length ≤ bs.length + 120) := by show _ ≤ _; have := Hlo.out.1.1; omega
                  have Hz1 := hide ((grow_sz 1000 _).1 _ _ _ _ (Nat.le_refl _) (by have := Hyo.out.1.1; omega) hg1 Hbz0.out)
                  have Hg1 := hide hg1
                  clear hg1 HGr0 HGr1 hl1
                  go_region_held3 (fun w' => w'.cell? ⟨b, off + 1, none⟩ = some (.int .i64 l.2.1.v) ∧ w'.cell? ⟨b, off + 1 + 1, none⟩ = some (.int .i64 l.2.1.f) ∧ w'.cell? ⟨b, off + 1 + 2, none⟩ = some (.slice a1 l.2.1.args.length c1) ∧ w'.cell? ⟨nb, 1, none⟩ = some (.int .i64 y.2.1.v) ∧ w'.cell? ⟨nb, 2, none⟩ = some (.int .i64 y.2.1.f) ∧ w'.cell? ⟨nb, 3, none⟩ = some (.slice ya1 y.2.1.args.length yc1)) ((first | (refine hS.out _ ?_; (repeat' (first | with_reducible exact Hid.out ‹Hid (Below _ _ _)› | with_reducible exact Below.refl _ _ | (with_reducible refine Below.drew ?_))); done) | go_keep)) ((first
                  | (go_at_call 58
                     with_reducible refine (HGr.out _ ?_).mono ?_
                     · (repeat' (first | with_reducible exact Below.refl _ _ | (with_reducible refine Below.drew ?_)))
                     rintro e xA ⟨⟨ga1, gc1, rfl, hsg, hbg⟩, hbq⟩
                     have HxA : Hid (Below wz.heap.size wz xA) := by
                       refine Below.trans (b := _) ?_ (hbq.mono ?_)
                       · (repeat' (first | with_reducible exact Below.refl _ _ | (with_reducible refine Below.drew ?_)))
                       · first | omega | (simp; omega) | (simp; done)
                     have Hsg := hide hsg
                     have Hbg := hide hbg
                     clear hsg hbg
                     clear hbq)))
                  have HBA := hide (HBz.out.trans (HxA.out.mono HBz.out.size))
                  have HbA := hide (Hbz.out.trans (HxA.out.mono Hbz.out.size))
                  have Hia := hide (InP_below HxA.out (InP_below Hyz.out Hyi2.out))
                  clear hS s1 s2 s3 s4 s5 s6 HGr
                  have hS := hide (fun (w' : World) (hb : Below xA.heap.size xA w') => (show w'.cell? ⟨b, off + 4, none⟩ = some (.int .i64 l.2.2.v) ∧ w'.cell? ⟨b, off + 4 + 1, none⟩ = some (.int .i64 l.2.2.f) ∧ w'.cell? ⟨b, off + 4 + 2, none⟩ = some (.slice a2 l.2.2.args.length c2) ∧ w'.cell? ⟨nb, 4, none⟩ = some (.int .i64 y.2.2.v) ∧ w'.cell? ⟨nb, 5, none⟩ = some (.int .i64 y.2.2.f) ∧ w'.cell? ⟨nb, 6, none⟩ = some (.slice ya2 y.2.2.args.length yc2) from by
                    obtain ⟨_, _, _, _, q1, q2, q3⟩ := HA.out.below (HBA.out.trans (hb.mono HBA.out.size))
                    exact ⟨q1, q2, q3, cell_below hb (cell_below HxA.out HU.out.1), cell_below hb (cell_below HxA.out HU.out.2.1), cell_below hb (cell_below HxA.out HU.out.2.2)⟩))
                  obtain ⟨s1, s2, s3, s4, s5, s6⟩ := hS.out xA (Below.refl _ _)
                  have HGr0 := hide (fun (w' : World) (hb : Below xA.heap.size xA w') (hg : growT l.2.2 y.2.2 m1 = none) => grow_no hg a2 c2 ya2 yc2 ga1 gc1 w' (by have := Hlo.out.2.1; have := Hl1.out; omega) Hlo.out.2.2 Hyo.out.2.2 (by have := Hyo.out.2.1; omega) Hz1.out Hsg.out (Binds_below hb Hbg.out) (InP_below (HBA.out.trans (hb.mono HBA.out.size)) Hi2.out) (InP_below hb Hia.out))
                  have HGr1 := hide (fun (w' : World) (hb : Below xA.heap.size xA w') (m2 : List (Int × T)) (hg : growT l.2.2 y.2.2 m1 = some m2) => grow_yes hg a2 c2 ya2 yc2 ga1 gc1 w' (by have := Hlo.out.2.1; have := Hl1.out; omega) Hlo.out.2.2 Hyo.out.2.2 (by have := Hyo.out.2.1; omega) Hz1.out Hsg.out (Binds_below hb Hbg.out) (InP_below (HBA.out.trans (hb.mono HBA.out.size)) Hi2.out) (InP_below hb Hia.out))
                  go_wp2_with fail
                  cases hg2 : growT l.2.2 y.2.2 m1 with
                  | none =>
                    have Hno := hide (HGn.out (by rw [HGy0.out, try_no2 Hg1.out hg2]; rfl))
                    have HGr := hide (fun w' hb => HGr0.out w' hb hg2)
                    clear hg2 HGr0 HGr1
                    go_region_held3 (fun w' => w'.cell? ⟨b, off + 4, none⟩ = some (.int .i64 l.2.2.v) ∧ w'.cell? ⟨b, off + 4 + 1, none⟩ = some (.int .i64 l.2.2.f) ∧ w'.cell? ⟨b, off + 4 + 2, none⟩ = some (.slice a2 l.2.2.args.length c2) ∧ w'.cell? ⟨nb, 4, none⟩ = some (.int .i64 y.2.2.v) ∧ w'.cell? ⟨nb, 5, none⟩ = some (.int .i64 y.2.2.f) ∧ w'.cell? ⟨nb, 6, none⟩ = some (.slice ya2 y.2.2.args.length yc2)) ((first | (refine hS.out _ ?_; (repeat' (first | with_reducible exact Hid.out ‹Hid (Below _ _ _)› | with_reducible exact Below.refl _ _ | (with_reducible refine Below.drew ?_))); done) | go_keep)) ((first
                  | (go_at_call 58
                     with_reducible refine (HGr.out _ ?_).mono ?_
                     · (repeat' (first | with_reducible exact Below.refl _ _ | (with_reducible refine Below.drew ?_)))
                     rintro e xB ⟨⟨ga2, gn2, gc2, rfl⟩, hbq⟩
                     have HxB : Hid (Below xA.heap.size xA xB) := by
                       refine Below.trans (b := _) ?_ (hbq.mono ?_)
                       · (repeat' (first | with_reducible exact Below.refl _ _ | (with_reducible refine Below.drew ?_)))
                       · first | omega | (simp; omega) | (simp; done)
                     clear hbq)))
                    go_wp2_with fail
                    go_roundw
                    case rel => exact ⟨m + 1, by omega, by go_num, Hno.out.1, Hno.out.2, hide (HbA.out.trans (HxB.out.mono HbA.out.size))⟩
                    case measure => simp [intOf]; omega
                  | some m2 =>
                    have HGr := hide (fun w' hb => HGr1.out w' hb m2 hg2)
                    have hl2 := (grow_size _).1 _ _ _ _ (Nat.le_refl _) hg2
                    have Hl2 : Hid (m2.length ≤ bs.length + 240) := by show _ ≤ _; have := Hlo.out.2.1; have := Hl1.out; omega
                    have Hz2 := hide ((grow_sz 1000 _).1 _ _ _ _ (Nat.le_refl _) (by have := Hyo.out.2.1; omega) hg2 Hz1.out)
                    have HGy2 : Hid (G y = coversF d c m2) := by show _ = _; rw [HGy0.out, try_yes Hyl.out Hg1.out hg2]; rfl
                    clear hg2 HGr0 HGr1 hl2
                    go_region_held3 (fun w' => w'.cell? ⟨b, off + 4, none⟩ = some (.int .i64 l.2.2.v) ∧ w'.cell? ⟨b, off + 4 + 1, none⟩ = some (.int .i64 l.2.2.f) ∧ w'.cell? ⟨b, off + 4 + 2, none⟩ = some (.slice a2 l.2.2.args.length c2) ∧ w'.cell? ⟨nb, 4, none⟩ = some (.int .i64 y.2.2.v) ∧ w'.cell? ⟨nb, 5, none⟩ = some (.int .i64 y.2.2.f) ∧ w'.cell? ⟨nb, 6, none⟩ = some (.slice ya2 y.2.2.args.length yc2)) ((first | (refine hS.out _ ?_; (repeat' (first | with_reducible exact Hid.out ‹Hid (Below _ _ _)› | with_reducible exact Below.refl _ _ | (with_reducible refine Below.drew ?_))); done) | go_keep)) ((first
                  | (go_at_call 58
                     with_reducible refine (HGr.out _ ?_).mono ?_
                     · (repeat' (first | with_reducible exact Below.refl _ _ | (with_reducible refine Below.drew ?_)))
                     rintro e xB ⟨⟨ga2, gc2, rfl, hsg2, hbg2⟩, hbq⟩
                     have HxB : Hid (Below xA.heap.size xA xB) := by
                       refine Below.trans (b := _) ?_ (hbq.mono ?_)
                       · (repeat' (first | with_reducible exact Below.refl _ _ | (with_reducible refine Below.drew ?_)))
                       · first | omega | (simp; omega) | (simp; done)
                     have Hsg2 := hide hsg2
                     have Hbg2 := hide hbg2
                     clear hsg2 hbg2
                     clear hbq)))
                    have HBB := hide (HBA.out.trans (HxB.out.mono HBA.out.size))
                    have HbB := hide (HbA.out.trans (HxB.out.mono HbA.out.size))
                    have HI := hide (Hih.out m2 ga2 gc2 xB HBB.out Hl2.out Hz2.out Hsg2.out Hbg2.out)
                    clear hS s1 s2 s3 s4 s5 s6 HGr
                    obtain ⟨V, hV⟩ : ∃ V, V = coversF d c m2 := ⟨_, rfl⟩
                    rw [← hV] at HI HGy2
                    clear hV
                    go_wp2_with fail
                    refine HI.out.mono ?_
                    rintro e w9 ⟨rfl, hb9⟩
                    have HB9 := hide (HBB.out.trans (hb9.mono HBB.out.size))
                    have Hb9 := hide (HbB.out.trans (hb9.mono HbB.out.size))
                    clear hb9 HI
                    cases V with
                    | true =>
                      have Hyes := hide (Hst.out.2 (HGy.out HGy2.out))
                      go_wp2_with fail
                      go_ret
                      exact ⟨ret_bool (by rw [Hyes.out]), HB9.out⟩
                    | false =>
                      have Hno := hide (HGn.out HGy2.out)
                      go_wp2_with fail
                      go_roundw
                      case rel => exact ⟨m + 1, by omega, by go_num, Hno.out.1, Hno.out.2, Hb9⟩
                      case measure => simp [intOf]; omega
              · have hyl' : ((!l.1) != l.1) = true := by cases l.1 <;> rfl
                have hyl2 : y.1 = !l.1 := by revert hyl; cases y.1 <;> cases l.1 <;> simp
                rw [hyl2] at t0
                have Hno := hide (HGn.out (by rw [HGy0.out, try_no0 hyl]; rfl))
                clear hyl hyl2
                go_quiet (fail)
                go_wp2_with fail
                go_roundw
                case rel => exact ⟨m + 1, by omega, by go_num, Hno.out.1, Hno.out.2, hide (below_drewN (Hbi.out.trans (Hby.out.mono Hbi.out.size)) _)⟩
                case measure => simp [intOf]; omega)
          · have hm3 : m = 2 := by omega
            subst hm3
            have Hn := hide (Hst.out.1 (by rw [HPx.out, Hm1.out (by omega), Hm2.out (by omega)]; rfl))
            go_wp2_with fail
            go_roundw
            case rel => exact ⟨k + 1, by omega, by go_num, Hn, HbW⟩
            case measure => simp [intOf]; omega
      · have hk2 : k = d.length := by omega
        subst hk2
        rw [List.take_length] at Hk
        go_wp2_with fail
        go_ret
        exact ⟨ret_bool (by rw [Hk.out]), Hb.out⟩
end Go.Proofs.YtbkedppkdhfpoabGreat

namespace Go.Proofs.YtbkedppkdhfpoabGreat
open Go.RowKit

theorem OutsL_stepV {q : Nat → Prop} {base : Nat} {w w' : World} {l v' : Value} {c : List Lit} {x : Lit} {xs : List Value} {a1 : Option Addr} {c1 : Nat} {a2 : Option Addr} {c2 : Nat} (hk : KidsL (fun k => (q k ∨ base ≤ k) ∧ l.ownBlock ≠ some k) w c xs)
    (hc : InP (fun k => (q k ∨ base ≤ k) ∧ l.ownBlock ≠ some k) w x.2.1.args a1) (hc2 : InP (fun k => (q k ∨ base ≤ k) ∧ l.ownBlock ≠ some k) w x.2.2.args a2)
    (hown : w'.ownsRow base 79 7 v' (c.length + 1) (xs ++ [.bool x.1, .int .i64 x.2.1.v, .int .i64 x.2.1.f, .slice a1 x.2.1.args.length c1, .int .i64 x.2.2.v, .int .i64 x.2.2.f, .slice a2 x.2.2.args.length c2])) (hg : w.grownBy w' l.ownBlock) (hat : v'.ownBlock = l.ownBlock ∨ v'.ownBlock = some w.heap.size) :
    OutsL q base w' v' (c ++ [x]) := by
  refine ⟨_, by rw [List.length_append]; exact hown, KidsL_mono (p := fun k => (q k ∨ base ≤ k) ∧ l.ownBlock ≠ some k) (w := w) (fun k hp hlt => ⟨⟨hp.1, ?_⟩, hg.block k hlt (fun e => hp.2 e.symm)⟩) (KidsL_append hk ⟨a1, c1, a2, c2, [], rfl, hc, hc2, rfl⟩)⟩
  rcases hat with hat | hat
  · rw [hat]; exact hp.2
  · rw [hat]; intro e; cases e; omega
theorem mapC_len (f : T → T) (c : List Lit) : (mapC f c).length = c.length := by rw [mapC, List.length_map]
theorem mapC_step {f : T → T} {c : List Lit} {k : Nat} {x : Lit} (h : c[k]? = some x) : mapC f (c.take (k + 1)) = mapC f (c.take k) ++ [(x.1, f x.2.1, f x.2.2)] := by
  rw [List.take_add_one, h, mapC, mapC, List.map_append]; rfl
theorem seven_src {w : World} {v0 v1 v2 v3 v4 v5 v6 : Value} {e : TypeId} {n : Nat} (hn : n = w.heap.size) : ∀ (j : Nat) (u : Value), [v0, v1, v2, v3, v4, v5, v6][j]? = some u → (w.alloc (.cells #[v0, v1, v2, v3, v4, v5, v6] e)).cell? ⟨n, 0 + j, none⟩ = some u := by
  intro j u h
  rw [Nat.zero_add, cell_new j hn]
  simpa using h
theorem appEnd {w wr xA xB Y wD : World} {C D : List Lit} {y : Bool} {A B : T} {k lc : Nat} {la : Option Addr} {xs : List Value} {aA : Option Addr} {capA : Nat} {aB : Option Addr} {capB : Nat} {v' : Value} (hb : Below w.heap.size w wr)
    (Hown : ∀ Y : World, Below wr.heap.size wr Y → Y.ownsRow w.heap.size 79 7 (.slice la k lc) k xs ∧ KidsL (fun j => (j < w.heap.size ∨ w.heap.size ≤ j) ∧ (Value.slice la k lc).ownBlock ≠ some j) Y C xs)
    (Hob : ∀ g : Nat, (Value.slice la k lc).ownBlock = some g → w.heap.size ≤ g ∧ g < wr.heap.size) (hwA : Below wr.heap.size wr xA) (hwAB : Below xA.heap.size xA xB) (hY : Below xB.heap.size xB Y)
    (hiA : InP (fun j => j < w.heap.size ∨ wr.heap.size ≤ j) xA A.args aA) (hiB : InP (fun j => j < w.heap.size ∨ xA.heap.size ≤ j) xB B.args aB) (hml : C.length = k) (hst : D = C ++ [(y, A, B)])
    (hown' : wD.ownsRow w.heap.size 79 7 v' (k + 1) (xs ++ [.bool y, .int .i64 A.v, .int .i64 A.f, .slice aA A.args.length capA, .int .i64 B.v, .int .i64 B.f, .slice aB B.args.length capB])) (hgr : Y.grownBy wD (Value.slice la k lc).ownBlock) (hat : v'.ownBlock = (Value.slice la k lc).ownBlock ∨ v'.ownBlock = some Y.heap.size) :
    OutsL (fun j => j < w.heap.size) w.heap.size wD v' D := by
  have hAY : Below xA.heap.size xA Y := hwAB.trans (hY.mono hwAB.size)
  have hwY : Below wr.heap.size wr Y := hwA.trans (hAY.mono hwA.size)
  have h1 := hb.size
  have h2 := hwA.size
  rw [hst]
  refine OutsL_stepV (w := Y) (l := .slice la k lc) (x := (y, A, B)) (Hown Y hwY).2 (InP_imp (fun j hj => ⟨by omega, fun e => ?_⟩) (InP_below hAY hiA)) (InP_imp (fun j hj => ⟨by omega, fun e => ?_⟩) (InP_below hY hiB)) (by rw [hml]; exact hown') hgr hat
  · have := Hob j e; omega
  · have := Hob j e; omega
attribute [local go_sem ↓] Go.wp_at_zero Go.wp_at_succ
set_option maxRecDepth 100000 in
set_option maxHeartbeats 4000000 in
theorem applyClause_any (ar : List Int) (bs : List (Int × T)) (ba : Option Addr) (bc : Nat) (c : List Lit) (ca : Option Addr) (cc : Nat) (w : World) (hbl : bs.length ≤ 9223372036854775807) (hl : c.length ≤ 1000) (hco : LitsOk ar c) (hbs : Binds (fun _ => True) w bs ba) (hc : LitsP w c ca) :
    Calls Tryz.prog 56 #[.slice ba bs.length bc, .slice ca c.length cc] w fun e w' => (∃ a cap, e = .returned (.slice a c.length cap) ∧ LitsP w' (mapC (applyT bs) c) a) ∧ Below w.heap.size w w' := by
  have Hbs := hide (Binds_imp (q := fun k => k < w.heap.size) (fun _ h => h.2) (Binds_lt hbs))
  have Hc := hide (LitsP_lt hc)
  have Hco := hide hco
  clear hbs hc hco
  go_enter Tryz.func56, Tryz.ntmps56
  go_wp2_with fail
  go_loopw [5, 6] (fun lv i wr => ∃ k : Nat, k ≤ c.length ∧ i = .int .i64 k ∧ Hid (OutsL (fun j => j < w.heap.size) w.heap.size wr lv (mapC (applyT bs) (c.take k))) ∧ Hid (Below w.heap.size w wr)) (fun _ i _ => c.length - (intOf i).toNat)
  case atStart => exact ⟨0, Nat.zero_le _, rfl, OutsL_nil, Below.refl _ _⟩
  case round =>
    obtain ⟨k, hk, rfl, Hout, Hb⟩ := hrel
    have hzr := Hb.out.size
    by_cases hlt : k < c.length
    · obtain ⟨b, off, rfl⟩ := LitsP_some (LitsQ_lits Hc.out) (by omega)
      obtain ⟨x, hx⟩ : ∃ x, c[k]? = some x := ⟨c[k], List.getElem?_eq_getElem hlt⟩
      obtain ⟨a1, c1, a2, c2, hbb, k0, k1, k2, k3, k4, k5, k6, hi1, hi2⟩ := LitsQ_at Hc.out hx
      have hxo := Hco.out x (List.mem_of_getElem? hx)
      have hA : At7 w b (off + k * 7) x a1 c1 a2 c2 := ⟨k0, k1, k2, k3, k4, k5, k6⟩
      have HA1 := hide (fun (w' : World) (hb : Below w.heap.size w w') => applyOf_any ar (fun j => j < w.heap.size) bs ba bc hbl (x.2.1.sz + 1) x.2.1 a1 c1 w' (Nat.lt_succ_self _) (fun j hj => Nat.lt_of_lt_of_le hj hb.size) (Binds_below hb Hbs.out) hxo.1.2 (by have := hxo.1.1; omega) (InP_below hb hi1))
      have HA2 := hide (fun (w' : World) (hb : Below w.heap.size w w') => applyOf_any ar (fun j => j < w.heap.size) bs ba bc hbl (x.2.2.sz + 1) x.2.2 a2 c2 w' (Nat.lt_succ_self _) (fun j hj => Nat.lt_of_lt_of_le hj hb.size) (Binds_below hb Hbs.out) hxo.2.2 (by have := hxo.2.1; omega) (InP_below hb hi2))
      have Hst := hide (mapC_step (f := applyT bs) hx)
      have hS := hide (fun (w' : World) (hb : Below w.heap.size w w') => (show w'.cell? ⟨b, off + k * 7, none⟩ = some (.bool x.1) ∧ w'.cell? ⟨b, off + k * 7 + 1, none⟩ = some (.int .i64 x.2.1.v) ∧ w'.cell? ⟨b, off + k * 7 + 1 + 1, none⟩ = some (.int .i64 x.2.1.f) ∧ w'.cell? ⟨b, off + k * 7 + 1 + 2, none⟩ = some (.slice a1 x.2.1.args.length c1) ∧ w'.cell? ⟨b, off + k * 7 + 4, none⟩ = some (.int .i64 x.2.2.v) ∧ w'.cell? ⟨b, off + k * 7 + 4 + 1, none⟩ = some (.int .i64 x.2.2.f) ∧ w'.cell? ⟨b, off + k * 7 + 4 + 2, none⟩ = some (.slice a2 x.2.2.args.length c2) from hA.below hb))
      obtain ⟨p0, p1, p2, p3, p4, p5, p6⟩ := hS.out wr Hb.out
      obtain ⟨xs, hown, hkids⟩ := Hout.out
      have Hown := hide (fun (Y : World) (hb : Below wr.heap.size wr Y) => And.intro (own_same hown (fun g hg => hb.block g (own_lt hown g hg).2)) (KidsL_mono (w' := Y) (fun j hj hlt => ⟨hj, hb.block j hlt⟩) hkids))
      have Hob := hide (fun (g : Nat) (hg : u5.ownBlock = some g) => own_lt hown g hg)
      obtain ⟨la, lc, hlv⟩ := own_shape hown
      rw [mapC_len, List.length_take, Nat.min_eq_left (by omega : k ≤ c.length)] at hlv
      have hml : (mapC (applyT bs) (c.take k)).length = k := by rw [mapC_len, List.length_take]; omega
      rw [hml] at Hown
      have Hml := hide hml
      have hkI : (k : Int) < c.length := by omega
      have hk0 : (0 : Int) ≤ k := by omega
      obtain ⟨A, hAe⟩ : ∃ A, A = applyT bs x.2.1 := ⟨_, rfl⟩
      obtain ⟨B, hBe⟩ : ∃ B, B = applyT bs x.2.2 := ⟨_, rfl⟩
      rw [← hAe] at HA1 Hst
      rw [← hBe] at HA2 Hst
      clear hx hA hxo hi1 hi2 k0 k1 k2 k3 k4 k5 k6 hown hkids Hout hAe hBe hml
      subst hlv
      go_wp2_with fail
      go_region_held3 (fun w' => w'.cell? ⟨b, off + k * 7, none⟩ = some (.bool x.1) ∧ w'.cell? ⟨b, off + k * 7 + 1, none⟩ = some (.int .i64 x.2.1.v) ∧ w'.cell? ⟨b, off + k * 7 + 1 + 1, none⟩ = some (.int .i64 x.2.1.f) ∧ w'.cell? ⟨b, off + k * 7 + 1 + 2, none⟩ = some (.slice a1 x.2.1.args.length c1) ∧ w'.cell? ⟨b, off + k * 7 + 4, none⟩ = some (.int .i64 x.2.2.v) ∧ w'.cell? ⟨b, off + k * 7 + 4 + 1, none⟩ = some (.int .i64 x.2.2.f) ∧ w'.cell? ⟨b, off + k * 7 + 4 + 2, none⟩ = some (.slice a2 x.2.2.args.length c2)) ((first | (refine hS.out _ ?_; (repeat' (first | with_reducible exact HfD.out | with_reducible exact HfB.out | with_reducible exact HfA.out | with_reducible exact Hb.out | (with_reducible refine Below.drew ?_) | (refine Below.alloc ?_ ?_ _; rotate_left; focus (first | omega | (simp; omega) | (simp; done))))); done) | go_keep)) ((first
        | (go_at_call 120
           with_reducible refine (HA1.out _ ?_).mono ?_
           · (repeat' (first | with_reducible exact Hb.out | (with_reducible refine Below.drew ?_)))
           rintro e xA ⟨aA, capA, rfl, hiA, hbA⟩
           have HwA : Hid (Below wr.heap.size wr xA) := by
             refine Below.trans (b := _) ?_ (hbA.mono ?_)
             · (repeat' (first | with_reducible exact Below.refl _ _ | (with_reducible refine Below.drew ?_)))
             · first | omega | (simp; omega) | (simp; done)
           have HfA := hide (Hb.out.trans (HwA.out.mono Hb.out.size))
           have HiA : Hid (InP (fun j => j < w.heap.size ∨ wr.heap.size ≤ j) xA A.args aA) := hiA
           have hzA := HwA.out.size
           clear hbA hiA)
        | (go_at_call 120
           with_reducible refine (HA2.out _ ?_).mono ?_
           · (repeat' (first | with_reducible exact HfA.out | (with_reducible refine Below.drew ?_)))
           rintro e xB ⟨aB, capB, rfl, hiB, hbB⟩
           have HwAB : Hid (Below xA.heap.size xA xB) := by
             refine Below.trans (b := _) ?_ (hbB.mono ?_)
             · (repeat' (first | with_reducible exact Below.refl _ _ | (with_reducible refine Below.drew ?_)))
             · first | omega | (simp; omega) | (simp; done)
           have HwB := hide (HwA.out.trans (HwAB.out.mono HwA.out.size))
           have HfB := hide (HfA.out.trans (HwAB.out.mono HfA.out.size))
           have HiB : Hid (InP (fun j => j < w.heap.size ∨ xA.heap.size ≤ j) xB B.args aB) := hiB
           have hzB := HwAB.out.size
           clear hbB hiB)
        | (refine step_append_l rfl (.tmp 13) (.tmp 34) rfl w.heap.size k 1 (.slice la k lc) xs [.bool x.1, .int .i64 A.v, .int .i64 A.f, .slice aA A.args.length capA, .int .i64 B.v, .int .i64 B.f, .slice aB B.args.length capB] rfl (Hown.out _ ?_).1 _ rfl ?_ ?_ ?_ ?_
           · (repeat' (first | with_reducible exact HwB.out | (with_reducible refine Below.drew ?_) | (refine Below.alloc ?_ ?_ _; rotate_left; focus (first | omega | (simp; omega) | (simp; done)))))
           · refine Or.inr ⟨_, 0, 1, rfl, rfl, ?_, ?_⟩
             · exact seven_src rfl
             · intro u hu
               simp only [List.mem_cons, List.not_mem_nil, or_false] at hu
               rcases hu with rfl | rfl | rfl | rfl | rfl | rfl | rfl <;> rfl
           · omega
           · first | omega | (simp; omega)
           intro v' wD hown' hgr hat
           have HfD : Hid (Below w.heap.size w wD) := by
             refine Below.grown ?_ hgr (by first | omega | (simp; omega)) (fun j hj => (Hob.out j hj).1)
             (repeat' (first | with_reducible exact HfB.out | (with_reducible refine Below.drew ?_) | (refine Below.alloc ?_ ?_ _; rotate_left; focus (first | omega | (simp; omega) | (simp; done)))))
           have HoD : Hid (OutsL (fun j => j < w.heap.size) w.heap.size wD v' (mapC (applyT bs) (c.take (k + 1)))) := by
             refine appEnd Hb.out Hown.out Hob.out HwA.out HwAB.out ?_ HiA.out HiB.out Hml.out Hst.out hown' hgr hat
             (repeat' (first | with_reducible exact Below.refl _ _ | (with_reducible refine Below.drew ?_) | (refine Below.alloc ?_ ?_ _; rotate_left; focus (first | omega | (simp; omega) | (simp; done)))))
           clear hown' hgr hat)))
      all_goals (
        go_wp2_with fail
        go_roundw
        case rel => exact ⟨k + 1, by omega, by go_num, HoD, HfD⟩
        case measure => simp [intOf]; omega)
    · have hk2 : k = c.length := by omega
      subst hk2
      rw [List.take_length] at Hout
      obtain ⟨la, lc, rfl, hlq⟩ := OutsL_end Hout.out
      rw [mapC_len]
      have Hlq := hide (LitsQ_lits hlq)
      clear hlq Hout
      go_wp2_with fail
      go_ret
      exact ⟨⟨la, lc, rfl, Hlq.out⟩, Hb.out⟩
end Go.Proofs.YtbkedppkdhfpoabGreat

namespace Go.Proofs.YtbkedppkdhfpoabGreat
open Go.RowKit

theorem needD_len {c : List Lit} : ∀ (k : Nat), (needD c k).length ≤ k := by
  intro k
  induction k with
  | zero => exact Nat.le_refl _
  | succ k ih =>
    cases hx : c[k]? with
    | none => rw [needD, hx]; exact Nat.le_succ_of_le ih
    | some x =>
      rw [needD_step hx]
      split
      · exact Nat.le_succ_of_le ih
      · rw [List.length_append]; exact Nat.add_le_add_right ih 1
theorem terms_sz {ar : List Int} : ∀ {c : List Lit}, LitsOk ar c → T.sz.szL (termsOf c) ≤ 240 * c.length := by
  intro c
  induction c with
  | nil => intro _; exact Nat.le_refl _
  | cons x c ih =>
    intro h
    have h1 := h x List.mem_cons_self
    have h2 := ih (fun y hy => h y (List.mem_cons_of_mem _ hy))
    have h3 := h1.1.1
    have h4 := h1.2.1
    rw [termsOf, T.szL_cons, T.szL_cons, List.length_cons]
    omega
/-- A literal appended to what is kept. -/
theorem keepEnd {w wi Y wD : World} {C : List Lit} {x : Lit} {n lc : Nat} {la : Option Addr} {xs : List Value} {a1 : Option Addr} {c1 : Nat} {a2 : Option Addr} {c2 : Nat} {v' : Value} (hb : Below w.heap.size w wi)
    (hk : KidsL (fun j => (j < w.heap.size ∨ w.heap.size ≤ j) ∧ (Value.slice la n lc).ownBlock ≠ some j) wi C xs) (Hob : ∀ g : Nat, (Value.slice la n lc).ownBlock = some g → w.heap.size ≤ g) (hY : Below wi.heap.size wi Y)
    (i1 : InP (fun j => j < w.heap.size) w x.2.1.args a1) (i2 : InP (fun j => j < w.heap.size) w x.2.2.args a2) (hml : C.length = n)
    (hown' : wD.ownsRow w.heap.size 79 7 v' (n + 1) (xs ++ [.bool x.1, .int .i64 x.2.1.v, .int .i64 x.2.1.f, .slice a1 x.2.1.args.length c1, .int .i64 x.2.2.v, .int .i64 x.2.2.f, .slice a2 x.2.2.args.length c2])) (hgr : Y.grownBy wD (Value.slice la n lc).ownBlock) (hat : v'.ownBlock = (Value.slice la n lc).ownBlock ∨ v'.ownBlock = some Y.heap.size) :
    OutsL (fun j => j < w.heap.size) w.heap.size wD v' (C ++ [x]) := by
  have hbY : Below w.heap.size w Y := hb.trans (hY.mono hb.size)
  refine OutsL_stepV (w := Y) (l := .slice la n lc) (KidsL_mono (fun j hj hlt => ⟨hj, hY.block j hlt⟩) hk) (InP_imp (fun j hj => ⟨Or.inl hj, fun e => ?_⟩) (InP_below hbY i1)) (InP_imp (fun j hj => ⟨Or.inl hj, fun e => ?_⟩) (InP_below hbY i2)) (by rw [hml]; exact hown') hgr hat
  · have := Hob j e; omega
  · have := Hob j e; omega
attribute [local go_sem ↓] Go.wp_at_zero Go.wp_at_succ
set_option maxRecDepth 100000 in
set_option maxHeartbeats 8000000 in
theorem tidyOf_any (ar : List Int) (c : List Lit) (ca : Option Addr) (cc : Nat) (w : World) (hl : c.length ≤ 8) (hco : LitsOk ar c) (hc : LitsP w c ca) :
    Calls Tryz.prog 16 #[.slice ca c.length cc] w fun e w' => (∃ a cap, e = .returned (.slice a (tidyD c).length cap) ∧ LitsP w' (tidyD c) a) ∧ Below w.heap.size w w' := by
  have Hc := hide (LitsP_lt hc)
  have Hco := hide hco
  clear hc hco
  go_enter Tryz.func16, Tryz.ntmps16
  go_wp2_with fail
  go_loopw [3, 4] (fun lv i wr => ∃ k : Nat, k ≤ c.length ∧ i = .int .i64 k ∧ Hid (OutsL (fun j => j < w.heap.size) w.heap.size wr lv (needD c k)) ∧ Hid (Below w.heap.size w wr)) (fun _ i _ => c.length - (intOf i).toNat)
  case atStart => exact ⟨0, Nat.zero_le _, rfl, OutsL_nil, Below.refl _ _⟩
  case round =>
    obtain ⟨k, hk, rfl, Hout, Hb⟩ := hrel
    have hzr := Hb.out.size
    by_cases hlt : k < c.length
    · obtain ⟨b, off, rfl⟩ := LitsP_some (LitsQ_lits Hc.out) (by omega)
      obtain ⟨x, hx⟩ : ∃ x, c[k]? = some x := ⟨c[k], List.getElem?_eq_getElem hlt⟩
      obtain ⟨a1, c1, a2, c2, hbb, k0, k1, k2, k3, k4, k5, k6, hi1, hi2⟩ := LitsQ_at Hc.out hx
      have hxo := Hco.out x (List.mem_of_getElem? hx)
      have hA : At7 w b (off + k * 7) x a1 c1 a2 c2 := ⟨k0, k1, k2, k3, k4, k5, k6⟩
      have hA' : L7 w b (off + k * 7) x a1 c1 a2 c2 := ⟨k0, k1, k2, k3, k4, k5, k6⟩
      have HA' := hide hA'
      have Hi1 := hide hi1
      have Hi2 := hide hi2
      have Hst := hide (needD_step hx)
      have HSa := hide (fun (w' : World) (hb : Below w.heap.size w w') => sameTerm_any 1001 x.2.1 x.2.2 a1 c1 a2 c2 w' (by have := hxo.1.1; omega) (by have := hxo.1.1; omega) (InP_imp (fun _ _ => trivial) (InP_below hb hi1)) (InP_imp (fun _ _ => trivial) (InP_below hb hi2)))
      have hS := hide (fun (w' : World) (hb : Below w.heap.size w w') => (show w'.cell? ⟨b, off + k * 7, none⟩ = some (.bool x.1) ∧ w'.cell? ⟨b, off + k * 7 + 1, none⟩ = some (.int .i64 x.2.1.v) ∧ w'.cell? ⟨b, off + k * 7 + 1 + 1, none⟩ = some (.int .i64 x.2.1.f) ∧ w'.cell? ⟨b, off + k * 7 + 1 + 2, none⟩ = some (.slice a1 x.2.1.args.length c1) ∧ w'.cell? ⟨b, off + k * 7 + 4, none⟩ = some (.int .i64 x.2.2.v) ∧ w'.cell? ⟨b, off + k * 7 + 4 + 1, none⟩ = some (.int .i64 x.2.2.f) ∧ w'.cell? ⟨b, off + k * 7 + 4 + 2, none⟩ = some (.slice a2 x.2.2.args.length c2) from hA.below hb))
      obtain ⟨p0, p1, p2, p3, p4, p5, p6⟩ := hS.out wr Hb.out
      obtain ⟨n, hn⟩ : ∃ n, n = (needD c k).length := ⟨_, rfl⟩
      have hnk : n ≤ 8 := by have := needD_len (c := c) k; omega
      obtain ⟨xs, hown, hkids⟩ := Hout.out
      rw [← hn] at hown
      have Hown := hide (And.intro hown hkids)
      have Hob := hide (fun (g : Nat) (hg : u3.ownBlock = some g) => own_lt hown g hg)
      obtain ⟨la, lc, hlv⟩ := own_shape hown
      have Hn := hide hn
      have Hxo := hide hxo
      have hkI : (k : Int) < c.length := by omega
      have hk0 : (0 : Int) ≤ k := by omega
      obtain ⟨S, hSe⟩ : ∃ S, S = sameT x.2.1 x.2.2 := ⟨_, rfl⟩
      rw [← hSe] at HSa
      have HSe := hide hSe
      have Hdr : Hid (∀ m, m ≤ k → dropL (c.take m) x = ((!x.1 && S) || (c.take m).any (fun y => sameLit y x))) := fun m _ => by rw [dropL, HSe.out]
      clear hx hA hA' hxo hi1 hi2 k0 k1 k2 k3 k4 k5 k6 hown hkids hn hSe HSe
      subst hlv
      go_wp2_with fail
      cases hy : x.1
      case' true =>
        rw [hy] at p0 hS
        go_quiet (fail)
        obtain ⟨wj, hwj⟩ : ∃ wj, wj = wr.drewN nq := ⟨_, rfl⟩
        rw [← hwj]
        have Hbj : Hid (Below wr.heap.size wr wj) := by rw [hwj]; exact below_drewN (Below.refl _ _) _
        obtain ⟨D0, hD0⟩ : ∃ D0, D0 = false := ⟨_, rfl⟩
        have HD : Hid ((!x.1 && S) = D0) := by show _ = _; rw [hy, hD0]; rfl
        have H0 := hide hD0
        clear hwj hD0
      case' false =>
        rw [hy] at p0 hS
        go_region_held3 (fun w' => w'.cell? ⟨b, off + k * 7, none⟩ = some (.bool false) ∧ w'.cell? ⟨b, off + k * 7 + 1, none⟩ = some (.int .i64 x.2.1.v) ∧ w'.cell? ⟨b, off + k * 7 + 1 + 1, none⟩ = some (.int .i64 x.2.1.f) ∧ w'.cell? ⟨b, off + k * 7 + 1 + 2, none⟩ = some (.slice a1 x.2.1.args.length c1) ∧ w'.cell? ⟨b, off + k * 7 + 4, none⟩ = some (.int .i64 x.2.2.v) ∧ w'.cell? ⟨b, off + k * 7 + 4 + 1, none⟩ = some (.int .i64 x.2.2.f) ∧ w'.cell? ⟨b, off + k * 7 + 4 + 2, none⟩ = some (.slice a2 x.2.2.args.length c2)) ((first | (refine hS.out _ ?_; (repeat' (first | with_reducible exact HfA.out | with_reducible exact Hb.out | (with_reducible refine Below.drew ?_))); done) | go_keep)) ((first
          | (go_at_call 52
             with_reducible refine (HSa.out _ ?_).mono ?_
             · (repeat' (first | with_reducible exact Hb.out | (with_reducible refine Below.drew ?_)))
             rintro e wj ⟨rfl, hbA⟩
             have Hbj : Hid (Below wr.heap.size wr wj) := by
               refine Below.trans (b := _) ?_ (hbA.mono ?_)
               · (repeat' (first | with_reducible exact Below.refl _ _ | (with_reducible refine Below.drew ?_)))
               · first | omega | (simp; omega) | (simp; done)
             have HfA := hide (Hb.out.trans (Hbj.out.mono Hb.out.size))
             clear hbA)))
        obtain ⟨D0, hD0⟩ : ∃ D0, D0 = S := ⟨_, rfl⟩
        rw [← hD0]
        have HD : Hid ((!x.1 && S) = D0) := by show _ = _; rw [hy, hD0]; rfl
        clear hD0 HfA
      all_goals (
        clear hy hS p0 p1 p2 p3 p4 p5 p6 HSa
        have HbJ := hide (Hb.out.trans (Hbj.out.mono Hb.out.size))
        go_wp2_with fail
        go_loopw [5, 6] (fun dv j wi => ∃ m : Nat, m ≤ k ∧ j = .int .i64 m ∧ dv = .bool (D0 || (c.take m).any (fun y => sameLit y x)) ∧ Hid (Below wj.heap.size wj wi)) (fun _ j _ => k - (intOf j).toNat)
        case atStart => exact ⟨0, Nat.zero_le _, rfl, (by first | (simp; done) | (rw [H0.out]; simp)), Below.refl _ _⟩
        case round =>
          obtain ⟨m, hm, rfl, rfl, Hbi⟩ := hrel
          have HbI := hide (HbJ.out.trans (Hbi.out.mono HbJ.out.size))
          obtain ⟨E, hE⟩ : ∃ E, E = (D0 || (c.take m).any (fun y => sameLit y x)) := ⟨_, rfl⟩
          rw [← hE]
          have HE := hide hE
          clear hE
          by_cases hmk : m < k
          · obtain ⟨y, hy⟩ : ∃ y, c[m]? = some y := ⟨c[m], List.getElem?_eq_getElem (by omega)⟩
            obtain ⟨b1, d1, b2, d2, _, j0, j1, j2, j3, j4, j5, j6, hj1, hj2⟩ := LitsQ_at Hc.out hy
            have HnE : Hid (∀ E', E' = (E || sameLit y x) → E' = (D0 || (c.take (m + 1)).any (fun y => sameLit y x))) := fun E' h => by
              rw [h, HE.out, List.take_add_one, hy, List.any_append]
              simp [Bool.or_assoc]
            have hmI : (m : Int) < c.length := by omega
            have hm0 : (0 : Int) ≤ m := by omega
            have hmkI : (m : Int) < k := by omega
            cases E with
            | true =>
              have Hn2 := hide (HnE.out true (by rw [Bool.true_or]))
              clear j0 j1 j2 j3 j4 j5 j6 hj1 hj2 hy HE HnE
              go_wp2_with fail
              go_quiet (fail)
              go_wp2_with fail
              go_roundw
              case rel => exact ⟨m + 1, by omega, by go_num, congrArg Value.bool Hn2.out, hide (below_drewN Hbi.out _)⟩
              case measure => simp [intOf]; omega
            | false =>
              have hS := hide (fun (w' : World) (hb : Below w.heap.size w w') => (show ((w'.cell? ⟨b, off + k * 7, none⟩ = some (.bool x.1) ∧ w'.cell? ⟨b, off + k * 7 + 1, none⟩ = some (.int .i64 x.2.1.v) ∧ w'.cell? ⟨b, off + k * 7 + 2, none⟩ = some (.int .i64 x.2.1.f) ∧ w'.cell? ⟨b, off + k * 7 + 3, none⟩ = some (.slice a1 x.2.1.args.length c1) ∧ w'.cell? ⟨b, off + k * 7 + 4, none⟩ = some (.int .i64 x.2.2.v) ∧ w'.cell? ⟨b, off + k * 7 + 5, none⟩ = some (.int .i64 x.2.2.f) ∧ w'.cell? ⟨b, off + k * 7 + 6, none⟩ = some (.slice a2 x.2.2.args.length c2)) ∧ w'.cell? ⟨b, off + m * 7, none⟩ = some (.bool y.1) ∧ w'.cell? ⟨b, off + m * 7 + 1, none⟩ = some (.int .i64 y.2.1.v) ∧ w'.cell? ⟨b, off + m * 7 + 2, none⟩ = some (.int .i64 y.2.1.f) ∧ w'.cell? ⟨b, off + m * 7 + 3, none⟩ = some (.slice b1 y.2.1.args.length d1) ∧ w'.cell? ⟨b, off + m * 7 + 4, none⟩ = some (.int .i64 y.2.2.v) ∧ w'.cell? ⟨b, off + m * 7 + 5, none⟩ = some (.int .i64 y.2.2.f) ∧ w'.cell? ⟨b, off + m * 7 + 6, none⟩ = some (.slice b2 y.2.2.args.length d2)) from by
                obtain ⟨e0, e1, e2, e3, e4, e5, e6⟩ := HA'.out.below hb
                exact ⟨⟨e0, e1, e2, e3, e4, e5, e6⟩, cellB hb j0, cellB hb j1, cellB hb j2, cellB hb j3, cellB hb j4, cellB hb j5, cellB hb j6⟩))
              have hyo := Hco.out y (List.mem_of_getElem? hy)
              have HSS := hide (fun (w' : World) (hb : Below w.heap.size w w') => refSameSides_any (x.1, y.2.1, y.2.2) x b1 d1 b2 d2 a1 c1 a2 c2 w' ⟨by have := hyo.1.1; show y.2.1.sz ≤ 1000; omega, by have := hyo.2.1; show y.2.2.sz ≤ 1000; omega⟩ (InP_imp (fun _ _ => trivial) (InP_below hb hj1)) (InP_imp (fun _ _ => trivial) (InP_below hb hj2)) (InP_imp (fun _ _ => trivial) (InP_below hb Hi1.out)) (InP_imp (fun _ _ => trivial) (InP_below hb Hi2.out)))
              rw [show sameS (x.1, y.2.1, y.2.2) x = sameS y x from rfl] at HSS
              obtain ⟨V, hV⟩ : ∃ V, V = sameS y x := ⟨_, rfl⟩
              rw [← hV] at HSS
              have HnE2 : Hid ((y.1 = x.1 → V = (D0 || (c.take (m + 1)).any (fun y => sameLit y x))) ∧ (¬ y.1 = x.1 → false = (D0 || (c.take (m + 1)).any (fun y => sameLit y x)))) := ⟨fun h => HnE.out V (by rw [sameLit, h, ← hV]; simp), fun h => HnE.out false (by rw [sameLit, show (y.1 == x.1) = false by simpa using h]; rfl)⟩
              clear j0 j1 j2 j3 j4 j5 j6 hj1 hj2 hy HE HnE hV hyo
              rcases Decidable.em (y.1 = x.1) with hyx | hyx
              · have hyx' : (x.1 == x.1) = true := by simp
                have Hn2 := hide (HnE2.out.1 hyx)
                rw [hyx] at hS
                obtain ⟨⟨p0, p1, p2, p3, p4, p5, p6⟩, q0, q1, q2, q3, q4, q5, q6⟩ := hS.out wr HbI.out
                clear hyx HnE2
                go_wp2_with fail
                go_region_held3 (fun w' => (w'.cell? ⟨b, off + k * 7, none⟩ = some (.bool x.1) ∧ w'.cell? ⟨b, off + k * 7 + 1, none⟩ = some (.int .i64 x.2.1.v) ∧ w'.cell? ⟨b, off + k * 7 + 2, none⟩ = some (.int .i64 x.2.1.f) ∧ w'.cell? ⟨b, off + k * 7 + 3, none⟩ = some (.slice a1 x.2.1.args.length c1) ∧ w'.cell? ⟨b, off + k * 7 + 4, none⟩ = some (.int .i64 x.2.2.v) ∧ w'.cell? ⟨b, off + k * 7 + 5, none⟩ = some (.int .i64 x.2.2.f) ∧ w'.cell? ⟨b, off + k * 7 + 6, none⟩ = some (.slice a2 x.2.2.args.length c2)) ∧ w'.cell? ⟨b, off + m * 7, none⟩ = some (.bool x.1) ∧ w'.cell? ⟨b, off + m * 7 + 1, none⟩ = some (.int .i64 y.2.1.v) ∧ w'.cell? ⟨b, off + m * 7 + 2, none⟩ = some (.int .i64 y.2.1.f) ∧ w'.cell? ⟨b, off + m * 7 + 3, none⟩ = some (.slice b1 y.2.1.args.length d1) ∧ w'.cell? ⟨b, off + m * 7 + 4, none⟩ = some (.int .i64 y.2.2.v) ∧ w'.cell? ⟨b, off + m * 7 + 5, none⟩ = some (.int .i64 y.2.2.f) ∧ w'.cell? ⟨b, off + m * 7 + 6, none⟩ = some (.slice b2 y.2.2.args.length d2)) ((first | (refine hS.out _ ?_; (repeat' (first | with_reducible exact HfB.out | with_reducible exact HbI.out | (with_reducible refine Below.drew ?_))); done) | go_keep)) ((first
                  | (go_at_call 53
                     with_reducible refine (HSS.out _ ?_).mono ?_
                     · (repeat' (first | with_reducible exact HbI.out | (with_reducible refine Below.drew ?_)))
                     rintro e xB ⟨rfl, hbB⟩
                     have HxB : Hid (Below wr.heap.size wr xB) := by
                       refine Below.trans (b := _) ?_ (hbB.mono ?_)
                       · (repeat' (first | with_reducible exact Below.refl _ _ | (with_reducible refine Below.drew ?_)))
                       · first | omega | (simp; omega) | (simp; done)
                     have HfB := hide (HbI.out.trans (HxB.out.mono HbI.out.size))
                     clear hbB)))
                have Hbn := hide (Hbi.out.trans (HxB.out.mono Hbi.out.size))
                go_wp2_with fail
                go_roundw
                case rel => exact ⟨m + 1, by omega, by go_num, congrArg Value.bool Hn2.out, Hbn⟩
                case measure => simp [intOf]; omega
              · have hyx' : ((!x.1) == x.1) = false := by cases x.1 <;> rfl
                have hyx2 : y.1 = !x.1 := by revert hyx; cases y.1 <;> cases x.1 <;> simp
                have Hn2 := hide (HnE2.out.2 hyx)
                rw [hyx2] at hS
                obtain ⟨⟨p0, p1, p2, p3, p4, p5, p6⟩, q0, q1, q2, q3, q4, q5, q6⟩ := hS.out wr HbI.out
                clear hyx hyx2 HnE2
                go_wp2_with fail
                go_quiet (fail)
                go_wp2_with fail
                go_roundw
                case rel => exact ⟨m + 1, by omega, by go_num, congrArg Value.bool Hn2.out, hide (below_drewN Hbi.out _)⟩
                case measure => simp [intOf]; omega
          · have hm2 : m = k := by omega
            have HdE : Hid (dropL (c.take k) x = E) := by show _ = _; rw [Hdr.out k (Nat.le_refl _), HD.out, HE.out, hm2]
            have hmkI : ¬ (m : Int) < k := by omega
            have Hbw := hide (Hbj.out.trans (Hbi.out.mono Hbj.out.size))
            clear HE hm2
            cases E with
            | true =>
              have HoN : Hid (OutsL (fun j => j < w.heap.size) w.heap.size wr (.slice la n lc) (needD c (k + 1))) := by rw [Hst.out, if_pos HdE.out]; exact OutsL_below Hout.out Hbw.out
              go_wp2_with fail
              go_roundw
              case rel => exact ⟨k + 1, by omega, by go_num, HoN, HbI⟩
              case measure => simp [intOf]; omega
            | false =>
              obtain ⟨e0, e1, e2, e3, e4, e5, e6⟩ := HA'.out.below HbI.out
              have HO := hide (fun o1 => own_same Hown.out.1 (w' := wr.alloc o1) (fun g hg => (Hbw.out.trans ((below1 wr o1).mono Hbw.out.size)).block g (own_lt Hown.out.1 g hg).2))
              have hzI := HbI.out.size
              go_wp2_with (at_builtin
                           go_must (refine wpList_append_l rfl (.tmp 67) (.tmp 72) rfl w.heap.size n 1 (.slice la n lc) xs [.bool x.1, .int .i64 x.2.1.v, .int .i64 x.2.1.f, .slice a1 x.2.1.args.length c1, .int .i64 x.2.2.v, .int .i64 x.2.2.f, .slice a2 x.2.2.args.length c2] rfl (HO.out _) _ rfl (Or.inr ⟨_, 0, 1, rfl, rfl, seven_src rfl, (by intro u hu; simp only [List.mem_cons, List.not_mem_nil, or_false] at hu; rcases hu with rfl | rfl | rfl | rfl | rfl | rfl | rfl <;> rfl)⟩) (by omega) (by simp; omega) ?_)
                           intro v' wD hown' hgr hat)
              have HfD : Hid (Below w.heap.size w wD) := Below.grown (HbI.out.alloc hzI _) hgr (by simp; omega) (fun j hj => (Hob.out j hj).1)
              have HoD : Hid (OutsL (fun j => j < w.heap.size) w.heap.size wD v' (needD c (k + 1))) := by
                rw [Hst.out, if_neg (by rw [HdE.out]; simp)]
                exact keepEnd HbI.out (KidsL_mono (fun j hj hlt => ⟨hj, Hbw.out.block j hlt⟩) Hown.out.2) (fun g hg => (Hob.out g hg).1) (below1 _ _) Hi1.out Hi2.out Hn.out.symm hown' hgr hat
              clear hown' hgr hat
              go_roundw
              case rel => exact ⟨k + 1, by omega, by go_num, HoD, HfD⟩
              case measure => simp [intOf]; omega)
    · have hk2 : k = c.length := by omega
      subst hk2
      have hkI : ¬ (c.length : Int) < c.length := by omega
      obtain ⟨C, hC⟩ : ∃ C, C = needD c c.length := ⟨_, rfl⟩
      have hCl : C.length ≤ 8 := by rw [hC]; have := needD_len (c := c) c.length; omega
      have hCo : LitsOk ar C := by rw [hC, need_doc]; exact need_ok Hco.out
      obtain ⟨L, hL⟩ : ∃ L, L = firstVars (termsOf C) := ⟨_, rfl⟩
      have hZ : tidyD c = mapC (applyT (numB L L.length)) C := by rw [tidyD, ← hC, hL]
      have HZ := hide hZ
      rw [← hC] at Hout
      obtain ⟨oa, oc, rfl, hlq⟩ := OutsL_end Hout.out
      have Hlq := hide (LitsQ_lits hlq)
      have HT := hide (termsOf_any C oa oc wr (by omega) Hlq.out)
      have hsz : T.sz.szL (termsOf C) ≤ 2000 := by have := terms_sz hCo; omega
      have hLl : L.length ≤ 2000 := by rw [hL]; exact Nat.le_trans (firstVars_length _) hsz
      have Hsz := hide hsz
      have HL := hide hL
      have HCo := hide hCo
      clear hlq Hout hZ hC hL hCo hsz
      go_wp2_with fail
      refine HT.out.mono ?_
      rintro e w1 ⟨ta, tc, rfl, hin1, hb1⟩
      have HF := hide (firstVars_any (termsOf C) ta tc w1 Hsz.out hin1)
      have Hb1 := hide (Hb.out.trans (hb1.mono Hb.out.size))
      have Hl1 := hide (LitsP_below hb1 Hlq.out)
      rw [← HL.out] at HF
      clear hb1 hin1 HT Hlq
      go_wp2_with fail
      refine HF.out.mono ?_
      rintro e w2 ⟨v, rfl, hown2, hb2⟩
      obtain ⟨va, vc, rfl, hints, _⟩ := own_ints hown2
      have Hb2 := hide (Hb1.out.trans (hb2.mono Hb1.out.size))
      have Hl2 := hide (LitsP_below hb2 Hl1.out)
      have Hints := hide hints
      clear hb2 hown2 hints HF Hl1 Hb1
      obtain ⟨ti, hi, hzz⟩ := Option.map_eq_some_iff.1 Tryz.info93
      simp only [Prod.mk.injEq] at hzz
      obtain ⟨hz0, hz1, hz2⟩ := hzz
      go_wp2_with fail
      go_loopw [8, 9] (fun lv i wi => ∃ k : Nat, k ≤ L.length ∧ i = .int .i64 k ∧ Hid (OutsB (fun _ => False) w2.heap.size wi lv (numB L k)) ∧ Hid (Below w2.heap.size w2 wi)) (fun _ i _ => L.length - (intOf i).toNat)
      case atStart => exact ⟨0, Nat.zero_le _, rfl, ⟨[], ⟨rfl, Or.inl ⟨rfl, rfl⟩⟩, rfl⟩, Below.refl _ _⟩
      case round =>
        obtain ⟨k, hk, rfl, HoB, Hbi⟩ := hrel
        have hzi := Hbi.out.size
        by_cases hlt2 : k < L.length
        · obtain ⟨v, hv⟩ : ∃ v, L[k]? = some v := ⟨L[k], List.getElem?_eq_getElem hlt2⟩
          obtain ⟨vb, voff, rfl, hcv⟩ := Ints_some Hints.out (by omega)
          have hc1 : w2.cell? ⟨vb, voff + k, none⟩ = some (.int .i64 v) := by
            have := hcv k hlt2
            rw [List.getD_eq_getElem?_getD, hv] at this
            exact this
          have hcw := cell_below Hbi.out hc1
          have hstB := numB_step hv
          have hlB := numB_len (L := L) k hk
          obtain ⟨xs, hownB, hkidsB⟩ := HoB.out
          rw [hlB] at hownB
          obtain ⟨la, lc, hlv⟩ := own_shape hownB
          have Hob := hide (fun (g : Nat) (hg : u8.ownBlock = some g) => own_lt hownB g hg)
          have HO := hide (fun o1 => own_same hownB (w' := wr.alloc o1) (fun g hg => (below1 wr o1).block g (own_lt hownB g hg).2))
          have HKB := hide hkidsB
          have HsB := hide hstB
          have HlB := hide hlB
          have hkI : (k : Int) < L.length := by omega
          have hk0 : (0 : Int) ≤ k := by omega
          clear hv hcv hc1 hstB hlB hownB hkidsB HoB
          subst hlv
          go_wp2_with (at_builtin
                       go_must (refine wpList_append_lies _ rfl (.tmp 83) (.tmp 92) 91 rfl w2.heap.size 93 ti (.agg #[.int .i64 0, .int .i64 0, .int .i64 0, .slice none 0 0]) 4 48 Tryz.underlying91 hi hz0 hz1 hz2 rfl (by decide) (.slice la k lc) k xs rfl (HO.out _) ⟨wr.heap.size, 0, none⟩ 1 1 [.int .i64 v, .int .i64 ((k : Int) + 1), .int .i64 0, .slice none 0 0] rfl rfl (four_new (by first | rfl | simp)) (by simp [Value.oneCell']) (by decide) (by unfold maxLen; omega) (by omega) (by simp; omega) _ rfl ?_)
                       intro g capg w3 hown3 hgr3 hat3 hlt3)
          have HfD : Hid (Below w2.heap.size w2 w3) := Below.grown (Hbi.out.alloc hzi _) hgr3 (by simp; omega) (fun j hj => (Hob.out j hj).1)
          have hO3 := OutsB_step (x := (v, ⟨(k : Int) + 1, 0, []⟩)) (KidsB_mono (fun k' hk' hlt' => ⟨hk', (below1 wr _).block k' hlt'⟩) HKB.out) InP_nil (by rw [HlB.out]; exact hown3) hgr3 (hat3.imp id (fun h => by rw [h]))
          rw [← HsB.out, HlB.out] at hO3
          have HO3 := hide hO3
          clear hown3 hgr3 hat3 hO3
          go_roundw
          case rel => exact ⟨k + 1, by omega, by go_num, HO3, HfD⟩
          case measure => simp [intOf]; omega
        · have hk2 : k = L.length := by omega
          subst hk2
          have hkI2 : ¬ (L.length : Int) < L.length := by omega
          have hlB := numB_len (L := L) L.length (Nat.le_refl _)
          obtain ⟨la, lc, hlv, hbin⟩ := OutsB_end HoB.out
          rw [hlB] at hlv
          have HbI := hide (Hb2.out.trans (Hbi.out.mono Hb2.out.size))
          have HAp := hide (applyClause_any ar (numB L L.length) la lc C oa oc wr (by rw [hlB]; omega) (by omega) HCo.out (Binds_imp (fun _ _ => trivial) hbin) (LitsP_below Hbi.out Hl2.out))
          rw [hlB] at HAp
          clear hbin HoB hlB
          subst hlv
          go_wp2_with fail
          refine HAp.out.mono ?_
          rintro e w4 ⟨⟨ra, rc, rfl, hlr⟩, hb4⟩
          have Hb4 := hide (HbI.out.trans (hb4.mono HbI.out.size))
          have Hlr := hide hlr
          clear hb4 hlr HAp
          go_wp2_with fail
          go_ret
          rw [HZ.out, mapC_len]
          exact ⟨⟨ra, rc, rfl, Hlr.out⟩, Hb4.out⟩
end Go.Proofs.YtbkedppkdhfpoabGreat
