/- The variables of a clause: the program's varsOf. Does a clause hold: the program's Holds. Clauses whose variables are numbered anew; Tidy. Clauses: what variables are bound to, as maps; do two of them agree? -/
import Derived.Maps.RangeWalk
import Derived.Test.YtbkedppkdhfpoabGreatJoined11
namespace Go.Proofs.YtbkedppkdhfpoabGreat
open Go.RowKit

/-- The variables of a clause's terms, term behind term. -/
def clNums : List Lit → List Int
  | [] => []
  | x :: c => varsT x.2.1 ++ (varsT x.2.2 ++ clNums c)
/-- A clause's variables, rising, each once. -/
def clVars (c : List Lit) : List Int := Lib.compact ((clNums c).mergeSort fun x y => decide (x ≤ y))
theorem clNums_append (a b : List Lit) : clNums (a ++ b) = clNums a ++ clNums b := by
  induction a with
  | nil => rfl
  | cons x a ih => rw [List.cons_append, clNums, clNums, ih]; simp
theorem clNums_step {c : List Lit} {k : Nat} {x : Lit} (h : c[k]? = some x) : clNums (c.take (k + 1)) = clNums (c.take k) ++ varsT x.2.1 ++ varsT x.2.2 := by
  rw [List.take_add_one, h, clNums_append]; simp [clNums]
theorem varsT_le (t : T) : (varsT t).length ≤ t.sz := by
  have h1 := compact_le ((allVars t).mergeSort fun x y => decide (x ≤ y))
  have h2 := allVars_le t
  rw [List.length_mergeSort] at h1
  exact Nat.le_trans h1 h2
theorem clNums_le {ar : List Int} : ∀ {c : List Lit}, LitsOk ar c → (clNums c).length ≤ 240 * c.length := by
  intro c
  induction c with
  | nil => intro _; simp [clNums]
  | cons x c ih =>
    intro h
    have h1 := ih (fun y hy => h y (List.mem_cons_of_mem x hy))
    have h2 := h x (by simp)
    have h3 := varsT_le x.2.1
    have h4 := varsT_le x.2.2
    rw [clNums, List.length_append, List.length_append, List.length_cons]
    omega
theorem clNums_mem {c : List Lit} {v : Int} : v ∈ clNums c ↔ ∃ x, x ∈ c ∧ (v ∈ varsT x.2.1 ∨ v ∈ varsT x.2.2) := by
  induction c with
  | nil => simp [clNums]
  | cons y c ih => rw [clNums, List.mem_append, List.mem_append, ih]; simp [or_assoc]
theorem clVars_mem {c : List Lit} {v : Int} : v ∈ clVars c ↔ v ∈ clNums c := by
  obtain ⟨hs, hsm⟩ := sort_facts (clNums c)
  rw [clVars, (compact_facts _ hs).2, hsm]
theorem clVars_up (c : List Lit) : (clVars c).Pairwise (· < ·) := (compact_facts _ (sort_facts (clNums c)).1).1
theorem clVars_le (c : List Lit) : (clVars c).length ≤ (clNums c).length := by
  have h1 := compact_le ((clNums c).mergeSort fun x y => decide (x ≤ y))
  rw [List.length_mergeSort] at h1
  exact h1
/-- Numbers that Vars gives can be appended. -/
theorem src_of {w : World} {zs : List Int} {a : Option Addr} {cap : Nat} (h : Ints w zs a) (hn : (a = none ∧ cap = 0) ∨ ∃ g, a = some ⟨g, 0, none⟩) : SrcI w (.slice a zs.length cap) zs := by
  rcases h with h | ⟨b, off, rfl, h⟩
  · subst h
    rcases hn with ⟨rfl, rfl⟩ | ⟨g, rfl⟩
    · exact Or.inl ⟨rfl, rfl⟩
    · exact Or.inr ⟨g, 0, cap, rfl, fun j hj => by simp at hj⟩
  · exact Or.inr ⟨b, off, cap, rfl, h⟩
/-- The sides of a literal, and their variables. -/
def side (x : Lit) : Nat → T
  | 0 => x.2.1
  | _ + 1 => x.2.2
def sideNums (x : Lit) : Nat → List Int
  | 0 => []
  | 1 => varsT x.2.1
  | _ + 2 => varsT x.2.1 ++ varsT x.2.2
theorem sideNums_step {x : Lit} {m : Nat} (h : m < 2) : sideNums x (m + 1) = sideNums x m ++ varsT (side x m) := by
  rcases m with _ | _ | m
  · rfl
  · rfl
  · omega

set_option maxRecDepth 100000 in
set_option maxHeartbeats 1000000 in
theorem varsOf_any (ar : List Int) (ga : Option Addr) (gcap : Nat) (c : List Lit) (ca : Option Addr) (cc : Nat) (w : World) (hg : Ints w ar ga) (hl : c.length ≤ 8) (hok : LitsOk ar c) (hone : ∀ t, t.sz ≤ 120 ∧ okP ar t → allErr ar [t] = 0) (hc : LitsP w c ca) :
    Calls Tryz.prog 67 #[.agg #[.slice ga ar.length gcap], .slice ca c.length cc] w fun e w' => ∃ a1 cap1, e = .returned (.slice a1 (clVars c).length cap1) ∧ Ints w' (clVars c) a1 ∧ (clVars c).length ≤ cap1 ∧ Below w.heap.size w w' := by
  have Hg := hide hg
  have Hc := hide hc
  have Hok := hide hok
  have Hone := hide hone
  have Hlen := hide (clNums_le hok)
  clear hg hc hok hone
  go_enter Tryz.func67, Tryz.ntmps67
  have cg0 : ∀ o, o = Obj.cells #[.slice ga ar.length gcap] 24 → (w.alloc o).cell? ⟨w.heap.size, 0, none⟩ = some (.slice ga ar.length gcap) := fun o ho => by rw [ho]; exact cell_new 0 rfl
  have Hcg0 := hide (cg0 _ rfl)
  clear cg0
  go_wp2_with fail
  go_loopw [5, 14] (fun l i wr => ∃ k : Nat, k ≤ c.length ∧ i = .int .i64 k ∧ Hid (OwnI (w.heap.size + 1) wr l (clNums (c.take k))) ∧ Hid (Below (w.heap.size + 1) (w.alloc (.cells #[.slice ga ar.length gcap] 24)) wr)) (fun _ i _ => c.length - (intOf i).toNat)
  case atStart => exact ⟨0, Nat.zero_le _, rfl, ⟨rfl, Or.inl ⟨rfl, rfl⟩⟩, Below.refl _ _⟩
  case round =>
    obtain ⟨k, hk, rfl, Hown, Hbr⟩ := hrel
    have hzr := Hbr.out.size
    rw [World.size_alloc] at hzr
    have Hbw := hide ((below1 w (.cells #[.slice ga ar.length gcap] 24)).trans (Hbr.out.mono (by omega)))
    by_cases hlt : k < c.length
    · obtain ⟨b, off, rfl⟩ := LitsP_some Hc.out (by omega)
      obtain ⟨x, hx⟩ : ∃ x, c[k]? = some x := ⟨c[k], List.getElem?_eq_getElem hlt⟩
      obtain ⟨a1, c1, a2, c2, j0, j1, j2, j3, j4, j5, j6, hi1, hi2⟩ := LitsP_at Hc.out hx
      have k0 := cellB Hbw.out j0
      have k1 := cellB Hbw.out j1
      have k2 := cellB Hbw.out j2
      have k3 := cellB Hbw.out j3
      have k4 := cellB Hbw.out j4
      have k5 := cellB Hbw.out j5
      have k6 := cellB Hbw.out j6
      have Hst := hide (clNums_step hx)
      have Hxo := hide (Hok.out x (List.mem_of_getElem? hx))
      have hkI : (k : Int) < c.length := by omega
      have hk0 : (0 : Int) ≤ k := by omega
      have Hi1 := hide hi1
      have Hi2 := hide hi2
      have Hlk : Hid ((clNums (c.take k)).length ≤ 240 * k) := by
        have h1 := clNums_le (ar := ar) (c := c.take k) (fun y hy => Hok.out y (List.mem_of_mem_take hy))
        rw [List.length_take, Nat.min_eq_left (by omega)] at h1
        exact h1
      clear hx hi1 hi2 j0 j1 j2 j3 j4 j5 j6
      go_wp2_with fail
      generalize hw2 : (wr.alloc (.cells #[.bool x.1, .int .i64 x.2.1.v, .int .i64 x.2.1.f, .slice a1 x.2.1.args.length c1, .int .i64 x.2.2.v, .int .i64 x.2.2.f, .slice a2 x.2.2.args.length c2] 79)).alloc (.cells #[.int .i64 x.2.1.v, .int .i64 x.2.1.f, .slice a1 x.2.1.args.length c1, .int .i64 x.2.2.v, .int .i64 x.2.2.f, .slice a2 x.2.2.args.length c2] 77) = w2
      have hz2 : w2.heap.size = wr.heap.size + 2 := by rw [← hw2, World.size_alloc, World.size_alloc]
      have Hb2 : Hid (Below wr.heap.size wr w2) := by rw [← hw2]; exact (below1 _ _).alloc (by simp) _
      have Hsd : Hid (∀ m, m < 2 → ∃ a c', w2.cell? ⟨wr.heap.size + 1, m * 3, none⟩ = some (.int .i64 (side x m).v) ∧ w2.cell? ⟨wr.heap.size + 1, m * 3 + 1, none⟩ = some (.int .i64 (side x m).f) ∧ w2.cell? ⟨wr.heap.size + 1, m * 3 + 2, none⟩ = some (.slice a (side x m).args.length c') ∧ InL w (side x m).args a ∧ (side x m).sz ≤ 120 ∧ okP ar (side x m)) := fun m hm => by
        have e1 : wr.heap.size + 1 = (wr.alloc (.cells #[.bool x.1, .int .i64 x.2.1.v, .int .i64 x.2.1.f, .slice a1 x.2.1.args.length c1, .int .i64 x.2.2.v, .int .i64 x.2.2.f, .slice a2 x.2.2.args.length c2] 79)).heap.size := (World.size_alloc _ _).symm
        rw [← hw2, e1]
        rcases m with _ | _ | m
        · exact ⟨a1, c1, cell_new 0 rfl, cell_new 1 rfl, cell_new 2 rfl, Hi1.out, Hxo.out.1⟩
        · exact ⟨a2, c2, cell_new 3 rfl, cell_new 4 rfl, cell_new 5 rfl, Hi2.out, Hxo.out.2⟩
        · omega
      have Hown2 : Hid (OwnI (w.heap.size + 1) w2 u5 (clNums (c.take k))) := own_same Hown.out (fun g' hg' => Hb2.out.block g' (own_lt Hown.out g' hg').2)
      have Hlb : Hid (∀ g', u5.ownBlock = some g' → w.heap.size + 1 ≤ g' ∧ g' < wr.heap.size) := fun g' hg' => own_lt Hown.out g' hg'
      have HB2 := hide (Hbr.out.trans (Hb2.out.mono hzr))
      have Hbw2 := hide (Hbw.out.trans (Hb2.out.mono Hbw.out.size))
      have hbk : wr.heap.size + 1 < w2.heap.size := by omega
      have hbn : ¬ u5.ownBlock = some (wr.heap.size + 1) := fun e => by have := (Hlb.out _ e).2; omega
      have HS := hide (fun (wi : World) (r' : Option Nat) (hgr : Grw w2 wi u5.ownBlock r') m hm => by
        obtain ⟨a, c', d0, d1, d2, h3⟩ := Hsd.out m hm
        have cS := fun o => World.cell?_of_block (w := w2) (w' := wi) (a := ⟨wr.heap.size + 1, o, none⟩) (hgr.gr.block (wr.heap.size + 1) hbk (fun e => hbn e.symm))
        exact (⟨a, c', (cS _).trans d0, (cS _).trans d1, (cS _).trans d2, h3⟩ : ∃ a c', wi.cell? ⟨wr.heap.size + 1, m * 3, none⟩ = some (.int .i64 (side x m).v) ∧ wi.cell? ⟨wr.heap.size + 1, m * 3 + 1, none⟩ = some (.int .i64 (side x m).f) ∧ wi.cell? ⟨wr.heap.size + 1, m * 3 + 2, none⟩ = some (.slice a (side x m).args.length c') ∧ InL w (side x m).args a ∧ (side x m).sz ≤ 120 ∧ okP ar (side x m)))
      have hzw2 : w.heap.size + 1 ≤ w2.heap.size := by omega
      have HBg := hide (fun (wi : World) (r' : Option Nat) (hgr : Grw w2 wi u5.ownBlock r') => HB2.out.trans (hgr.below (B := w.heap.size + 1) hzw2 (fun g e => (Hlb.out g e).1)))
      have Hst2 : Hid (clNums (c.take (k + 1)) = clNums (c.take k) ++ sideNums x 2) := by show _ = _; rw [Hst.out, List.append_assoc]; rfl
      have hx1 : x.2.1.sz ≤ 120 := Hxo.out.1.1
      clear k0 k1 k2 k3 k4 k5 k6 hw2 Hown Hb2 Hxo Hi1 Hi2 Hbr Hbw Hsd hbn Hst Hlb
      go_loopw [5, 24] (fun l2 j wi => ∃ m : Nat, m ≤ 2 ∧ j = .int .i64 m ∧ Hid (OwnI (w.heap.size + 1) wi l2 (clNums (c.take k) ++ sideNums x m)) ∧ Hid (Grw w2 wi u5.ownBlock l2.ownBlock)) (fun _ j _ => 2 - (intOf j).toNat)
      case atStart => exact ⟨0, by omega, rfl, by rw [sideNums, List.append_nil]; exact Hown2, Grw.refl _ _⟩
      case round =>
        obtain ⟨m, hm, rfl, Hom, Hgr⟩ := hrel
        have hzw := Hgr.out.gr.size
        have HBm := hide (HBg.out _ _ Hgr.out)
        have Hbm := hide ((below1 w (.cells #[.slice ga ar.length gcap] 24)).trans (HBm.out.mono (by omega)))
        by_cases hlm : m < 2
        · obtain ⟨a, c', d0, d1, d2, hin, hsz, hoy⟩ := HS.out _ _ Hgr.out m hlm
          have cg : wr.cell? ⟨w.heap.size, 0, none⟩ = some (.slice ga ar.length gcap) := by rw [HBm.out.cell (p := ⟨w.heap.size, 0, none⟩) (by show w.heap.size < w.heap.size + 1; omega)]; exact Hcg0.out
          have HV := hide (fun o => Vars_nums ar ga gcap (side x m) a c' (wr.alloc o) (Ints_alloc o (Ints_below Hbm.out Hg.out)) (InP_alloc o (InP_below Hbm.out hin)) (fun _ => hsz))
          rw [varsSpec, if_pos (Hone.out _ ⟨hsz, hoy⟩)] at HV
          have hvl := varsT_le (side x m)
          have Hsn := hide (sideNums_step (x := x) hlm)
          have Hsl : Hid ((sideNums x m).length ≤ 120) := by
            show _ ≤ _
            rcases m with _ | _ | m
            · simp [sideNums]
            · exact Nat.le_trans (varsT_le x.2.1) hx1
            · omega
          obtain ⟨ys, hys⟩ : ∃ ys, ys = clNums (c.take k) ++ sideNums x m := ⟨_, rfl⟩
          have Hyl : Hid (ys.length + (varsT (side x m)).length ≤ 2000) := by
            show _ ≤ _
            rw [hys, List.length_append]
            have h1 := Hlk.out
            have h2 := Hsl.out
            omega
          rw [← hys] at Hom
          have Hys := hide hys
          obtain ⟨Y, hY⟩ : ∃ Y, Y = side x m := ⟨_, rfl⟩
          rw [← hY] at d0 d1 d2 HV Hsn Hyl
          have hm0 : (0 : Int) ≤ m := by omega
          have hwr : w.heap.size < wr.heap.size := by omega
          have hm1 : (m : Int) < 2 := by omega
          clear hin hsz hoy hys hY Hsl hvl
          go_wp2_with fail
          refine (HV.out _).mono ?_
          rintro e w3 ⟨⟨a3, c3, rfl, hI3, hn3⟩, hb3⟩
          have Hb3 : Hid (Below wr.heap.size wr w3) := (below1 _ _).trans (hb3.mono (by simp))
          have Hsrc := hide (src_of hI3 hn3)
          have Ho3 := hide (own_same Hom.out (w' := w3) (fun g' hg' => Hb3.out.block g' (own_lt Hom.out g' hg').2))
          have hz3 := Hb3.out.size
          clear hb3 hI3 hn3 d0 d1 d2 cg HV
          go_wp2_with (at_builtin; go_must (refine wpList_append_ints rfl (.tmp 34) (.tmp 35) rfl (w.heap.size + 1) _ ys rfl Ho3.out (.slice a3 (varsT Y).length c3) (varsT Y) rfl Hsrc.out Hyl.out (by omega) ?_))
          intro v6 w6 hown6 hgr6 hat6
          have Hown6 : Hid (OwnI (w.heap.size + 1) w6 v6 (clNums (c.take k) ++ sideNums x (m + 1))) := by
            show OwnI _ _ _ _
            rw [Hsn.out, ← List.append_assoc, ← Hys.out]; exact hown6
          have Hgr6 := hide (Hgr.out.trans ((Grw.of_below _ Hb3.out).trans ⟨hgr6, by
            rcases hat6 with h | h
            · exact Or.inl h
            · exact Or.inr ⟨_, h, by omega⟩⟩))
          clear hown6 hgr6 hat6
          go_wp2_with fail
          go_roundw
          case rel => exact ⟨m + 1, by omega, by go_num, Hown6, Hgr6⟩
          case measure => simp [intOf]; omega
        · have hm2 : m = 2 := by omega
          subst hm2
          rw [← Hst2.out] at Hom
          go_wp2_with fail
          go_roundw
          case rel => exact ⟨k + 1, by omega, by go_num, Hom, HBm⟩
          case measure => simp [intOf]; omega
    · have hk2 : k = c.length := by omega
      subst hk2
      rw [List.take_length] at Hown
      obtain ⟨va, vc, rfl⟩ := own_shape Hown.out
      have hle := Hlen.out
      have hcv := clVars_le c
      clear Hbr
      by_cases hnil : (clNums c).length = 0
      · have Hv0 : Hid (clVars c = []) := by
          show _ = _
          rw [clVars, List.length_eq_zero_iff.1 hnil, List.mergeSort_nil]; rfl
        rw [hnil] at Hown ⊢
        clear hnil
        go_wp2_with fail
        refine (Tryz.slices_Sort_int_none va vc _).mono ?_
        rintro e w3 ⟨rfl, rfl⟩
        go_wp2_with fail
        refine (Tryz.slices_Compact_int_empty va vc _).mono ?_
        rintro e w4 ⟨rfl, rfl⟩
        go_wp2_with fail
        go_ret
        rw [Hv0.out]
        exact ⟨va, vc, rfl, Or.inl rfl, Nat.zero_le _, Hbw.out⟩
      · have hpos : 0 < (clNums c).length := by omega
        obtain ⟨g, cap2, hform, hBg, hglt⟩ := Hown.out.form hpos
        simp only [Value.slice.injEq, true_and] at hform
        obtain ⟨rfl, rfl⟩ := hform
        obtain ⟨hH, _, hcap⟩ := holds_own Hown.out hpos
        have HH := hide hH
        have Hln := hide (List.length_mergeSort (le := fun x y : Int => decide (x ≤ y)) (clNums c))
        clear hH hnil Hown
        go_wp2_with fail
        refine (sort_any g vc (clNums c) _ HH.out hglt (by omega)).mono ?_
        rintro e w3 ⟨rfl, hk3, hH3⟩
        have hz3 := hk3.size
        have Hb3 := hide (Hbw.out.trans (Below.of_keeps (B := w.heap.size) hk3 (by omega) (by have := Hbw.out.size; omega)))
        have HH3 := hide hH3
        clear hk3 hH3
        go_wp2_with fail
        have hcm := compact_any g vc ((clNums c).mergeSort fun x y => decide (x ≤ y)) w3 HH3.out (by rw [Hln.out]; exact hcap) (by rw [Hln.out]; omega)
        rw [Hln.out] at hcm
        refine hcm.mono ?_
        rintro e w4 ⟨rfl, hk4, hI⟩
        clear hcm
        have Hb4 := hide (Hb3.out.trans (Below.of_keeps (B := w.heap.size) hk4 (by omega) (by have := Hb3.out.size; omega)))
        have HI := hide hI
        clear hk4 hI
        go_wp2_with fail
        go_ret
        exact ⟨_, vc, rfl, HI.out, by omega, Hb4.out⟩
end Go.Proofs.YtbkedppkdhfpoabGreat

namespace Go.Proofs.YtbkedppkdhfpoabGreat
open Go.RowKit

/-- What Holds answers. -/
def holdsS (ar : List Int) (n : Int) (ls : List (List Int)) (c : List Lit) : Bool × Int :=
  if modelErr ar n ls = 0 then (if clausesErr ar [c] = 0 then (if (clVars c).length ≤ 8 then (allV n (fun g => clHolds n ls (fun k => (g k).getD 0) c) (clVars c) (fun _ => none), 0) else (false, 2)) else (false, clausesErr ar [c])) else (false, modelErr ar n ls)
theorem costV_le {k : Nat} (h : k ≤ 8) : costV k ≤ 9840 := (by decide : ∀ k, k < 9 → costV k ≤ 9840) k (by omega)
theorem clauses_ok {ar : List Int} {c : List Lit} (h : clausesErr ar [c] = 0) : sigErr ar = 0 ∧ c.length ≤ 8 ∧ LitsOk ar c := by
  rw [clausesErr] at h
  by_cases h1 : sigErr ar = 0
  · rw [if_pos h1, if_neg (by simp), clErr] at h
    by_cases h2 : clauseErr ar c = 0
    · rw [clauseErr] at h2
      by_cases h3 : 8 < c.length
      · rw [if_pos h3] at h2; cases h2
      · rw [if_neg h3] at h2
        exact ⟨h1, by omega, litsErr_ok h2⟩
    · rw [if_neg h2] at h; exact absurd h h2
  · rw [if_neg h1] at h; exact absurd h h1
theorem clVars_range {ar : List Int} {c : List Lit} (h : LitsOk ar c) : ∀ v, v ∈ clVars c → 1 ≤ v ∧ v ≤ 1000 := fun v hv => by
  obtain ⟨x, hx, h1⟩ := clNums_mem.1 (clVars_mem.1 hv)
  have h2 := h x hx
  rcases h1 with h1 | h1
  · obtain ⟨p, hp, hp0, rfl⟩ := varsT_mem.1 h1
    exact part_v h2.1.2 hp hp0
  · obtain ⟨p, hp, hp0, rfl⟩ := varsT_mem.1 h1
    exact part_v h2.2.2 hp hp0

set_option maxRecDepth 100000 in
set_option maxHeartbeats 1000000 in
theorem Holds_any (ar : List Int) (ga : Option Addr) (gcap : Nat) (n : Int) (ls : List (List Int)) (ta : Option Addr) (tc : Nat) (c : List Lit) (ca : Option Addr) (cc : Nat) (w : World) (hg : Ints w ar ga) (ht : TabsP w ls ta) (hc : LitsP w c ca) (hcl : c.length ≤ 9223372036854775807) :
    Calls Tryz.prog 23 #[.agg #[.slice ga ar.length gcap], .agg #[.int .i64 n, .slice ta ls.length tc], .slice ca c.length cc] w fun e w' => e = .returned (.tuple #[.bool (holdsS ar n ls c).1, .int .i64 (holdsS ar n ls c).2]) ∧ Below w.heap.size w w' := by
  obtain ⟨W3, hW3⟩ : ∃ W3, W3 = ((w.alloc (.cells #[.slice ga ar.length gcap] 24)).alloc (.cells #[.int .i64 n, .slice ta ls.length tc] 43)).alloc (.cells #[.slice ca c.length cc] 26) := ⟨_, rfl⟩
  have hb3 : Below w.heap.size w W3 := by rw [hW3]; exact below3 _ _ _ _
  have hz3 : W3.heap.size = w.heap.size + 3 := by rw [hW3]; simp
  have cg : W3.cell? ⟨w.heap.size, 0, none⟩ = some (.slice ga ar.length gcap) := by rw [hW3, cell_alloc_lt (by simp; omega), cell_alloc_lt (by simp)]; exact cell_new 0 rfl
  have cn : W3.cell? ⟨w.heap.size + 1, 0, none⟩ = some (.int .i64 n) := by rw [hW3, cell_alloc_lt (by simp)]; exact cell_new 0 (by simp)
  have ct : W3.cell? ⟨w.heap.size + 1, 1, none⟩ = some (.slice ta ls.length tc) := by rw [hW3, cell_alloc_lt (by simp)]; exact cell_new 1 (by simp)
  have cl : W3.cell? ⟨w.heap.size + 1 + 1, 0, none⟩ = some (.slice ca c.length cc) := by rw [hW3]; exact cell_new 0 (by simp)
  have Hg := hide hg
  have Ht := hide ht
  have Hc := hide hc
  obtain ⟨V, hV⟩ : ∃ V, V = holdsS ar n ls c := ⟨_, rfl⟩
  rw [← hV]
  have HV := hide hV
  obtain ⟨E, hE⟩ : ∃ E, E = modelErr ar n ls := ⟨_, rfl⟩
  have H1 := hide (mCheck_any ar ga gcap n ls ta tc W3 (Ints_below hb3 hg) (TabsP_below hb3 ht))
  rw [← hE] at H1
  have HE := hide hE
  have HW3 := hide hW3
  have Hb3 := hide hb3
  have hmm := @run_makeMap Tryz.prog
  have hmf : ∀ (fn : Fn) (first cap : Array Value) (w : World), (Instr.makeFunc fn first cap).run Tryz.prog w = .ok (.func fn first cap) w := fun _ _ _ _ => rfl
  clear hg ht hc hV hE hW3 hb3
  go_enter Tryz.func23, Tryz.ntmps23
  go_wp2_with fail
  rw [← HW3.out]
  refine H1.out.mono ?_
  rintro e w1 ⟨rfl, hb1⟩
  have hz1 := hb1.size
  have cg1 := cellB hb1 cg
  have cn1 := cellB hb1 cn
  have ct1 := cellB hb1 ct
  have cl1 := cellB hb1 cl
  have Hb1 := hide (Hb3.out.trans (hb1.mono (by omega)))
  clear hb1 H1 cg cn ct cl HW3
  by_cases h0 : E = 0
  · have HV1 : Hid (V = if clausesErr ar [c] = 0 then (if (clVars c).length ≤ 8 then (allV n (fun g => clHolds n ls (fun k => (g k).getD 0) c) (clVars c) (fun _ => none), 0) else (false, 2)) else (false, clausesErr ar [c])) := by show _ = _; rw [HV.out, holdsS, if_pos (HE.out.symm.trans h0)]
    have Hmo := hide (MOk.of (HE.out.symm.trans h0))
    subst h0
    obtain ⟨F, hF⟩ : ∃ F, F = clausesErr ar [c] := ⟨_, rfl⟩
    have HC := hide (fun e => cCheck_any ar ga gcap [c] (some ⟨w1.heap.size, 0, none⟩) 1 (w1.alloc (.cells #[.slice ca c.length cc] e)) (Ints_alloc _ (Ints_below Hb1.out Hg.out)) (by simp) (fun c' h => by simp at h; rw [h]; exact hcl) ⟨w1.heap.size, 0, ca, cc, rfl, cell_new 0 rfl, LitsP_below (Hb1.out.alloc Hb1.out.size _) Hc.out, trivial⟩)
    rw [← hF] at HC HV1
    have HF := hide hF
    clear HV HE hF
    go_wp2_with fail
    refine (HC.out _).mono ?_
    rintro e w2 ⟨rfl, hb2'⟩
    have hb2 : Below w1.heap.size w1 w2 := (below1 _ _).trans (hb2'.mono (by simp))
    have hz2 := hb2.size
    have cg2 := cellB hb2 cg1
    have cn2 := cellB hb2 cn1
    have ct2 := cellB hb2 ct1
    have cl2 := cellB hb2 cl1
    have Hb2 := hide (Hb1.out.trans (hb2.mono Hb1.out.size))
    clear hb2 hb2' HC cg1 cn1 ct1 cl1
    by_cases hF0 : F = 0
    · have HV2 : Hid (V = if (clVars c).length ≤ 8 then (allV n (fun g => clHolds n ls (fun k => (g k).getD 0) c) (clVars c) (fun _ => none), 0) else (false, 2)) := by show _ = _; rw [HV1.out, if_pos hF0]
      obtain ⟨hsig, hc8, hlo⟩ := clauses_ok (HF.out.symm.trans hF0)
      have HVs := hide (varsOf_any ar ga gcap c ca cc w2 (Ints_below Hb2.out Hg.out) hc8 hlo (fun t h => allErr_iff.2 ⟨hsig, fun t' ht' => by simp at ht'; rw [ht']; exact h⟩) (LitsP_below Hb2.out Hc.out))
      have Hvr := hide (clVars_range hlo)
      have Hlo := hide hlo
      obtain ⟨vs, hvs⟩ : ∃ vs, vs = clVars c := ⟨_, rfl⟩
      rw [← hvs] at HVs HV2 Hvr
      subst hF0
      clear HV1 HF hsig hlo hvs
      go_wp2_with fail
      refine HVs.out.mono ?_
      rintro e w4 ⟨va, vc, rfl, hI, hvc, hb4⟩
      have hz4 := hb4.size
      have Hcn := hide (cellB hb4 cn2)
      have Hct := hide (cellB hb4 ct2)
      have Hcl := hide (cellB hb4 cl2)
      have Hb4 := hide (Hb2.out.trans (hb4.mono Hb2.out.size))
      have HI := hide hI
      clear hb4 hI HVs cg2 cn2 ct2 cl2
      by_cases h8 : vs.length ≤ 8
      · have h8' : ¬ (8 : Int) < vs.length := by omega
        have HV3 : Hid (V = (allV n (fun g => clHolds n ls (fun k => (g k).getD 0) c) vs (fun _ => none), 0)) := by show _ = _; rw [HV2.out, if_pos h8]
        have cn4 := Hcn.out
        have hl4 : w.heap.size + 1 < w4.heap.size := by omega
        have hl5 : w.heap.size + 1 < w4.heap.size + 1 := by omega
        have cn5 : (w4.alloc (.map #[] 0)).cell? ⟨w.heap.size + 1, 0, none⟩ = some (.int .i64 n) := by rw [cell_alloc_lt hl4]; exact cn4
        have cn6 : ∀ o, ((w4.alloc (.map #[] 0)).alloc o).cell? ⟨w.heap.size + 1, 0, none⟩ = some (.int .i64 n) := fun o => by rw [cell_alloc_lt (by simp; omega)]; exact cn5
        have hMo := Hmo.out
        have HA := hide (fun (w5 : World) (hw5 : w5 = (w4.alloc (.map #[] 0)).alloc (.cells #[.map (some w4.heap.size)] 107)) => always_any (ar := ar) (n := n) (ls := ls) (ta := ta) (tc := tc) (b := w4.heap.size) (bi := w4.heap.size + 1) (bm := w.heap.size + 1) (bc := w.heap.size + 1 + 1) (c := c) (ca := ca) (cc := cc) (W0 := w4)
          ⟨hMo, Hlo.out, hc8, TabsP_below Hb4.out Ht.out, LitsP_below Hb4.out Hc.out, Hcn.out, Hct.out, Hcl.out, Nat.le_refl _, by omega⟩ vs va vc w5 0 (fun _ => none)
          ⟨by rw [hw5]; exact (below1 _ _).alloc (by simp) _, fun k => ⟨Int.le_refl _, by have := hMo.lo; show (0 : Int) < n; omega⟩, by rw [hw5]; exact IsAt.below (MapAt.made w4) (below1 _ _), by rw [hw5]; exact cell_new 0 (by simp)⟩ HI.out hvc (by omega) Hvr.out (by have := costV_le h8; omega))
        obtain ⟨A, hA⟩ : ∃ A, A = allV n (fun g => clHolds n ls (fun k => (g k).getD 0) c) vs (fun _ => none) := ⟨_, rfl⟩
        rw [← hA] at HV3 HA
        obtain rfl := HV3.out
        clear HV2 HV3 hA hMo
        go_wp2_with fail
        refine (HA.out _ rfl).mono ?_
        rintro e w6 ⟨rfl, m6, g6, ha6, _, _⟩
        have Hb6 := hide (Hb4.out.trans (ha6.below.mono Hb4.out.size))
        clear ha6
        go_wp2_with fail
        go_ret2
        exact ⟨rfl, Hb6.out⟩
      · have h8' : (8 : Int) < vs.length := by omega
        obtain rfl : V = (false, 2) := by rw [HV2.out, if_neg h8]
        clear HV2
        go_wp2_with fail
        go_ret2
        exact ⟨rfl, Hb4.out⟩
    · have hFb : (F != 0) = true := by simpa using hF0
      obtain rfl : V = (false, F) := by rw [HV1.out, if_neg hF0]
      clear HV1 HF hF0
      go_wp2_with fail
      go_ret2
      exact ⟨rfl, Hb2.out⟩
  · have h0b : (E != 0) = true := by simpa using h0
    obtain rfl : V = (false, E) := by rw [HV.out, holdsS, if_neg (fun h => h0 (HE.out.trans h)), HE.out]
    clear HV HE h0
    go_wp2_with fail
    go_ret2
    exact ⟨rfl, Hb1.out⟩
end Go.Proofs.YtbkedppkdhfpoabGreat

namespace Go.Proofs.YtbkedppkdhfpoabGreat
open Go.RowKit Go.Maps

/-- A clause whose variables are numbered anew, behind some that are. -/
def giveC : List Lit → List Int → List Lit × List Int
  | [], ns => ([], ns)
  | x :: c, ns => ((x.1, (giveT x.2.1 ns).1, (giveT x.2.2 (giveT x.2.1 ns).2).1) :: (giveC c (giveT x.2.2 (giveT x.2.1 ns).2).2).1, (giveC c (giveT x.2.2 (giveT x.2.1 ns).2).2).2)
def giveX (x : Lit) (ns : List Int) : Lit := (x.1, (giveT x.2.1 ns).1, (giveT x.2.2 (giveT x.2.1 ns).2).1)
def giveN (x : Lit) (ns : List Int) : List Int := (giveT x.2.2 (giveT x.2.1 ns).2).2
theorem giveC_snoc (x : Lit) : ∀ (c : List Lit) (ns : List Int), giveC (c ++ [x]) ns = ((giveC c ns).1 ++ [giveX x (giveC c ns).2], giveN x (giveC c ns).2) := by
  intro c
  induction c with
  | nil => intro ns; rfl
  | cons y c ih => intro ns; rw [List.cons_append, giveC, ih]; rfl
theorem giveC_step {c : List Lit} {k : Nat} {x : Lit} (h : c[k]? = some x) (ns : List Int) : giveC (c.take (k + 1)) ns = ((giveC (c.take k) ns).1 ++ [giveX x (giveC (c.take k) ns).2], giveN x (giveC (c.take k) ns).2) := by
  rw [List.take_add_one, h]; exact giveC_snoc x _ ns
theorem giveC_length : ∀ (c : List Lit) (ns : List Int), (giveC c ns).1.length = c.length := by
  intro c
  induction c with
  | nil => intro ns; rfl
  | cons x c ih => intro ns; rw [giveC, List.length_cons, List.length_cons, ih]
theorem giveC_grow : ∀ (c : List Lit) (ns : List Int), (∀ x, x ∈ c → LitSz x) → ns.Nodup → (giveC c ns).2.Nodup ∧ (giveC c ns).2.length ≤ ns.length + c.length * 2000 := by
  intro c
  induction c with
  | nil => intro ns _ hn; exact ⟨hn, Nat.le_add_right _ _⟩
  | cons x c ih =>
    intro ns hs hn
    have hx := hs x List.mem_cons_self
    have h1 := (give_grow x.2.1.sz).1 x.2.1 ns (Nat.le_refl _) hn
    have h2 := (give_grow x.2.2.sz).1 x.2.2 _ (Nat.le_refl _) h1.1
    have h3 := ih _ (fun y hy => hs y (List.mem_cons_of_mem _ hy)) h2.1
    rw [giveC, List.length_cons]
    refine ⟨h3.1, ?_⟩
    have := hx.1
    have := hx.2
    have h4 := h3.2
    have h5 := h2.2
    have h6 := h1.2
    show (giveC c (giveT x.2.2 (giveT x.2.1 ns).2).2).2.length ≤ _
    omega

/-- One of the literals, and what it leaves if it alone is changed. -/
theorem OwnCl_open {w : World} : ∀ {c : List Lit} {g off : Nat} {B : List Nat} {k : Nat} {x : Lit}, OwnCl w c g off B → c[k]? = some x → B.Nodup →
    ∃ s1 s2 B1 B2, w.cell? ⟨g, off + k * 7, none⟩ = some (.bool x.1) ∧ w.cell? ⟨g, off + k * 7 + 1, none⟩ = some (.int .i64 x.2.1.v) ∧ w.cell? ⟨g, off + k * 7 + 2, none⟩ = some (.int .i64 x.2.1.f) ∧ w.cell? ⟨g, off + k * 7 + 3, none⟩ = some s1 ∧ w.cell? ⟨g, off + k * 7 + 4, none⟩ = some (.int .i64 x.2.2.v) ∧ w.cell? ⟨g, off + k * 7 + 5, none⟩ = some (.int .i64 x.2.2.f) ∧ w.cell? ⟨g, off + k * 7 + 6, none⟩ = some s2 ∧
      x.2.1.Own w s1 B1 ∧ x.2.2.Own w s2 B2 ∧ (∀ j, j ∈ B1 ++ B2 → j ∈ B) ∧ (B1 ++ B2).Nodup ∧
      ∀ (w' : World) (x' : Lit), w'.cell? ⟨g, off + k * 7, none⟩ = some (.bool x'.1) → w'.cell? ⟨g, off + k * 7 + 1, none⟩ = some (.int .i64 x'.2.1.v) → w'.cell? ⟨g, off + k * 7 + 2, none⟩ = some (.int .i64 x'.2.1.f) → w'.cell? ⟨g, off + k * 7 + 3, none⟩ = some s1 → w'.cell? ⟨g, off + k * 7 + 4, none⟩ = some (.int .i64 x'.2.2.v) → w'.cell? ⟨g, off + k * 7 + 5, none⟩ = some (.int .i64 x'.2.2.f) → w'.cell? ⟨g, off + k * 7 + 6, none⟩ = some s2 →
        x'.2.1.Own w' s1 B1 → x'.2.2.Own w' s2 B2 → (∀ j, (j < off + k * 7 ∨ off + k * 7 + 6 < j) → w'.cell? ⟨g, j, none⟩ = w.cell? ⟨g, j, none⟩) → (∀ i, i ∈ B → i ∉ B1 ++ B2 → w'.heap[i]? = w.heap[i]?) → OwnCl w' (c.set k x') g off B := by
  intro c
  induction c with
  | nil => intro g off B k x _ h; simp at h
  | cons t c ih =>
    intro g off B k x h hk hn
    obtain ⟨s1, s2, B1, B2, Br, rfl, h0, h1, h2, h3, h4, h5, h6, o1, o2, hr⟩ := h
    rw [List.nodup_append] at hn
    cases k with
    | zero =>
      simp at hk; subst hk
      refine ⟨s1, s2, B1, B2, by simpa using h0, by simpa using h1, by simpa using h2, by simpa using h3, by simpa using h4, by simpa using h5, by simpa using h6, o1, o2, fun j hj => List.mem_append_left _ hj, hn.1, fun w' x' g0 g1 g2 g3 g4 g5 g6 p1 p2 gc gh => ?_⟩
      refine ⟨s1, s2, B1, B2, Br, rfl, by simpa using g0, by simpa using g1, by simpa using g2, by simpa using g3, by simpa using g4, by simpa using g5, by simpa using g6, p1, p2, ?_⟩
      exact OwnCl_mono (fun i hi => gh i (List.mem_append_right _ hi) (fun hb => hn.2.2 i hb i hi rfl)) (fun j hj _ => gc j (by omega)) hr
    | succ k =>
      obtain ⟨s1', s2', C1, C2, a0, a1, a2, a3, a4, a5, a6, p1, p2, a7, a8, a9⟩ := ih hr (by simpa using hk) hn.2.1
      have e : off + 7 + k * 7 = off + (k + 1) * 7 := by omega
      rw [e] at a0 a1 a2 a3 a4 a5 a6 a9
      refine ⟨s1', s2', C1, C2, a0, a1, a2, a3, a4, a5, a6, p1, p2, fun j hj => List.mem_append_right _ (a7 j hj), a8, fun w' x' g0 g1 g2 g3 g4 g5 g6 q1 q2 gc gh => ?_⟩
      have hd : ∀ i, i ∈ B1 ++ B2 → i ∉ C1 ++ C2 := fun i hi hc => hn.2.2 i hi i (a7 i hc) rfl
      refine ⟨s1, s2, B1, B2, Br, rfl, by rw [gc off (by omega)]; exact h0, by rw [gc (off + 1) (by omega)]; exact h1, by rw [gc (off + 2) (by omega)]; exact h2, by rw [gc (off + 3) (by omega)]; exact h3, by rw [gc (off + 4) (by omega)]; exact h4, by rw [gc (off + 5) (by omega)]; exact h5, by rw [gc (off + 6) (by omega)]; exact h6, Own_mono (fun i hi => gh i (List.mem_append_left _ (List.mem_append_left _ hi)) (hd i (List.mem_append_left _ hi))) o1, Own_mono (fun i hi => gh i (List.mem_append_left _ (List.mem_append_right _ hi)) (hd i (List.mem_append_right _ hi))) o2, ?_⟩
      exact a9 w' x' g0 g1 g2 g3 g4 g5 g6 q1 q2 gc (fun i hi hb => gh i (List.mem_append_right _ hi) hb)

/-- What stands while literals are gone through. -/
structure RC (w wr : World) (c : List Lit) (g mb : Nat) (B : List Nat) (k : Nat) : Prop where
  own : OwnCl wr ((giveC (c.take k) []).1 ++ c.drop k) g 0 B
  map : ∃ m, m ≤ k * 2000 ∧ IsAt wr mb m (numF (giveC (c.take k) []).2)
  below : Below w.heap.size w wr
  rng : ∀ j, j ∈ B → w.heap.size ≤ j ∧ j < wr.heap.size
  fr : ∀ j, wr.frozen? ⟨g, j, none⟩ = false
  gl : g < wr.heap.size
theorem RC.step {w wr w1 w2 : World} {c : List Lit} {g mb : Nat} {B : List Nat} {k : Nat} {x : Lit} {s1 s2 : Value} {B1 B2 : List Nat} {m : Nat} (h : RC w wr c g mb B k) (hx : c[k]? = some x) (hgB : g ∉ B) (hmB : mb ∉ B) (hwg : w.heap.size ≤ g) (hwm : w.heap.size ≤ mb)
    (a0 : wr.cell? ⟨g, 0 + k * 7, none⟩ = some (.bool x.1)) (a7 : ∀ j, j ∈ B1 ++ B2 → j ∈ B) (a8 : (B1 ++ B2).Nodup)
    (a9 : ∀ (w' : World) (x' : Lit), w'.cell? ⟨g, 0 + k * 7, none⟩ = some (.bool x'.1) → w'.cell? ⟨g, 0 + k * 7 + 1, none⟩ = some (.int .i64 x'.2.1.v) → w'.cell? ⟨g, 0 + k * 7 + 2, none⟩ = some (.int .i64 x'.2.1.f) → w'.cell? ⟨g, 0 + k * 7 + 3, none⟩ = some s1 → w'.cell? ⟨g, 0 + k * 7 + 4, none⟩ = some (.int .i64 x'.2.2.v) → w'.cell? ⟨g, 0 + k * 7 + 5, none⟩ = some (.int .i64 x'.2.2.f) → w'.cell? ⟨g, 0 + k * 7 + 6, none⟩ = some s2 →
        x'.2.1.Own w' s1 B1 → x'.2.2.Own w' s2 B2 → (∀ j, (j < 0 + k * 7 ∨ 0 + k * 7 + 6 < j) → w'.cell? ⟨g, j, none⟩ = wr.cell? ⟨g, j, none⟩) → (∀ i, i ∈ B → i ∉ B1 ++ B2 → w'.heap[i]? = wr.heap[i]?) → OwnCl w' (((giveC (c.take k) []).1 ++ c.drop k).set k x') g 0 B)
    (t1 : Tc w1 g (k * 7 + 1) (giveT x.2.1 (giveC (c.take k) []).2).1.v (giveT x.2.1 (giveC (c.take k) []).2).1.f s1) (p1 : (giveT x.2.1 (giveC (c.take k) []).2).1.Own w1 s1 B1) (g1 : Chg wr w1 B1 mb g (k * 7 + 1))
    (t2 : Tc w2 g (k * 7 + 4) (giveX x (giveC (c.take k) []).2).2.2.v (giveX x (giveC (c.take k) []).2).2.2.f s2) (p2 : (giveX x (giveC (c.take k) []).2).2.2.Own w2 s2 B2) (g2 : Chg w1 w2 B2 mb g (k * 7 + 4)) (hm : m ≤ (k + 1) * 2000) (hM : IsAt w2 mb m (numF (giveN x (giveC (c.take k) []).2))) :
    RC w w2 c g mb B (k + 1) := by
  have hlt := (List.getElem?_eq_some_iff.1 hx).1
  have hlen : (giveC (c.take k) []).1.length = k := by rw [giveC_length, List.length_take]; omega
  have hz1 := g1.size
  have hz2 := g2.size
  rw [List.nodup_append] at a8
  have hne : ∀ i, i ∈ B → i ≠ g ∧ i ≠ mb := fun i hi => ⟨fun e => hgB (by rw [← e]; exact hi), fun e => hmB (by rw [← e]; exact hi)⟩
  have hset : ((giveC (c.take k) []).1 ++ c.drop k).set k (giveX x (giveC (c.take k) []).2) = (giveC (c.take (k + 1)) []).1 ++ c.drop (k + 1) := by
    rw [giveC_step hx, List.drop_eq_getElem_cons hlt, List.append_assoc]
    have : ∀ (A R : List Lit) (y z : Lit), A.length = k → (A ++ y :: R).set k z = A ++ ([z] ++ R) := fun A R y z hA => by
      rw [List.set_append, if_neg (by omega), hA, Nat.sub_self]; rfl
    exact this _ _ _ _ hlen
  have hp1 : (giveT x.2.1 (giveC (c.take k) []).2).1.Own w2 s1 B1 := Own_mono (fun i hi => g2.block i (by have := (h.rng i (a7 i (List.mem_append_left _ hi))).2; omega) (hne i (a7 i (List.mem_append_left _ hi))).1 (hne i (a7 i (List.mem_append_left _ hi))).2 (fun hb => a8.2.2 i hi i hb rfl)) p1
  refine ⟨?_, ⟨m, hm, by rw [giveC_step hx]; exact hM⟩, ⟨g2.os.trans (g1.os.trans h.below.os), g2.tape.trans (g1.tape.trans h.below.tape), g2.output.trans (g1.output.trans h.below.output), by have := h.below.size; omega, fun i hi => ?_⟩, fun j hj => by have := h.rng j hj; omega, fun j => by rw [g2.fr, g1.fr]; exact h.fr j, by have := h.gl; omega⟩
  · rw [← hset]
    refine a9 w2 _ ?_ ?_ ?_ ?_ ?_ ?_ ?_ hp1 p2 (fun j hj => by rw [g2.cell j (by omega), g1.cell j (by omega)]) (fun i hi hb => ?_)
    · rw [g2.cell _ (by omega), g1.cell _ (by omega)]; exact a0
    · rw [Nat.zero_add, g2.cell _ (by omega)]; exact t1.e0
    · rw [Nat.zero_add, g2.cell _ (by omega)]; exact t1.e1
    · rw [Nat.zero_add, g2.cell _ (by omega)]; exact t1.e2
    · rw [Nat.zero_add]; exact t2.e0
    · rw [Nat.zero_add]; exact t2.e1
    · rw [Nat.zero_add]; exact t2.e2
    · rw [List.mem_append, not_or] at hb
      have hr := (h.rng i hi).2
      rw [g2.block i (by omega) (hne i hi).1 (hne i hi).2 hb.2, g1.block i hr (hne i hi).1 (hne i hi).2 hb.1]
  · have hsz := h.below.size
    have hnB : ∀ C : List Nat, (∀ j, j ∈ C → j ∈ B) → i ∉ C := fun C hC hi' => by have := (h.rng i (hC i hi')).1; omega
    rw [g2.block i (by omega) (by omega) (by omega) (hnB B2 (fun j hj => a7 j (List.mem_append_right _ hj))), g1.block i (by omega) (by omega) (by omega) (hnB B1 (fun j hj => a7 j (List.mem_append_left _ hj)))]
    exact h.below.block i hi

attribute [local go_sem ↓] Go.wp_at_zero Go.wp_at_succ
set_option maxRecDepth 100000 in
set_option maxHeartbeats 2000000 in
theorem renumbered_any (c : List Lit) (ca : Option Addr) (cc : Nat) (w : World) (hl : c.length ≤ 20) (hsz : ∀ x, x ∈ c → LitSz x) (hvr : ∀ x, x ∈ c → (∀ y, y ∈ parts x.2.1 → 0 ≤ y.v ∧ y.v ≤ 1000) ∧ ∀ y, y ∈ parts x.2.2 → 0 ≤ y.v ∧ y.v ≤ 1000) (hc : LitsP w c ca) :
    Calls Tryz.prog 42 #[.slice ca c.length cc] w fun e w' => ∃ g B, e = .returned (.slice (some ⟨g, 0, none⟩) c.length c.length) ∧ OwnCl w' (giveC c []).1 g 0 B ∧ (g :: B).Nodup ∧ (∀ j, j ∈ g :: B → w.heap.size ≤ j ∧ j < w'.heap.size) ∧ Below w.heap.size w w' := by
  have HC := hide (copyClause_any c ca cc w (by omega) hsz hc)
  have hmm := @run_makeMap Tryz.prog
  have Hsz := hide hsz
  have Hvr := hide hvr
  clear hsz hvr hc
  go_enter Tryz.func42, Tryz.ntmps42
  go_wp2_with fail
  refine HC.out.mono ?_
  rintro e w1 ⟨rfl, B, hcc⟩
  have hgl := hcc.gl
  have hz1 := hcc.below.size
  have hgB : w.heap.size ∉ B := fun h => by have := (hcc.rng _ h).1; omega
  have hmB : w1.heap.size ∉ B := fun h => by have := (hcc.rng _ h).2; omega
  have hBn := hcc.nd
  have HL0 : Hid (RC w (w1.alloc (.map #[] 0)) c w.heap.size w1.heap.size B 0) := by
    have hown := hcc.own
    rw [List.take_length] at hown
    refine ⟨OwnCl_mono (fun j hj => (below1 w1 _).block j (hcc.rng j hj).2) (fun j _ _ => (below1 w1 _).cell (p := ⟨w.heap.size, j, none⟩) hgl) hown, ⟨0, Nat.le_refl _, MapAt.made w1⟩, hcc.below.trans ((below1 w1 _).mono hz1), fun j hj => ?_, fun j => by rw [(below1 w1 _).frozen (p := ⟨w.heap.size, j, none⟩) hgl]; exact hcc.fr j, by rw [World.size_alloc]; omega⟩
    have := hcc.rng j hj
    rw [World.size_alloc]
    omega
  clear HC hcc
  go_wp2_with fail
  go_loopw [11] (fun i wr => ∃ k : Nat, k ≤ c.length ∧ i = .int .i64 (k : Int) ∧ Hid (RC w wr c w.heap.size w1.heap.size B k)) (fun i _ => c.length - (intOf i).toNat)
  case atStart => exact ⟨0, Nat.zero_le _, rfl, HL0⟩
  case round =>
    obtain ⟨k, hk, rfl, HRC⟩ := hrel
    by_cases hlt : k < c.length
    · obtain ⟨x, hx⟩ : ∃ x, c[k]? = some x := ⟨c[k], List.getElem?_eq_getElem hlt⟩
      have hlen : (giveC (c.take k) []).1.length = k := by rw [giveC_length, List.length_take]; omega
      have hxa : ((giveC (c.take k) []).1 ++ c.drop k)[k]? = some x := by
        rw [List.getElem?_append_right (by omega), hlen, Nat.sub_self, List.getElem?_drop, Nat.add_zero]; exact hx
      obtain ⟨s1, s2, B1, B2, a0, a1, a2, a3, a4, a5, a6, o1, o2, a7, a8, a9⟩ := OwnCl_open HRC.out.own hxa hBn
      obtain ⟨m, hm, hM⟩ := HRC.out.map
      have hxc := List.mem_of_getElem? hx
      have hxs := Hsz.out x hxc
      have hxv := Hvr.out x hxc
      have hgr := giveC_grow (c.take k) [] (fun y hy => Hsz.out y (List.mem_of_mem_take hy)) List.nodup_nil
      have hgl2 : (c.take k).length = k := by rw [List.length_take]; omega
      rw [hgl2, List.length_nil, Nat.zero_add] at hgr
      have a8' := a8
      rw [List.nodup_append] at a8'
      have hrg := HRC.out.rng
      have hglr := HRC.out.gl
      have hg1 := (give_grow x.2.1.sz).1 x.2.1 (giveC (c.take k) []).2 (Nat.le_refl _) hgr.1
      rw [Nat.zero_add] at a0 a1 a2 a3 a4 a5 a6
      have h20 := hxs.1
      have h21 := hxs.2
      have HG1 := hide (give_any w1.heap.size x.2.1.sz x.2.1 s1 B1 w.heap.size (k * 7 + 1) m (giveC (c.take k) []).2 wr (Nat.le_refl _) hxs.1 hxv.1 ⟨a1, a2, a3, HRC.out.fr⟩ o1 a8'.1 (fun h => hgB (a7 _ (List.mem_append_left _ h))) (fun h => hmB (a7 _ (List.mem_append_left _ h))) (by omega) hM hgr.1 (by have := hgr.2; omega) (by omega) (fun j hj => (hrg j (a7 j (List.mem_append_left _ hj))).2))
      have HG2 := hide (fun (w2 : World) (m2 : Nat) (g1 : Chg wr w2 B1 w1.heap.size w.heap.size (k * 7 + 1)) (hm2 : m2 ≤ m + x.2.1.sz) (hM2 : IsAt w2 w1.heap.size m2 (numF (giveT x.2.1 (giveC (c.take k) []).2).2)) => give_any w1.heap.size x.2.2.sz x.2.2 s2 B2 w.heap.size (k * 7 + 4) m2 (giveT x.2.1 (giveC (c.take k) []).2).2 w2 (Nat.le_refl _) hxs.2 hxv.2
        ⟨by rw [g1.cell _ (by omega)]; exact a4, by rw [g1.cell _ (by omega)]; exact a5, by rw [g1.cell _ (by omega)]; exact a6, fun j => by rw [g1.fr]; exact HRC.out.fr j⟩
        (Own_mono (fun i hi => g1.block i (hrg i (a7 i (List.mem_append_right _ hi))).2 (fun e => hgB (by rw [← e]; exact a7 i (List.mem_append_right _ hi))) (fun e => hmB (by rw [← e]; exact a7 i (List.mem_append_right _ hi))) (fun hb => a8'.2.2 i hb i hi rfl)) o2) a8'.2.1 (fun h => hgB (a7 _ (List.mem_append_right _ h))) (fun h => hmB (a7 _ (List.mem_append_right _ h))) (by omega) hM2 hg1.1 (by have := hgr.2; have := hg1.2; omega) (by omega) (fun j hj => by have := (hrg j (a7 j (List.mem_append_right _ hj))).2; have := g1.size; omega))
      have HSt := hide (fun (w2 w3 : World) (m3 : Nat) => RC.step (w1 := w2) (w2 := w3) (m := m3) HRC.out hx hgB hmB (Nat.le_refl _) hz1 (by rw [Nat.zero_add]; exact a0) a7 a8 a9)
      have hkI : (k : Int) < c.length := by omega
      have hk0 : (0 : Int) ≤ k := by omega
      have Hm := hide hm
      have Hxs := hide hxs
      clear a0 a1 a2 a3 a4 a5 a6 a7 a8 a8' a9 o1 o2 hM hx hxa hxc hxv hgr hrg hg1 hm hxs h20 h21
      go_wp2_with fail
      refine HG1.out.mono ?_
      rintro e w2 ⟨rfl, t1, p1, ⟨m2, hm2, hM2⟩, g1⟩
      have HG3 := hide (HG2.out w2 m2 g1 hm2 hM2)
      have Ht1 := hide t1
      have Hp1 := hide p1
      have Hg1 := hide g1
      clear HG1 HG2 t1 p1 hM2 g1
      go_wp2_with fail
      refine HG3.out.mono ?_
      rintro e w3 ⟨rfl, t2, p2, ⟨m3, hm3, hM3⟩, g2⟩
      have HN := hide (HSt.out w2 w3 m3 Ht1.out Hp1.out Hg1.out t2 p2 g2 (by have := Hm.out; have := Hxs.out.1; have := Hxs.out.2; omega) hM3)
      clear HG3 HSt t2 p2 hM3 g2 Ht1 Hp1 Hg1
      go_wp2_with fail
      go_roundw
      case rel => exact ⟨k + 1, by omega, by go_num, HN⟩
      case measure => simp [intOf]; omega
    · have hk2 : k = c.length := by omega
      subst hk2
      have hown := HRC.out.own
      rw [List.take_length, List.drop_length, List.append_nil] at hown
      have Hfin : Hid (OwnCl wr (giveC c []).1 w.heap.size 0 B ∧ (w.heap.size :: B).Nodup ∧ (∀ j, j ∈ w.heap.size :: B → w.heap.size ≤ j ∧ j < wr.heap.size) ∧ Below w.heap.size w wr) := by
        refine ⟨hown, List.nodup_cons.2 ⟨hgB, hBn⟩, fun j hj => ?_, HRC.out.below⟩
        rcases List.mem_cons.1 hj with rfl | hj
        · exact ⟨Nat.le_refl _, HRC.out.gl⟩
        · exact HRC.out.rng j hj
      clear hown
      go_wp2_with fail
      go_ret
      exact ⟨_, B, rfl, Hfin.out⟩

/-- What Tidy answers. -/
def tidyS (ar : List Int) (c : List Lit) : List Lit × Int := if clausesErr ar [c] = 0 then ((giveC (needS [] c) []).1, 0) else ([], clausesErr ar [c])
theorem okP_parts_v {ar : List Int} {t : T} (ht : okP ar t) : ∀ y, y ∈ parts t → 0 ≤ y.v ∧ y.v ≤ 1000 := fun y hy => by
  by_cases h : y.v = 0
  · omega
  · have := part_v ht hy h; omega

set_option maxRecDepth 100000 in
set_option maxHeartbeats 400000 in
theorem checkV_any (ar : List Int) (ga : Option Addr) (gcap : Nat) (cs : List (List Lit)) (la : Option Addr) (lc : Nat) (w : World) (hg : Ints w ar ga) (hl : cs.length ≤ 9223372036854775807) (hcl : ∀ c, c ∈ cs → c.length ≤ 9223372036854775807) (hc : ClausesP w cs la) :
    Calls Tryz.prog 41 #[.agg #[.slice ga ar.length gcap], .slice la cs.length lc] w fun e w' => e = .returned (.int .i64 (clausesErr ar cs)) ∧ Below w.heap.size w w' := by
  have HC := hide (fun o => cCheck_any ar ga gcap cs la lc (w.alloc o) (Ints_alloc o hg) hl hcl (ClausesP_below (below1 w o) hc))
  clear hg hcl hc
  go_enter Tryz.func41, Tryz.ntmps41
  go_wp2_with fail
  refine (HC.out _).mono ?_
  rintro e w1 ⟨rfl, hb1⟩
  have Hb := hide ((below1 w _).trans (hb1.mono (by simp)))
  clear hb1 HC
  go_wp2_with fail
  go_ret
  exact ⟨rfl, Hb.out⟩
theorem lits_sz {ar : List Int} {c : List Lit} (h : LitsOk ar c) : ∀ x, x ∈ c → LitSz x := fun x hx => ⟨by have := (h x hx).1.1; omega, by have := (h x hx).2.1; omega⟩
theorem lits_v {ar : List Int} {c : List Lit} (h : LitsOk ar c) : ∀ x, x ∈ c → (∀ y, y ∈ parts x.2.1 → 0 ≤ y.v ∧ y.v ≤ 1000) ∧ ∀ y, y ∈ parts x.2.2 → 0 ≤ y.v ∧ y.v ≤ 1000 := fun x hx => ⟨okP_parts_v (h x hx).1.2, okP_parts_v (h x hx).2.2⟩
theorem need_ok {ar : List Int} {c : List Lit} (h : LitsOk ar c) : LitsOk ar (needS [] c) := fun x hx => by
  rcases need_mem hx with h1 | h1
  · cases h1
  · exact h x h1
/-- A clause handed back. -/
def GivesC (x : List Lit × Int) (base : Nat) (e : Ending) (w' : World) : Prop :=
  ∃ a cap, e = .returned (.tuple #[.slice a x.1.length cap, .int .i64 x.2]) ∧ LitsP w' x.1 a ∧ (x.1 = [] ∨ ∃ g B, a = some ⟨g, 0, none⟩ ∧ cap = x.1.length ∧ OwnCl w' x.1 g 0 B ∧ (g :: B).Nodup ∧ ∀ j, j ∈ g :: B → base ≤ j ∧ j < w'.heap.size)

set_option maxRecDepth 100000 in
set_option maxHeartbeats 1000000 in
theorem Tidy_any (ar : List Int) (ga : Option Addr) (gcap : Nat) (c : List Lit) (ca : Option Addr) (cc : Nat) (w : World) (hg : Ints w ar ga) (hcl : c.length ≤ 9223372036854775807) (hc : LitsP w c ca) :
    Calls Tryz.prog 12 #[.agg #[.slice ga ar.length gcap], .slice ca c.length cc] w fun e w' => GivesC (tidyS ar c) w.heap.size e w' ∧ Below w.heap.size w w' := by
  have HC := hide (fun o e1 => checkV_any ar ga gcap [c] (some ⟨(w.alloc o).heap.size, 0, none⟩) 1 ((w.alloc o).alloc (.cells #[.slice ca c.length cc] e1)) (Ints_alloc _ (Ints_alloc o hg)) (by simp) (fun c' h => by simp at h; rw [h]; exact hcl) ⟨(w.alloc o).heap.size, 0, ca, cc, rfl, cell_new 0 rfl, LitsP_below (below1 _ _) (LitsP_below (below1 _ _) hc), trivial⟩)
  obtain ⟨E, hE⟩ : ∃ E, E = clausesErr ar [c] := ⟨_, rfl⟩
  rw [← hE] at HC
  have HE := hide hE
  have Hc := hide hc
  clear hg hc hE
  simp only [World.size_alloc] at HC
  go_enter Tryz.func12, Tryz.ntmps12
  go_wp2_with fail
  refine (HC.out _ _).mono ?_
  rintro e w1 ⟨rfl, hb1⟩
  have hz1 := hb1.size
  simp at hz1
  have Hb1 : Hid (Below w.heap.size w w1) := (below2 w _ _).trans (hb1.mono (by first | omega | (rw [World.size_alloc, World.size_alloc]; omega)))
  clear hb1 HC
  by_cases h0 : E = 0
  · obtain ⟨_, hl8, hlo⟩ := clauses_ok (HE.out.symm.trans h0)
    have hno := need_ok hlo
    have hnl : (needS [] c).length ≤ 8 := by have := need_len (c := c) (acc := []); simp at this; omega
    have Hsp : Hid (tidyS ar c = ((giveC (needS [] c) []).1, 0)) := by show _ = _; rw [tidyS, if_pos (HE.out.symm.trans h0)]
    have HN := hide (needed_any c ca cc w1 (by omega) (lits_sz hlo) (LitsP_below Hb1.out Hc.out))
    obtain ⟨D, hD⟩ : ∃ D, D = needS [] c := ⟨_, rfl⟩
    rw [← hD] at HN Hsp hno hnl
    have HR := hide (fun (a : Option Addr) (cap : Nat) (w' : World) (h : LitsP w' D a) => renumbered_any D a cap w' (by omega) (lits_sz hno) (lits_v hno) h)
    subst h0
    clear hno hlo hD
    go_wp2_with fail
    refine HN.out.mono ?_
    rintro e w2 ⟨a2, cap2, rfl, hq2, hb2⟩
    have HR2 := hide (HR.out a2 cap2 w2 (LitsQ_lits hq2))
    have Hb2 := hide (Hb1.out.trans (hb2.mono Hb1.out.size))
    clear hq2 hb2 HN HR
    go_wp2_with fail
    refine HR2.out.mono ?_
    rintro e w3 ⟨g, B, rfl, hown, hnd, hrg, hb3⟩
    have Hf := hide (Hb2.out.trans (hb3.mono Hb2.out.size))
    have Hfin : Hid (GivesC (tidyS ar c) w.heap.size (.returned (.tuple #[.slice (some ⟨g, 0, none⟩) D.length D.length, .int .i64 0])) w3) := by
      rw [Hsp.out]
      have hgl : (giveC D []).1.length = D.length := giveC_length _ _
      refine ⟨some ⟨g, 0, none⟩, D.length, by simp only; rw [hgl], OwnCl_lits hown, Or.inr ⟨g, B, rfl, hgl.symm, hown, hnd, fun j hj => ?_⟩⟩
      have h1 := hrg j hj
      have h2 := Hb2.out.size
      exact ⟨by omega, h1.2⟩
    clear hown hnd hrg hb3 HR2
    go_wp2_with fail
    go_ret2
    exact ⟨Hfin.out, Hf.out⟩
  · have e0 : (E != 0) = true := by simpa using h0
    have Hsp : Hid (tidyS ar c = ([], E)) := by show _ = _; rw [tidyS, if_neg (by rw [← HE.out]; exact h0), HE.out]
    clear h0
    go_wp2_with fail
    go_ret2
    exact ⟨by rw [Hsp.out]; exact ⟨none, 0, rfl, trivial, Or.inl rfl⟩, Hb1.out⟩
end Go.Proofs.YtbkedppkdhfpoabGreat

namespace Go.Proofs.YtbkedppkdhfpoabGreat
open Go.RowKit Go.Maps

theorem Tryz.underW : Tryz.prog.underlying 152 = some (.map 3 77) := by kernel_rfl
theorem Tryz.zeroW (w : World) : (zeroValue 77).run Tryz.prog w = .ok (.agg #[.int .i64 0, .int .i64 0, .slice none 0 0]) w := by kernel_rfl
/-- What variables are bound to. -/
abbrev Way := Int → Option T
/-- A map's values are those terms. -/
def GMap (p : Nat → Prop) (w : World) (g : Way) (f : Int → Option Value) : Prop :=
  ∀ v : Int, (g v = none → f v = none) ∧ ∀ u, g v = some u → ∃ a cap, f v = some (.agg #[.int .i64 u.v, .int .i64 u.f, .slice a u.args.length cap]) ∧ InP p w u.args a
theorem GMap.mono {p q : Nat → Prop} {w w' : World} {g : Way} {f : Int → Option Value} (hs : ∀ k, p k → k < w.heap.size → q k ∧ w'.heap[k]? = w.heap[k]?) (h : GMap p w g f) : GMap q w' g f := fun v =>
  ⟨(h v).1, fun u hu => by
    obtain ⟨a, cap, h1, h2⟩ := (h v).2 u hu
    exact ⟨a, cap, h1, InP_mono (fun b o x hp hx => ⟨(hs b hp (lt_of_cell hx)).1, by rw [World.cell?_of_block (w := w) (a := ⟨b, o, none⟩) (hs b hp (lt_of_cell hx)).2]; exact hx⟩) _ _ _ (Nat.le_refl _) h2⟩⟩
/-- A way in memory: in block b, with what lies behind it. -/
def WayAt (p : Nat → Prop) (w : World) (b n : Nat) (g : Way) : Prop := p b ∧ ∃ f, MapAt w b n f ∧ GMap p w g f
theorem WayAt.lt {p : Nat → Prop} {w : World} {b n : Nat} {g : Way} (h : WayAt p w b n g) : b < w.heap.size := by obtain ⟨_, f, hM, _⟩ := h; exact hM.lt
theorem WayAt.mono {p q : Nat → Prop} {w w' : World} {b n : Nat} {g : Way} (hs : ∀ k, p k → k < w.heap.size → q k ∧ w'.heap[k]? = w.heap[k]?) (h : WayAt p w b n g) : WayAt q w' b n g := by
  have hl := h.lt
  obtain ⟨hp, f, hM, hG⟩ := h
  exact ⟨(hs b hp hl).1, f, hM.same (hs b hp hl).2, hG.mono hs⟩
theorem WayAt.below {p : Nat → Prop} {w w' : World} {b n : Nat} {g : Way} (h : WayAt p w b n g) (hb : Below w.heap.size w w') : WayAt p w' b n g := h.mono fun k hp hk => ⟨hp, hb.block k hk⟩
theorem WayAt.imp {p q : Nat → Prop} {w : World} {b n : Nat} {g : Way} (h : WayAt p w b n g) (hi : ∀ k, p k → q k) : WayAt q w b n g := h.mono fun k hp _ => ⟨hi k hp, rfl⟩
/-- The terms are not great. -/
def WaySz (g : Way) : Prop := ∀ v u, g v = some u → u.sz ≤ 1000 ∧ -9223372036854775808 ≤ v ∧ v ≤ 9223372036854775807
/-- Do two of them bind no variable to two things? -/
def agreeP (g o : Way) : Prop := ∀ v t u, g v = some t → o v = some u → t = u
/-- The answer tells whether it is so. -/
def Says (P : Prop) (e : Ending) : Prop := ∃ r : Bool, e = .returned (.bool r) ∧ (r = true ↔ P)
theorem says_yes {P : Prop} (h : P) : Says P (.returned (.bool true)) := ⟨true, rfl, fun _ => h, fun _ => rfl⟩
theorem says_no {P : Prop} (h : ¬ P) : Says P (.returned (.bool false)) := ⟨false, rfl, (fun e => (by cases e)), fun h' => absurd h' h⟩
/-- The step of a loop over such a map. -/
theorem wpList_next_way {w : World} {ops : Array Oper} {rest : List Oper} {o : Oper} {a : Act} {Q : Exit → Act → World → Prop} (hg : o.guard = none) (it : Operand) (hop : o.op = Op.next it false) (b r n : Nat) (D : DataW Value) (left : Go.Lit → Bool) (cnt : Nat) (f : Int → Option Value)
    (hf : ∀ k : Int, Maps.has D (.int .i64 k) = (f k).isSome ∧ ∀ v, f k = some v → ∀ z, D.atKey (.int .i64 k) z = .held v) (hsub : ∀ k : Int, left (.int .i64 k) = true → (f k).isSome = true)
    (hit : a.eval it = .pointer (some ⟨r, 0, none⟩)) (h : w.ranges Tryz.prog 3 Rv b r n D left cnt)
    (hDone : (∀ k : Int, left (.int .i64 k) = false) → wpList Tryz.prog ops Q rest (a.put o.dst (.tuple #[.bool false])) w)
    (hMore : ∀ (x : Int) (v : Value) (w' : World) (cnt' : Nat), -9223372036854775808 ≤ x ∧ x ≤ 9223372036854775807 → f x = some v → w'.ranges Tryz.prog 3 Rv b r n D (fun z => left z && !z.sameKey (.int .i64 x)) cnt' → cnt' < cnt →
      w.grownBy w' (some r) → w'.heap.size = w.heap.size → (Instr.entry (.pointer (some ⟨r, 0, none⟩))).run Tryz.prog w' = .ok (.tuple #[.int .i64 x, v]) w' → wpList Tryz.prog ops Q rest (a.put o.dst (.tuple #[.bool true, .int .i64 x, v])) w') :
    wpList Tryz.prog ops Q (o :: rest) a w := by
  refine wpList_next_ranges w hg it hop 3 Tryz.key3 Rv (Value.int .i64) id (fun key kl hkey => by obtain ⟨x, rfl, _⟩ := Maps.keyOf_int_inv Tryz.underlying3 hkey; exact ⟨x, rfl⟩) (fun v y _ => ⟨v, rfl⟩) b r n D left cnt hit h (fun _ hl => hDone (fun k => hl _)) ?_
  intro x v kl y w' cnt' hkey hlk hv hat hrg hlt hgr hsz hen
  obtain ⟨x', ex, rfl, hwx⟩ := Maps.keyOf_int_inv Tryz.underlying3 hkey
  cases ex
  have h1 := hsub x hlk
  obtain ⟨u, hu⟩ := Option.isSome_iff_exists.1 h1
  have h2 := (hf x).2 u hu .nil
  rw [hat] at h2
  have h3 : y = (.held v, []) := by
    have : Rv v = some y := hv
    rw [Rv] at this
    exact (Option.some.inj this).symm
  rw [h3] at h2
  have h4 : v = u := by simpa using h2
  have hb : -9223372036854775808 ≤ x ∧ x ≤ 9223372036854775807 := by
    have h9 := hwx
    simp [Go.Lit.wf, IntKind.min, IntKind.max, IntKind.signed, IntKind.bits] at h9
    omega
  exact hMore x v w' cnt' hb (by rw [h4]; exact hu) hrg hlt hgr hsz hen
theorem same_key (x k : Int) : (Go.Lit.int .i64 k).sameKey (.int .i64 x) = (k == x) := by
  rw [Bool.eq_iff_iff]
  simp [Go.Lit.sameKey]
theorem grown_none {w w' : World} (hb : Below w.heap.size w w') : w.grownBy w' none := ⟨hb.os, hb.tape, hb.output, hb.size, fun k hk _ => hb.block k hk⟩
attribute [local go_sem ↓] Go.wp_at_zero Go.wp_at_succ
set_option maxRecDepth 100000 in
set_option maxHeartbeats 1000000 in
theorem agrees_any (p : Nat → Prop) (g o : Way) (b n b2 n2 : Nat) (w : World) (hgz : WaySz g) (hg : WayAt p w b n g) (ho : WayAt p w b2 n2 o) :
    Calls Tryz.prog 117 #[.map (some b), .map (some b2)] w fun e w' => Says (agreeP g o) e ∧ Below w.heap.size w w' := by
  obtain ⟨_, f, ⟨D, hD, hf⟩, hG⟩ := hg
  obtain ⟨_, f2, hM2, hG2⟩ := ho
  have Hf := hide hf
  have HG := hide hG
  have HG2 := hide hG2
  have HM2 := hide hM2
  have Hgz := hide hgz
  clear hf hG hG2 hM2 hgz
  go_enter Tryz.func117, Tryz.ntmps117
  go_wp2_with (first | (at_range; refine wpList_range_own _ rfl _ 152 rfl 3 77 Tryz.key3 Tryz.underW _ b n D rfl hD ?_; intro w0 hrg0 hg0 hs0) | go_in)
  go_frame
  have Hb0 : Hid (Below w.heap.size w w0) := (Below.refl w.heap.size w).grown hg0 (Nat.le_refl _) (fun k hk => by cases hk)
  have H0 : Hid (∀ k : Int, Maps.has D (.int .i64 k) = true → (f k).isSome = true) := fun k hk => by rw [← (Hf.out k).1]; exact hk
  go_loopw [12] (fun _ wr => ∃ (left : Go.Lit → Bool) (cnt : Nat), Hid (wr.ranges Tryz.prog 3 Rv b w.heap.size n D left cnt) ∧ Hid (∀ k : Int, left (.int .i64 k) = true → (f k).isSome = true) ∧ Hid (∀ (k : Int) (t u : T), left (.int .i64 k) = false → g k = some t → o k = some u → t = u) ∧ Hid (Below w.heap.size w wr)) (fun _ wr => wr.rangeLeft b w.heap.size)
  case atStart => exact ⟨_, _, hide hrg0, H0, hide (fun k t u hk hk1 _ => by
    obtain ⟨a, cap, h1, _⟩ := (HG.out k).2 t hk1
    rw [(Hf.out k).1, h1] at hk; cases hk), Hb0⟩
  case round =>
    obtain ⟨left, cnt, Hrg, Hsub, Hag, Hb⟩ := hrel
    clear hrg0 hg0 hs0 hD
    go_wp2_with (first | (at_next; refine wpList_next_way rfl _ rfl b w.heap.size n D left cnt f Hf.out Hsub.out rfl Hrg.out ?_ ?_) | go_in)
    · intro hl0
      have Hend : Hid (agreeP g o) := (fun v t u h1 h2 => Hag.out v t u (hl0 v) h1 h2)
      clear hl0
      go_wp2_with fail
      go_ret
      exact ⟨says_yes Hend.out, Hb.out⟩
    · intro x v w1 cnt1 hxI hxJ hfx hrg1 hlt hg1 hs1 hen
      have Hb1 : Hid (Below w.heap.size w w1) := Hb.out.grown hg1 Hb.out.size (fun k hk => by cases hk; exact Nat.le_refl _)
      obtain ⟨t, htx⟩ : ∃ t, g x = some t := by
        cases hgx : g x with
        | none => rw [(HG.out x).1 hgx] at hfx; cases hfx
        | some t => exact ⟨t, rfl⟩
      obtain ⟨a, cap, hfv, hin⟩ := (HG.out x).2 t htx
      obtain rfl : v = .agg #[.int .i64 t.v, .int .i64 t.f, .slice a t.args.length cap] := Option.some.inj (hfx.symm.trans hfv)
      have Hin := hide (InP_imp (q := fun _ => True) (fun _ _ => trivial) (InP_below Hb1.out hin))
      have htz := (Hgz.out x t htx).1
      have hlook := fun o1 => (HM2.out.below (Hb1.out.trans ((below1 w1 o1).mono Hb1.out.size))).look_ok (t := 152) Tryz.underW (Tryz.zeroW _) (k := x) hxI hxJ
      have Hrg1 := hide hrg1
      have Hmes := hide (show ∀ wr' : World, wr'.ranges Tryz.prog 3 Rv b w.heap.size n D (fun z => left z && !z.sameKey (.int .i64 x)) cnt1 → wr'.rangeLeft b w.heap.size < wr.rangeLeft b w.heap.size from fun wr' h => by rw [h.left_eq, Hrg.out.left_eq]; exact hlt)
      have Hkp := hide (fun (w' : World) (hb : Below w1.heap.size w1 w') => hrg1.kept (grown_none hb) (by simp) (by simp))
      have Hsub' : Hid (∀ k : Int, (left (.int .i64 k) && !(Go.Lit.int .i64 k).sameKey (.int .i64 x)) = true → (f k).isSome = true) := fun k hk => Hsub.out k (by rw [Bool.and_eq_true] at hk; exact hk.1)
      have Hag' : Hid ((∀ u, o x = some u → t = u) → ∀ (k : Int) (t' u : T), (left (.int .i64 k) && !(Go.Lit.int .i64 k).sameKey (.int .i64 x)) = false → g k = some t' → o k = some u → t' = u) := by
        intro h9 k t' u hk h1 h2
        rw [same_key] at hk
        by_cases hkx : k = x
        · subst hkx
          rw [htx] at h1
          obtain rfl := Option.some.inj h1
          exact h9 u h2
        · have : (k == x) = false := by simpa using hkx
          rw [this] at hk
          exact Hag.out k t' u (by simpa using hk) h1 h2
      have Htx := hide htx
      have HrB := hide hg1
      clear hrg1 hlt hg1 hfx hfv hin htx
      cases hox : o x with
      | none =>
        rw [(HG2.out x).1 hox] at hlook
        have Hag2 := hide (Hag'.out (fun u hu => by rw [hox] at hu; cases hu))
        clear hox Hag'
        simp only [Option.getD_none, Option.isSome_none] at hlook
        go_wp2_with fail
        go_roundw
        case rel => exact ⟨_, cnt1, hide (Hkp.out _ (below2 _ _ _)), Hsub', Hag2, hide (Hb1.out.trans ((below2 _ _ _).mono Hb1.out.size))⟩
        case measure => exact Hmes.out _ (Hkp.out _ (below2 _ _ _))
      | some u =>
        obtain ⟨a2, cap2, hf2, hin2⟩ := (HG2.out x).2 u hox
        rw [hf2] at hlook
        have Hin2 := hide (InP_imp (q := fun _ => True) (fun _ _ => trivial) (InP_below Hb1.out hin2))
        have HS := hide (fun o1 o2 => treeSame_any t.sz t u a cap a2 cap2 ((w1.alloc o1).alloc o2) (Nat.le_refl _) htz (InP_alloc o2 (InP_alloc o1 Hin.out)) (InP_alloc o2 (InP_alloc o1 Hin2.out)))
        simp only [Option.getD_some, Option.isSome_some] at hlook
        have Hox := hide hox
        clear hox hf2 hin2
        go_wp2_with fail
        refine (HS.out _ _).mono ?_
        rintro e w2 ⟨rfl, hb2⟩
        have Hb2 := hide ((below2 w1 _ _).trans (hb2.mono (by simp; omega)))
        clear hb2 HS
        by_cases htu : sameT t u = true
        · have Hag2 := hide (Hag'.out (fun u' hu' => by rw [Hox.out] at hu'; obtain rfl := Option.some.inj hu'; exact sameT_iff.1 htu))
          rw [htu]
          clear htu Hag'
          go_wp2_with fail
          go_roundw
          case rel => exact ⟨_, cnt1, hide (Hkp.out _ Hb2.out), Hsub', Hag2, hide (Hb1.out.trans (Hb2.out.mono Hb1.out.size))⟩
          case measure => exact Hmes.out _ (Hkp.out _ Hb2.out)
        · have htu' : sameT t u = false := by simpa using htu
          have Hend : Hid (¬ agreeP g o) := (fun h => htu (sameT_iff.2 (h x t u Htx.out Hox.out)))
          rw [htu']
          clear htu htu'
          go_wp2_with fail
          go_ret
          exact ⟨says_no Hend.out, Hb1.out.trans (Hb2.out.mono Hb1.out.size)⟩
end Go.Proofs.YtbkedppkdhfpoabGreat
