/- The document's own matching: Grow. The document's At, once more: what it finds lies where the term does. The walk of the statement on Greater and Compare, over what the document's own order answers. The document's own check of rules. -/
import Derived.BigQuiet
import Derived.Deep.RegionHeld3
import Derived.Deep.RegionLaw
import Derived.Test.YtbkedppkdhfpoaaJoined14
namespace Go.Proofs.Ytbkedppkdhfpoaa
open Go.RowKit

theorem newB {base n : Nat} {w : World} (h : w.heap[n]? = some (.cells #[] 95)) (hb : base ≤ n) : w.ownsRow base 95 4 (.slice (some ⟨n, 0, none⟩) 0 0) 0 [] :=
  ⟨by simp, Or.inr ⟨n, 0, #[], rfl, hb, h, by simp, by decide, by simp, by simp⟩⟩
theorem newB1 (w : World) (o : Obj) : (w.alloc o).drew.heap[w.heap.size]? = some o := heap_alloc_new w o
theorem newB2 (w : World) (o o2 : Obj) : ((w.alloc o).alloc o2).drew.heap[w.heap.size]? = some o := (Below.heap_alloc (w.alloc o) o2 w.heap.size (by simp)).trans (heap_alloc_new w o)
theorem newB3 (w : World) (o o2 : Obj) : ((w.alloc o2).alloc o).drew.heap[w.heap.size + 1]? = some o := by
  have h := heap_alloc_new (w.alloc o2) o
  rw [World.size_alloc] at h
  exact h
/-- One binding in a block of its own. -/
theorem src_b {w : World} {n : Nat} {v a b : Int} {s : Value} (h : w.heap[n]? = some (.cells #[.int .i64 v, .int .i64 a, .int .i64 b, s] 95)) (hs : s.oneCell' = true) : SrcB w (.slice (some ⟨n, 0, none⟩) 1 1) 1 [.int .i64 v, .int .i64 a, .int .i64 b, s] :=
  Or.inr ⟨n, 0, 1, rfl, rfl, fun j u hu => by
    unfold World.cell?
    rw [h]
    simpa using hu, fun u hu => by
    simp only [List.mem_cons, List.not_mem_nil, or_false] at hu
    rcases hu with rfl | rfl | rfl | rfl
    · rfl
    · rfl
    · rfl
    · exact hs⟩

theorem fin_b {Q : Nat → Prop} {W2 w8 : World} {bs : List (Int × T)} {cs : List Value} {v : Int} {t : T} {ta : Option Addr} {tc : Nat} {v8 : Value} (hQ : ∀ k, W2.heap.size ≤ k → Q k) (hk : KidsB (fun k => Q k ∧ k < W2.heap.size) W2 bs cs) (ht : InP Q W2 t.args ta) (hb : Below W2.heap.size W2 w8) (hown : w8.ownsRow W2.heap.size 95 4 v8 (bs.length + 1) (cs ++ [.int .i64 v, .int .i64 t.v, .int .i64 t.f, .slice ta t.args.length tc])) :
    ∃ g cap, v8 = .slice (some ⟨g, 0, none⟩) (bs.length + 1) cap ∧ Binds Q w8 (bs ++ [(v, t)]) (some ⟨g, 0, none⟩) := by
  obtain ⟨g, cap, rfl, hg, _, hc⟩ := own_cellsN hown (by omega)
  refine ⟨g, cap, rfl, KidsB_in (hQ g hg) (KidsB_append (KidsB_mono (fun k hq hk => ⟨hq.1, hb.block k hk⟩) hk) ⟨ta, tc, [], rfl, InP_below hb ht, rfl⟩) (fun j u hu => by rw [Nat.zero_add]; exact hc j u hu)⟩
/-- Growing keeps a bound on what is bound. -/
theorem grow_sz (M : Nat) : ∀ (n : Nat), (∀ (p t : T) (bs b2 : List (Int × T)), p.sz ≤ n → t.sz ≤ M → growT p t bs = some b2 → (∀ v u, (v, u) ∈ bs → u.sz ≤ M) → (∀ v u, (v, u) ∈ b2 → u.sz ≤ M)) ∧
    (∀ (ps ts : List T) (bs b2 : List (Int × T)), T.sz.szL ps ≤ n → T.sz.szL ts ≤ M → growT.growL ps ts bs = some b2 → (∀ v u, (v, u) ∈ bs → u.sz ≤ M) → (∀ v u, (v, u) ∈ b2 → u.sz ≤ M)) := by
  intro n
  induction n with
  | zero =>
    refine ⟨fun p t bs b2 h => by have := p.sz_pos; omega, fun ps ts bs b2 h _ hg hk => ?_⟩
    cases ps with
    | nil =>
      cases ts with
      | nil => simp [growT.growL] at hg; rw [← hg]; exact hk
      | cons t ts => cases hg
    | cons p ps => have := p.sz_pos; rw [T.szL_cons] at h; omega
  | succ n ih =>
    have h1 : ∀ (p t : T) (bs b2 : List (Int × T)), p.sz ≤ n + 1 → t.sz ≤ M → growT p t bs = some b2 → (∀ v u, (v, u) ∈ bs → u.sz ≤ M) → (∀ v u, (v, u) ∈ b2 → u.sz ≤ M) := fun p t bs b2 h ht hg hk => by
      have hpe := T.sz_eq p
      have hte := T.sz_eq t
      rw [growT_eq] at hg
      by_cases hv : p.v ≠ 0
      · rw [if_pos hv] at hg
        cases hl : lookB bs p.v with
        | some u =>
          rw [hl] at hg
          by_cases hs : sameT u t = true
          · simp only [hs, if_true, Option.some.injEq] at hg
            rw [← hg]; exact hk
          · simp [hs] at hg
        | none =>
          rw [hl] at hg
          simp only [Option.some.injEq] at hg
          rw [← hg]
          intro v u hm
          rcases List.mem_append.1 hm with hm | hm
          · exact hk v u hm
          · simp at hm; rw [hm.2]; exact ht
      · rw [if_neg hv] at hg
        by_cases hc : t.v ≠ 0 ∨ p.f ≠ t.f
        · rw [if_pos hc] at hg; cases hg
        · rw [if_neg hc] at hg
          exact ih.2 p.args t.args bs b2 (by omega) (by omega) hg hk
    refine ⟨h1, fun ps => ?_⟩
    induction ps with
    | nil =>
      intro ts bs b2 _ _ hg hk
      cases ts with
      | nil => simp [growT.growL] at hg; rw [← hg]; exact hk
      | cons t ts => cases hg
    | cons p ps iht =>
      intro ts bs b2 h ht hg hk
      rw [T.szL_cons] at h
      cases ts with
      | nil => cases hg
      | cons t ts =>
        rw [T.szL_cons] at ht
        rw [growL_cons] at hg
        cases hgt : growT p t bs with
        | none => rw [hgt] at hg; cases hg
        | some b3 =>
          rw [hgt] at hg
          exact iht ts b3 b2 (by omega) (by omega) hg (h1 p t bs b3 (by omega) (by omega) hgt hk)
theorem szL_take_le (ts : List T) (k : Nat) : T.sz.szL (ts.take k) ≤ T.sz.szL ts := by
  have h := T.szL_append (ts.take k) (ts.drop k)
  rw [List.take_append_drop] at h; omega

/-- What Grow hands back. -/
def GrowsTo (Q : Nat → Prop) (p t : T) (bs : List (Int × T)) (e : Ending) (w' : World) : Prop :=
  ∃ a' n' c', e = .returned (.tuple #[.slice a' n' c', .bool (growT p t bs).isSome]) ∧ ∀ b2, growT p t bs = some b2 → n' = b2.length ∧ Shape a' c' ∧ Binds Q w' b2 a'

attribute [local go_sem ↓] Go.wp_at_zero Go.wp_at_succ
set_option maxRecDepth 100000 in
set_option maxHeartbeats 2000000 in
theorem grow_any (Q : Nat → Prop) (M : Nat) (hQ : ∀ k, M ≤ k → Q k) (ar : List Int) (N : Nat) : ∀ (p t : T) (pa : Option Addr) (pc : Nat) (ta : Option Addr) (tc : Nat) (bs : List (Int × T)) (ba : Option Addr) (bc : Nat) (w : World), M ≤ w.heap.size → p.sz < N → bs.length + p.sz ≤ 100000 → okP ar p → okP ar t → t.sz ≤ 1000 → (∀ v u, (v, u) ∈ bs → u.sz ≤ 1000) → Shape ba bc → Binds Q w bs ba → InL w p.args pa → InP Q w t.args ta →
    Calls Try.prog 37 #[.slice ba bs.length bc, .agg #[.int .i64 p.v, .int .i64 p.f, .slice pa p.args.length pc], .agg #[.int .i64 t.v, .int .i64 t.f, .slice ta t.args.length tc]] w fun e w' => GrowsTo Q p t bs e w' ∧ Below w.heap.size w w' := by
  induction N with
  | zero => intro p t pa pc ta tc bs ba bc w _ hN; omega
  | succ N ih =>
    intro p t pa pc ta tc bs ba bc w hM hN h1000 hop hot ht hbz hsh hbs hin hin2
    have Hih := hide ih
    have hpe := T.sz_eq p
    have hte := T.sz_eq t
    have hpv := okP_v hop
    have htv := okP_v hot
    obtain ⟨W2, hW2⟩ : ∃ W2, W2 = ((w.alloc (.cells #[.int .i64 p.v, .int .i64 p.f, .slice pa p.args.length pc] 27)).alloc (.cells #[.int .i64 t.v, .int .i64 t.f, .slice ta t.args.length tc] 27)) := ⟨_, rfl⟩
    have hP3 : Hid (Three W2 w.heap.size (.int .i64 p.v) (.int .i64 p.f) (.slice pa p.args.length pc)) := by rw [hW2]; exact (Three.new 27 rfl).alloc _
    have hT3 : Hid (Three W2 (w.heap.size + 1) (.int .i64 t.v) (.int .i64 t.f) (.slice ta t.args.length tc)) := by rw [hW2]; exact Three.new 27 (by simp)
    have hWb : Hid (Below w.heap.size w W2) := by rw [hW2]; exact below2 _ _ _
    have hz2 : w.heap.size + 2 ≤ W2.heap.size := by rw [hW2]; simp
    have HW2 := hide hW2
    have Hbs := hide (Binds_below hWb.out hbs)
    have Hin := hide (InP_below hWb.out hin)
    have Hin2 := hide (InP_below hWb.out hin2)
    have Hbz := hide hbz
    have Hsh := hide hsh
    obtain ⟨c0, c1, c2, _, _, _⟩ := hP3.out
    obtain ⟨d0, d1, d2, _, _, _⟩ := hT3.out
    clear ih hW2 hbs hin hin2 hbz hsh hP3 hT3
    have hbl : bs.length ≤ 100000 := by omega
    by_cases hv : 0 < p.v
    · have hv' : p.v ≠ 0 := by omega
      have HB := hide (boundTo_any bs ba bc p.v W2 Q (by omega) Hbs.out)
      cases hlk : lookB bs p.v with
      | some u =>
        obtain ⟨m, hm1, hm2, hm3⟩ := idxB_some (n := 0) hlk
        rw [Nat.zero_add] at hm1
        have husz := Hbz.out _ _ (lookB_mem hlk)
        have Hfin : Hid (growT p t bs = if sameT u t then some bs else none) := by show _ = _; rw [growT_eq, if_pos hv', hlk]
        rw [hm1] at HB
        obtain ⟨b, off, rfl⟩ := Binds_some Hbs.out (by omega)
        obtain ⟨a6, cap6, _, e0, e1, e2, e3, hin6⟩ := Binds_at Hbs.out hm3
        have hmI : (m : Int) < bs.length := by omega
        have hm0 : (0 : Int) ≤ m := by omega
        have q1 : off + m * 4 + 1 + 1 = off + m * 4 + 2 := by omega
        have q2 : off + m * 4 + 1 + 2 = off + m * 4 + 3 := by omega
        rw [← q1] at e2
        rw [← q2] at e3
        have HSm := hide (fun (w' : World) (hb : Below W2.heap.size W2 w') => sameTerm_any 1001 u t a6 cap6 ta tc w' (by omega) husz (InP_imp (fun _ _ => trivial) (InP_below hb hin6)) (InP_imp (fun _ _ => trivial) (InP_below hb Hin2.out)))
        have hS := hide (fun (w' : World) (hb : Below W2.heap.size W2 w') => (show w'.cell? ⟨b, off + m * 4 + 1, none⟩ = some (.int .i64 u.v) ∧ w'.cell? ⟨b, off + m * 4 + 1 + 1, none⟩ = some (.int .i64 u.f) ∧ w'.cell? ⟨b, off + m * 4 + 1 + 2, none⟩ = some (.slice a6 u.args.length cap6) ∧ w'.cell? ⟨w.heap.size + 1, 0, none⟩ = some (.int .i64 t.v) ∧ w'.cell? ⟨w.heap.size + 1, 1, none⟩ = some (.int .i64 t.f) ∧ w'.cell? ⟨w.heap.size + 1, 2, none⟩ = some (.slice ta t.args.length tc) from ⟨cell_below hb e1, cell_below hb e2, cell_below hb e3, cell_below hb d0, cell_below hb d1, cell_below hb d2⟩))
        clear hlk hm1 hm3 hin6 q1 q2 Hih hop hot Hin Hin2 hv' e0
        go_enter Try.func37, Try.ntmps37
        go_upto_region 4 with (go_at_call 70; rw [← HW2.out]; refine HB.out.mono ?_; rintro e w' ⟨rfl, hw'⟩; obtain rfl := hw'.symm; clear hw')
        go_region_held3 (fun w' => w'.cell? ⟨b, off + m * 4 + 1, none⟩ = some (.int .i64 u.v) ∧ w'.cell? ⟨b, off + m * 4 + 1 + 1, none⟩ = some (.int .i64 u.f) ∧ w'.cell? ⟨b, off + m * 4 + 1 + 2, none⟩ = some (.slice a6 u.args.length cap6) ∧ w'.cell? ⟨w.heap.size + 1, 0, none⟩ = some (.int .i64 t.v) ∧ w'.cell? ⟨w.heap.size + 1, 1, none⟩ = some (.int .i64 t.f) ∧ w'.cell? ⟨w.heap.size + 1, 2, none⟩ = some (.slice ta t.args.length tc)) ((first | (refine hS.out _ ?_; (repeat' (first | with_reducible exact Hid.out ‹Hid (Below _ _ _)› | with_reducible exact Below.refl _ _ | (with_reducible refine Below.drew ?_))); done) | go_keep)) ((first
          | (go_at_call 28
             with_reducible refine (HSm.out _ ?_).mono ?_
             · (repeat' (first | with_reducible exact Hid.out ‹Hid (Below _ _ _)› | with_reducible exact Below.refl _ _ | (with_reducible refine Below.drew ?_)))
             rintro e xA ⟨rfl, hbA⟩
             have HxA : Hid (Below W2.heap.size W2 xA) := by
               refine Below.trans (b := _) ?_ (hbA.mono ?_)
               · (repeat' (first | with_reducible exact Hid.out ‹Hid (Below _ _ _)› | with_reducible exact Below.refl _ _ | (with_reducible refine Below.drew ?_)))
               · first | omega | (simp; omega) | (simp; done))))
        all_goals (go_wp2_with fail; go_ret2)
        all_goals (
          refine ⟨⟨_, _, _, (by rw [Hfin.out]; cases sameT u t <;> rfl), fun b2 h => ?_⟩, hWb.out.trans (HxA.out.mono (by omega))⟩
          rw [Hfin.out] at h
          cases hs : sameT u t with
          | true => rw [hs] at h; simp at h; rw [← h]; exact ⟨rfl, Hsh.out, Binds_below HxA.out Hbs.out⟩
          | false => rw [hs] at h; simp at h)
      | none =>
        have Hfin : Hid (growT p t bs = some (bs ++ [(p.v, t)])) := by show _ = _; rw [growT_eq, if_pos hv', hlk]
        rw [idxB_none hlk] at HB
        obtain ⟨cs, hkb, hsrc⟩ := Binds_src Hbs.out Hsh.out
        have HKB := hide (KidsB_mono (w := W2) (w' := W2) (p := Q) (q := fun k => Q k ∧ k < W2.heap.size) (fun k hq hk => ⟨⟨hq, hk⟩, rfl⟩) hkb)
        have HSrc := hide (fun (w' : World) (hb : Below W2.heap.size W2 w') => hsrc.below hb)
        have hS := hide (fun (w' : World) (hb : Below W2.heap.size W2 w') => (show w'.cell? ⟨w.heap.size, 0, none⟩ = some (.int .i64 p.v) ∧ w'.cell? ⟨w.heap.size + 1, 0, none⟩ = some (.int .i64 t.v) ∧ w'.cell? ⟨w.heap.size + 1, 1, none⟩ = some (.int .i64 t.f) ∧ w'.cell? ⟨w.heap.size + 1, 2, none⟩ = some (.slice ta t.args.length tc) from ⟨cell_below hb c0, cell_below hb d0, cell_below hb d1, cell_below hb d2⟩))
        clear hlk hv' Hih hop hot Hin hkb hsrc
        go_enter Try.func37, Try.ntmps37
        go_upto_region 5 with (go_at_call 70; rw [← HW2.out]; refine HB.out.mono ?_; rintro e w' ⟨rfl, hw'⟩; obtain rfl := hw'.symm; clear hw')
        go_region_held3 (fun w' => w'.cell? ⟨w.heap.size, 0, none⟩ = some (.int .i64 p.v) ∧ w'.cell? ⟨w.heap.size + 1, 0, none⟩ = some (.int .i64 t.v) ∧ w'.cell? ⟨w.heap.size + 1, 1, none⟩ = some (.int .i64 t.f) ∧ w'.cell? ⟨w.heap.size + 1, 2, none⟩ = some (.slice ta t.args.length tc)) ((first | (refine hS.out _ ?_; (repeat' (first | with_reducible exact Hid.out ‹Hid (Below _ _ _)› | with_reducible exact Below.refl _ _ | (with_reducible refine Below.drew ?_) | (refine Below.alloc ?_ ?_ _; rotate_left; focus (first | omega | (simp; omega) | (simp; done))))); done) | go_keep)) ((first
          | (first
               | refine step_append_v (by rfl) (.tmp 31) (.tmp 36) (by rfl) W2.heap.size bs.length 1 v7 cs [.int .i64 p.v, .int .i64 t.v, .int .i64 t.f, .slice ta t.args.length tc] (by rfl) ?_ (.slice (some ⟨w7.heap.size, 0, none⟩) 1 1) (by rfl) (src_b ?_ rfl) (by omega) ?_ ?_
               | refine step_append_v (by rfl) (.tmp 31) (.tmp 36) (by rfl) W2.heap.size bs.length 1 v7 cs [.int .i64 p.v, .int .i64 t.v, .int .i64 t.f, .slice ta t.args.length tc] (by rfl) ?_ (.slice (some ⟨W2.heap.size, 0, none⟩) 1 1) (by rfl) (src_b ?_ rfl) (by omega) ?_ ?_
               | refine step_append_v (by rfl) (.tmp 31) (.tmp 36) (by rfl) W2.heap.size bs.length 1 v7 cs [.int .i64 p.v, .int .i64 t.v, .int .i64 t.f, .slice ta t.args.length tc] (by rfl) ?_ (.slice (some ⟨W2.heap.size + 1, 0, none⟩) 1 1) (by rfl) (src_b ?_ rfl) (by omega) ?_ ?_
             · first | exact Hown7.out | exact own_same Hown7.out (fun g hg => (below1 w7 _).block g (own_lt Hown7.out g hg).2)
             · first | exact heap_alloc_new _ _ | exact (hgr7.block W2.heap.size (by simp; omega) (by simp [Value.ownBlock])).trans (newB2 _ _ _) | exact (hgr7.block (W2.heap.size + 1) (by first | (simp; done) | (simp; omega)) (by simp [Value.ownBlock])).trans (newB3 _ _ _)
             · first | exact hz7 | (simp; omega)
             intro v8 w8 hown8 hgr8 hat8
             have Hown8 := hide hown8
             have H8 : Hid (Below W2.heap.size W2 w8) := by
               refine Below.grown ?_ hgr8 (by first | exact hz7 | (simp; omega)) (fun k' hk' => (own_lt Hown7.out k' hk').1)
               (repeat' (first | with_reducible exact Hid.out ‹Hid (Below _ _ _)› | with_reducible exact Below.refl _ _ | (with_reducible refine Below.drew ?_) | (refine Below.alloc ?_ ?_ _; rotate_left; focus (first | omega | (simp; omega) | (simp; done)))))
             clear hown8 hgr8 hat8)
          | (first
               | refine step_append_v (by rfl) (.tmp 29) (.tmp 30) (by rfl) W2.heap.size 0 bs.length (.slice (some ⟨W2.heap.size, 0, none⟩) 0 0) [] cs (by rfl) ?_ (.slice ba bs.length bc) (by rfl) (HSrc.out _ ?_) (by omega) ?_ ?_
               | refine step_append_v (by rfl) (.tmp 29) (.tmp 30) (by rfl) W2.heap.size 0 bs.length (.slice (some ⟨W2.heap.size + 1, 0, none⟩) 0 0) [] cs (by rfl) ?_ (.slice ba bs.length bc) (by rfl) (HSrc.out _ ?_) (by omega) ?_ ?_
             · exact newB (by first | exact newB1 _ _ | exact newB2 _ _ _ | exact newB3 _ _ _ | exact heap_alloc_new _ _) (by omega)
             · (repeat' (first | with_reducible exact Hid.out ‹Hid (Below _ _ _)› | with_reducible exact Below.refl _ _ | (with_reducible refine Below.drew ?_) | (refine Below.alloc ?_ ?_ _; rotate_left; focus (first | omega | (simp; omega) | (simp; done)))))
             · first | (simp; done) | (simp; omega)
             intro v7 w7 hown7 hgr7 hat7
             have Hown7 : Hid (w7.ownsRow W2.heap.size 95 4 v7 bs.length cs) := by simpa [Hid] using hown7
             have H7 : Hid (Below W2.heap.size W2 w7) := by
               refine Below.grown ?_ hgr7 (by first | (simp; done) | (simp; omega)) (fun k' hk' => by simp [Value.ownBlock] at hk'; omega)
               (repeat' (first | with_reducible exact Hid.out ‹Hid (Below _ _ _)› | with_reducible exact Below.refl _ _ | (with_reducible refine Below.drew ?_) | (refine Below.alloc ?_ ?_ _; rotate_left; focus (first | omega | (simp; omega) | (simp; done)))))
             have hz7 := H7.out.size
             clear hown7 hat7)))
        all_goals (
          obtain ⟨g9, cap9, rfl, hbin⟩ := fin_b (fun k hk => hQ k (by omega)) HKB.out Hin2.out H8.out Hown8.out
          have Hbin := hide hbin
          clear hbin Hown8
          go_wp2_with fail
          go_ret2
          exact ⟨⟨some ⟨g9, 0, none⟩, bs.length + 1, cap9, (by rw [Hfin.out]; rfl), fun b2 h => (by rw [Hfin.out] at h; cases h; exact ⟨(by simp), Or.inr ⟨g9, 0, rfl⟩, Hbin.out⟩)⟩, hWb.out.trans (H8.out.mono (by omega))⟩)
    · have hv0 : p.v = 0 := by omega
      have hng : ∀ (P : Prop), (t.v ≠ 0 ∨ p.f ≠ t.f ∨ p.args.length ≠ t.args.length) → growT p t bs = none := fun _ h => by
        rw [growT_eq, if_neg (by simp [hv0])]
        by_cases h1 : t.v ≠ 0 ∨ p.f ≠ t.f
        · rw [if_pos h1]
        · rw [if_neg h1]
          exact growL_length (by rcases h with h | h | h; exact absurd (Or.inl h) h1; exact absurd (Or.inr h) h1; exact h)
      by_cases h1 : 0 < t.v
      · have Hfin := hide (hng True (Or.inl (by omega)))
        clear hng Hih hop hot
        go_enter Try.func37, Try.ntmps37
        go_wp2_with fail
        go_ret2
        exact ⟨⟨_, _, _, (by rw [Hfin.out]; rfl), fun b2 h => (by rw [Hfin.out] at h; cases h)⟩, below2 _ _ _⟩
      · by_cases h2 : p.f = t.f
        · have e2 : (p.f != t.f) = false := by simpa using h2
          by_cases h3 : p.args.length = t.args.length
          · have e3 : ((p.args.length : Int) != t.args.length) = false := by simp; omega
            have Hfin : Hid (growT p t bs = growT.growL p.args t.args bs) := by show _ = _; rw [growT_eq, if_neg (by simp [hv0]), if_neg (by simp [h2]; omega)]
            have H3 := hide h3
            have Hop := hide hop
            have Hot := hide hot
            have hpl := T.length_le p.args
            clear hng h2 h3 hv0 hop hot
            go_enter Try.func37, Try.ntmps37
            go_wp2_with fail
            rw [← HW2.out]
            go_loopw [0, 9] (fun b0 i wr => ∃ (k : Nat) (bk : List (Int × T)) (ak : Option Addr) (ck : Nat), k ≤ p.args.length ∧ i = .int .i64 k ∧ b0 = .slice ak bk.length ck ∧ Hid (growT.growL (p.args.take k) (t.args.take k) bs = some bk) ∧ Hid (Shape ak ck) ∧ Hid (Binds Q wr bk ak) ∧ Hid (Below W2.heap.size W2 wr)) (fun _ i _ => p.args.length - (intOf i).toNat)
            case atStart => exact ⟨0, bs, ba, bc, Nat.zero_le _, rfl, rfl, rfl, Hsh.out, Hbs.out, Below.refl _ _⟩
            case round =>
              obtain ⟨k, bk, ak, ck, hk, rfl, rfl, HL, HSk, HBk, Hbr⟩ := hrel
              have hzr := Hbr.out.size
              have q0 := cell_below Hbr.out c2
              have q1 := cell_below Hbr.out d2
              by_cases hlt : k < p.args.length
              · have hlt2 : k < t.args.length := by have := H3.out; omega
                have hinr := InP_below Hbr.out Hin.out
                have hinr2 := InP_below Hbr.out Hin2.out
                obtain ⟨b1, off1, rfl⟩ := InP_some hinr (by omega)
                obtain ⟨b2, off2, rfl⟩ := InP_some hinr2 (by omega)
                obtain ⟨x, hx⟩ : ∃ x, p.args[k]? = some x := ⟨p.args[k], List.getElem?_eq_getElem hlt⟩
                obtain ⟨y, hy⟩ : ∃ y, t.args[k]? = some y := ⟨t.args[k], List.getElem?_eq_getElem hlt2⟩
                obtain ⟨a3, cap3, _, k0, k1, k2, hinx⟩ := InP_at hinr hx
                obtain ⟨a4, cap4, _, m0, m1, m2, hiny⟩ := InP_at hinr2 hy
                obtain ⟨hs1, hs2⟩ := szL_take hx
                have hxe := T.sz_eq x
                have hyt := T.szL_mem (List.mem_of_getElem? hy)
                have hbk := (grow_size _).2 _ _ _ _ (Nat.le_refl _) HL.out
                have Hkz := hide ((grow_sz 1000 _).2 _ _ _ _ (Nat.le_refl _) (by have := szL_take_le t.args k; omega) HL.out Hbz.out)
                have Hst := hide (growL_step H3.out hx hy HL.out)
                have Hxo := hide (okArg Hop.out (List.mem_of_getElem? hx))
                have Hyo := hide (okArg Hot.out (List.mem_of_getElem? hy))
                have hkI : (k : Int) < p.args.length := by omega
                have hkJ : (k : Int) < t.args.length := by omega
                have hk0 : (0 : Int) ≤ k := by omega
                have HC := hide (fun (w' : World) (hb : Below wr.heap.size wr w') => Hih.out x y a3 cap3 a4 cap4 bk ak ck w' (by have := hb.size; omega) (by omega) (by omega) Hxo.out Hyo.out (by omega) Hkz.out HSk.out (Binds_below hb HBk.out) (InP_below hb hinx) (InP_below hb hiny))
                have hS := hide (fun (w' : World) (hb : Below wr.heap.size wr w') => (show w'.cell? ⟨w.heap.size, 2, none⟩ = some (.slice (some ⟨b1, off1, none⟩) p.args.length pc) ∧ w'.cell? ⟨b1, off1 + k * 3, none⟩ = some (.int .i64 x.v) ∧ w'.cell? ⟨b1, off1 + k * 3 + 1, none⟩ = some (.int .i64 x.f) ∧ w'.cell? ⟨b1, off1 + k * 3 + 2, none⟩ = some (.slice a3 x.args.length cap3) ∧ w'.cell? ⟨w.heap.size + 1, 2, none⟩ = some (.slice (some ⟨b2, off2, none⟩) t.args.length tc) ∧ w'.cell? ⟨b2, off2 + k * 3, none⟩ = some (.int .i64 y.v) ∧ w'.cell? ⟨b2, off2 + k * 3 + 1, none⟩ = some (.int .i64 y.f) ∧ w'.cell? ⟨b2, off2 + k * 3 + 2, none⟩ = some (.slice a4 y.args.length cap4) from ⟨cell_below hb q0, cell_below hb k0, cell_below hb k1, cell_below hb k2, cell_below hb q1, cell_below hb m0, cell_below hb m1, cell_below hb m2⟩))
                clear hx hy hinx hiny hinr hinr2 HL Hih
                go_wp2_with fail
                go_region_held3 (fun w' => w'.cell? ⟨w.heap.size, 2, none⟩ = some (.slice (some ⟨b1, off1, none⟩) p.args.length pc) ∧ w'.cell? ⟨b1, off1 + k * 3, none⟩ = some (.int .i64 x.v) ∧ w'.cell? ⟨b1, off1 + k * 3 + 1, none⟩ = some (.int .i64 x.f) ∧ w'.cell? ⟨b1, off1 + k * 3 + 2, none⟩ = some (.slice a3 x.args.length cap3) ∧ w'.cell? ⟨w.heap.size + 1, 2, none⟩ = some (.slice (some ⟨b2, off2, none⟩) t.args.length tc) ∧ w'.cell? ⟨b2, off2 + k * 3, none⟩ = some (.int .i64 y.v) ∧ w'.cell? ⟨b2, off2 + k * 3 + 1, none⟩ = some (.int .i64 y.f) ∧ w'.cell? ⟨b2, off2 + k * 3 + 2, none⟩ = some (.slice a4 y.args.length cap4)) ((first | (refine hS.out _ ?_; (repeat' (first | with_reducible exact Hid.out ‹Hid (Below _ _ _)› | with_reducible exact Below.refl _ _ | (with_reducible refine Below.drew ?_) | (refine Below.alloc ?_ ?_ _; rotate_left; focus (first | omega | (simp; omega) | (simp; done))))); done) | go_keep)) ((first
                  | (go_at_call 37
                     with_reducible refine (HC.out _ ?_).mono ?_
                     · (repeat' (first | with_reducible exact Hid.out ‹Hid (Below _ _ _)› | with_reducible exact Below.refl _ _ | (with_reducible refine Below.drew ?_) | (refine Below.alloc ?_ ?_ _; rotate_left; focus (first | omega | (simp; omega) | (simp; done)))))
                     rintro e xA ⟨⟨aA, nA, cA, rfl, hgA⟩, hbA⟩
                     have HgA := hide hgA
                     have HxA : Hid (Below wr.heap.size wr xA) := by
                       refine Below.trans (b := _) ?_ (hbA.mono ?_)
                       · (repeat' (first | with_reducible exact Hid.out ‹Hid (Below _ _ _)› | with_reducible exact Below.refl _ _ | (with_reducible refine Below.drew ?_) | (refine Below.alloc ?_ ?_ _; rotate_left; focus (first | omega | (simp; omega) | (simp; done)))))
                       · first | omega | (simp; omega) | (simp; done)
                     clear hgA)))
                have Hbf := hide (Hbr.out.trans (HxA.out.mono hzr))
                cases hgt : growT x y bk with
                | some bk2 =>
                  obtain ⟨rfl, hsA, hbinA⟩ := HgA.out bk2 hgt
                  have Hgo := hide (Hst.out.1 bk2 hgt)
                  have HsA := hide hsA
                  have HbA := hide hbinA
                  clear Hst HgA hgt hsA hbinA hS
                  simp only [Option.isSome_some]
                  go_wp2_with fail
                  go_roundw
                  case rel => exact ⟨k + 1, bk2, aA, cA, by omega, by go_num, rfl, Hgo.out, HsA.out, HbA.out, Hbf.out⟩
                  case measure => simp [intOf]; omega
                | none =>
                  have Hfn := hide (Hfin.out.trans (Hst.out.2 hgt))
                  clear Hst HgA hgt hS
                  simp only [Option.isSome_none]
                  go_wp2_with fail
                  go_ret2
                  exact ⟨⟨_, _, _, (by rw [Hfn.out]; rfl), fun b2 h => (by rw [Hfn.out] at h; cases h)⟩, hWb.out.trans (Hbf.out.mono (by omega))⟩
              · have hk2 : k = p.args.length := by omega
                subst hk2
                have Hfn : Hid (growT p t bs = some bk) := by
                  have h5 := HL.out
                  rw [List.take_length, show p.args.length = t.args.length from H3.out, List.take_length] at h5
                  exact Hfin.out.trans h5
                clear HL
                go_wp2_with fail
                go_ret2
                exact ⟨⟨ak, bk.length, ck, (by rw [Hfn.out]; rfl), fun b2 h => (by rw [Hfn.out] at h; cases h; exact ⟨rfl, HSk.out, HBk.out⟩)⟩, hWb.out.trans (Hbr.out.mono (by omega))⟩
          · have e3 : ((p.args.length : Int) != t.args.length) = true := by simp; omega
            have Hfin := hide (hng True (Or.inr (Or.inr h3)))
            clear hng Hih hop hot h2 h3
            go_enter Try.func37, Try.ntmps37
            go_wp2_with fail
            go_ret2
            exact ⟨⟨_, _, _, (by rw [Hfin.out]; rfl), fun b2 h => (by rw [Hfin.out] at h; cases h)⟩, below2 _ _ _⟩
        · have e2 : (p.f != t.f) = true := by simpa using h2
          have Hfin := hide (hng True (Or.inr (Or.inl h2)))
          clear hng Hih hop hot h2
          go_enter Try.func37, Try.ntmps37
          go_wp2_with fail
          go_ret2
          exact ⟨⟨_, _, _, (by rw [Hfin.out]; rfl), fun b2 h => (by rw [Hfin.out] at h; cases h)⟩, below2 _ _ _⟩

end Go.Proofs.Ytbkedppkdhfpoaa

namespace Go.Proofs.Ytbkedppkdhfpoaa
open Go.RowKit

/-- A part that was found, in blocks of which q holds, or none. -/
def FoundQ (q : Nat → Prop) (t : T) (place : List Int) (w : World) (e : Ending) : Prop :=
  (∃ u a1 cap1, atT t place = some u ∧ e = .returned (.tuple #[.agg #[.int .i64 u.v, .int .i64 u.f, .slice a1 u.args.length cap1], .bool true]) ∧ InP q w u.args a1) ∨
  (atT t place = none ∧ e = .returned (.tuple #[.agg #[.int .i64 0, .int .i64 0, .slice none 0 0], .bool false]))
theorem foundQ_form {q : Nat → Prop} {t : T} {place : List Int} {w : World} {e : Ending} (h : FoundQ q t place w e) : ∃ (u : T) (a : Option Addr) (cap : Nat) (ok : Bool), e = .returned (.tuple #[.agg #[.int .i64 u.v, .int .i64 u.f, .slice a u.args.length cap], .bool ok]) ∧
    ((ok = true ∧ atT t place = some u ∧ InP q w u.args a) ∨ (ok = false ∧ atT t place = none ∧ u = ⟨0, 0, []⟩ ∧ a = none ∧ cap = 0)) := by
  rcases h with ⟨u, a, cap, h1, rfl, h2⟩ | ⟨h1, rfl⟩
  · exact ⟨u, a, cap, true, rfl, Or.inl ⟨rfl, h1, h2⟩⟩
  · exact ⟨⟨0, 0, []⟩, none, 0, false, rfl, Or.inr ⟨rfl, h1, rfl, rfl, rfl⟩⟩
theorem foundQ_back {q : Nat → Prop} {t x u : T} {place p : List Int} {w : World} {a : Option Addr} {cap : Nat} {ok : Bool} (he : atT t place = atT x p)
    (h : (ok = true ∧ atT x p = some u ∧ InP q w u.args a) ∨ (ok = false ∧ atT x p = none ∧ u = ⟨0, 0, []⟩ ∧ a = none ∧ cap = 0)) : FoundQ q t place w (.returned (.tuple #[.agg #[.int .i64 u.v, .int .i64 u.f, .slice a u.args.length cap], .bool ok])) := by
  rcases h with ⟨rfl, h1, h2⟩ | ⟨rfl, h1, rfl, rfl, rfl⟩
  · exact Or.inl ⟨u, a, cap, he.trans h1, rfl, h2⟩
  · exact Or.inr ⟨he.trans h1, rfl⟩

attribute [local go_sem ↓] Go.wp_at_zero Go.wp_at_succ
set_option maxRecDepth 100000 in
set_option maxHeartbeats 1000000 in
theorem atOf_q (q : Nat → Prop) (w0 : World) (place : List Int) : ∀ (t : T) (a : Option Addr) (cap : Nat) (pa : Option Addr) (pcap : Nat) (w : World), Below w0.heap.size w0 w → Ints w place pa → place.length ≤ pcap → t.sz ≤ 1000 → InP q w0 t.args a →
    Calls Try.prog 25 #[.agg #[.int .i64 t.v, .int .i64 t.f, .slice a t.args.length cap], .slice pa place.length pcap] w fun e w' => FoundQ q t place w0 e ∧ Below w.heap.size w w' := by
  induction place with
  | nil =>
    intro t a cap pa pcap w h0w hp hpc ht hin
    go_enter Try.func25, Try.ntmps25
    go_wp2_with fail
    exact bodyPost_ret (v := .tuple #[.agg #[.int .i64 t.v, .int .i64 t.f, .slice a t.args.length cap], .bool true]) (by simp [results, Try.results25, go_sem]) rfl ⟨Or.inl ⟨t, a, cap, rfl, rfl, hin⟩, below2 _ _ _⟩
  | cons i p ih =>
    intro t a cap pa pcap w h0w hp hpc ht hin
    have Hih := hide ih
    clear ih
    obtain ⟨b, off, rfl, hc⟩ := Ints_some hp (by simp)
    have hci : w.cell? ⟨b, off, none⟩ = some (.int .i64 i) := by have := hc 0 (by simp); simpa using this
    have hbi := lt_of_cell hci
    have hne : (((i :: p).length : Int) == 0) = false := by rw [beq_eq_false_iff_ne]; simp; omega
    have hlen : (0 : Int) < ((i :: p).length : Int) := by rw [List.length_cons]; omega
    have hp1 : (1 : Int) ≤ ((i :: p).length : Int) := by rw [List.length_cons]; omega
    have htl : t.args.length ≤ 1000 := by have := T.length_le t.args; have := T.sz_eq t; omega
    have Hp := hide hp
    have hatd : atT t (i :: p) = if 0 ≤ i ∧ i < t.args.length then (t.args[i.toNat]?).bind (fun u => atT u p) else none := rfl
    have Hatd := hide hatd
    have hl1 : (i :: p).length = p.length + 1 := by simp
    clear hc hp hatd
    rw [hl1] at hpc hne hlen hp1 ⊢
    by_cases h : 0 ≤ i ∧ i ≤ (t.args.length : Int) - 1
    · obtain ⟨n, hn⟩ := Int.eq_ofNat_of_zero_le h.1
      subst hn
      have hn2 : n < t.args.length := by omega
      obtain ⟨b1, off1, rfl⟩ := InP_some hin (by omega)
      obtain ⟨x, hx⟩ : ∃ x, t.args[n]? = some x := ⟨t.args[n], List.getElem?_eq_getElem hn2⟩
      obtain ⟨a3, cap3, _, k0, k1, k2, hinx⟩ := InP_at hin hx
      rw [← h0w.cell (p := ⟨b1, off1 + n * 3, none⟩) (lt_of_cell k0)] at k0
      rw [← h0w.cell (p := ⟨b1, off1 + n * 3 + 1, none⟩) (lt_of_cell k1)] at k1
      rw [← h0w.cell (p := ⟨b1, off1 + n * 3 + 2, none⟩) (lt_of_cell k2)] at k2
      have H0w := hide h0w
      clear h0w
      have hb1 := lt_of_cell k0
      have hxsz : x.sz ≤ 1000 := by have := T.szL_mem (List.mem_of_getElem? hx); have := T.sz_eq t; omega
      have hyes : atT t ((n : Int) :: p) = atT x p := by
        rw [Hatd.out, if_pos (by omega)]
        show (t.args[((n : Int)).toNat]?).bind _ = _
        rw [Int.toNat_natCast, hx]; rfl
      have Hyes := hide hyes
      have H := hide h
      have hnI : (n : Int) < t.args.length := by omega
      have hn0 : (0 : Int) ≤ n := by omega
      have hpcI : (1 : Int) ≤ pcap := by omega
      have hlI : ((p.length + 1 : Nat) : Int) ≤ pcap := by omega
      have Hx3 := hide hinx
      have hS := hide (fun (o1 o2 : Obj) (w' : World) (ho : o1 = .cells #[.int .i64 t.v, .int .i64 t.f, .slice (some ⟨b1, off1, none⟩) t.args.length cap] 27) (hbb : Below (w.heap.size + 1) ((w.alloc o1).alloc o2) w') => (show w'.cell? ⟨w.heap.size, 2, none⟩ = some (.slice (some ⟨b1, off1, none⟩) t.args.length cap) ∧ w'.cell? ⟨b, off, none⟩ = some (.int .i64 (n : Int)) ∧ w'.cell? ⟨b1, off1 + n * 3, none⟩ = some (.int .i64 x.v) ∧ w'.cell? ⟨b1, off1 + n * 3 + 1, none⟩ = some (.int .i64 x.f) ∧ w'.cell? ⟨b1, off1 + n * 3 + 2, none⟩ = some (.slice a3 x.args.length cap3) from
        ⟨by subst ho; exact ((Three.new 27 rfl).same ((hbb.block _ (by omega)).trans (Below.heap_alloc _ _ _ (by simp)))).c2,
         by rw [hbb.cell (p := ⟨b, off, none⟩) (show b < _ by omega), cell_alloc_lt (by simp; omega), cell_alloc_lt hbi]; exact hci,
         by rw [hbb.cell (p := ⟨b1, off1 + n * 3, none⟩) (show b1 < _ by omega), cell_alloc_lt (by simp; omega), cell_alloc_lt hb1]; exact k0,
         by rw [hbb.cell (p := ⟨b1, off1 + n * 3 + 1, none⟩) (show b1 < _ by omega), cell_alloc_lt (by simp; omega), cell_alloc_lt hb1]; exact k1,
         by rw [hbb.cell (p := ⟨b1, off1 + n * 3 + 2, none⟩) (show b1 < _ by omega), cell_alloc_lt (by simp; omega), cell_alloc_lt hb1]; exact k2⟩))
      clear hyes hx h hinx
      obtain ⟨pa', hsl, hpt⟩ := tail_any Hp.out hpc
      have Hpt := hide hpt
      clear hpt
      go_enter Try.func25, Try.ntmps25
      go_wp2_with fail
      go_quiet ((go_at_call 63; exact Calls.quiet_of_same (between_yes _ _ _ _ H.out.1 H.out.2)))
      go_wp2_with fail
      go_region_held3 (fun w' => w'.cell? ⟨w.heap.size, 2, none⟩ = some (.slice (some ⟨b1, off1, none⟩) t.args.length cap) ∧ w'.cell? ⟨b, off, none⟩ = some (.int .i64 (n : Int)) ∧ w'.cell? ⟨b1, off1 + n * 3, none⟩ = some (.int .i64 x.v) ∧ w'.cell? ⟨b1, off1 + n * 3 + 1, none⟩ = some (.int .i64 x.f) ∧ w'.cell? ⟨b1, off1 + n * 3 + 2, none⟩ = some (.slice a3 x.args.length cap3)) ((first | exact hS.out _ _ _ rfl (below_set3 Hbb.out (by omega) _ _ _) | exact hS.out _ _ _ rfl Hbb.out | go_keep)) ((
        go_at_call 25
        refine (Hih.out x a3 cap3 _ _ _ ?_ ?_ ?_ ?_ ?_).mono ?_
        · exact H0w.out.trans ((below_drewN (below2 _ _ _) _).mono H0w.out.size)
        · exact Ints_below (w := w) (below_drewN (below2 _ _ _) _) Hpt.out
        · omega
        · exact hxsz
        · exact Hx3.out
        rintro e w3 ⟨hfound, hb3⟩
        obtain ⟨u, a5, cap5, ok, rfl, hok⟩ := foundQ_form hfound
        have Hok := hide hok
        have hb4 := below_undrewN hb3
        have hz4 := hb4.size
        have Hbb : Hid (Below (w.heap.size + 1) ((w.alloc (.cells #[.int .i64 t.v, .int .i64 t.f, .slice (some ⟨b1, off1, none⟩) t.args.length cap] 27)).alloc (.cells #[.int .i64 0, .int .i64 0, .slice none 0 0] 27)) w3) := hb4.mono (by simp)
        have H3r := hide ((Three.new (w := w.alloc (.cells #[.int .i64 t.v, .int .i64 t.f, .slice (some ⟨b1, off1, none⟩) t.args.length cap] 27)) (v0 := .int .i64 0) (v1 := .int .i64 0) (v2 := .slice none 0 0) (n := w.heap.size + 1) 27 (by simp)).below hb4)
        obtain ⟨r0, r1, r2, f0, f1, f2⟩ := H3r.out
        have Hb0 := hide ((below2 w (.cells #[.int .i64 t.v, .int .i64 t.f, .slice (some ⟨b1, off1, none⟩) t.args.length cap] 27) (.cells #[.int .i64 0, .int .i64 0, .slice none 0 0] 27)).trans (hb4.mono (by simp; omega)))
        clear hfound hok hb3 hb4))
      go_wp2_with fail
      exact bodyPost_ret (v := .tuple #[.agg #[.int .i64 u.v, .int .i64 u.f, .slice a5 u.args.length cap5], .bool ok]) (by simp [results, Try.results25, go_sem, r0, r1, r2]) rfl ⟨foundQ_back Hyes.out Hok.out, below_set3 Hb0.out (by omega) _ _ _⟩
    · have hno : atT t (i :: p) = none := by rw [Hatd.out, if_neg (by omega)]
      have Hno := hide hno
      have H := hide h
      clear h hno
      go_enter Try.func25, Try.ntmps25
      go_wp2_with fail
      go_quiet ((go_at_call 63; exact Calls.quiet_of_same (between_no _ _ _ _ H.out)))
      go_wp2_with fail
      exact bodyPost_ret (v := .tuple #[.agg #[.int .i64 0, .int .i64 0, .slice none 0 0], .bool false]) (by simp [results, Try.results25, go_sem]) rfl ⟨Or.inr ⟨Hno.out, rfl⟩, below_set3 (below_drewN (below2 _ _ _) _) (by omega) _ _ _⟩

end Go.Proofs.Ytbkedppkdhfpoaa

namespace Go.Proofs.Ytbkedppkdhfpoaa
open Go.RowKit

def tX1 : T := ⟨1, 0, []⟩
def tB : T := ⟨0, 1, [tX1]⟩
theorem ord_b1 : allErr [0, 1] [tB, tX1] = 0 := by rfl
theorem ord_b2 : grSpec [0, 1] tB tX1 = true := by rfl
theorem ord_b3 : allErr [0, 1] [zeroT, tC] = 0 := by rfl
theorem ord_b4 : cmpSpec [0, 1] zeroT tC = -1 := by rfl

theorem Greater_begun (n1 n2 : Nat) (w : World) (hg : Ints w [0, 1] (some ⟨n1, 0, none⟩)) (ht : InL w [tX1] (some ⟨n2, 0, none⟩)) :
    Calls Try.prog 41 #[.agg #[.slice (some ⟨n1, 0, none⟩) 2 2], .agg #[.int .i64 0, .int .i64 1, .slice (some ⟨n2, 0, none⟩) 1 1], .agg #[.int .i64 1, .int .i64 0, .slice none 0 0]] w fun e w' => e = .returned (.tuple #[.bool true, .int .i64 0]) ∧ Below w.heap.size w w' := by
  have h := Greater_any [0, 1] (some ⟨n1, 0, none⟩) 2 tB (some ⟨n2, 0, none⟩) 1 tX1 none 0 w hg ht InP_nil
  rw [ord_b1, ord_b2] at h
  exact h
theorem Compare_begun (n1 n2 : Nat) (w : World) (hg : Ints w [0, 1] (some ⟨n1, 0, none⟩)) (ht : InL w [zeroT] (some ⟨n2, 0, none⟩)) :
    Calls Try.prog 42 #[.agg #[.slice (some ⟨n1, 0, none⟩) 2 2], .agg #[.int .i64 0, .int .i64 0, .slice none 0 0], .agg #[.int .i64 0, .int .i64 1, .slice (some ⟨n2, 0, none⟩) 1 1]] w fun e w' => e = .returned (.tuple #[.int .i64 (-1), .int .i64 0]) ∧ Below w.heap.size w w' := by
  have h := Compare_any [0, 1] (some ⟨n1, 0, none⟩) 2 zeroT none 0 tC (some ⟨n2, 0, none⟩) 1 w hg InP_nil ht
  rw [ord_b3, ord_b4] at h
  exact h

set_option maxRecDepth 100000 in
set_option maxHeartbeats 2000000 in
theorem orderBegun_any (w : World) : Calls Try.prog 44 #[] w fun e w' => e = .returned (.bool true) ∧ Below w.heap.size w w' := by
  go_enter Try.func44, Try.ntmps44
  go_wp2_with fail
  refine (small_any _).mono ?_
  rintro e w1 ⟨n1, rfl, hg1, hb1⟩
  go_wp2_with fail
  refine (va_any 1 _).mono ?_
  rintro e w2 ⟨rfl, hb2⟩
  go_wp2_with fail
  refine (fn_any 1 _ 1 1 _).mono ?_
  rintro e w3 ⟨rfl, hb3⟩
  go_wp2_with fail
  refine (va_any 1 _).mono ?_
  rintro e w4 ⟨rfl, hb4⟩
  have hz2 := hb2.size
  have hz3 := hb3.size
  have hz4 := hb4.size
  simp at hz3
  have hb24 : Below w2.heap.size w2 w4 := (below1 _ _).trans ((hb3.mono (by simp)).trans (hb4.mono (by omega)))
  have hb04 : Below w.heap.size w w4 := hb1.trans ((hb2.mono hb1.size).trans (hb24.mono (by have := hb1.size; omega)))
  have HG4 := hide (Ints_below hb24 (Ints_below hb2 hg1))
  have HT4 := hide (InP_below hb4 (InP_below hb3 (InP_newT (p := fun _ => True) (w := w2) (t := tX1) 27 rfl trivial rfl)))
  have Hb04 := hide hb04
  clear hb1 hb2 hb3 hb4 hb24 hb04 hg1
  go_wp2_with fail
  refine (Greater_begun n1 _ _ HG4.out HT4.out).mono ?_
  rintro e w5 ⟨rfl, hb5⟩
  have Hb05 := hide (Hb04.out.trans (hb5.mono Hb04.out.size))
  clear hb5 HG4 HT4 Hb04
  go_wp2_with fail
  refine (small_any _).mono ?_
  rintro e w6 ⟨n6, rfl, hg6, hb6⟩
  go_wp2_with fail
  refine (fn_any 0 _ 0 0 _).mono ?_
  rintro e w7 ⟨rfl, hb7⟩
  go_wp2_with fail
  refine (fn_any 0 _ 0 0 _).mono ?_
  rintro e w8 ⟨rfl, hb8⟩
  go_wp2_with fail
  refine (fn_any 1 _ 1 1 _).mono ?_
  rintro e w9 ⟨rfl, hb9⟩
  have hz7 := hb7.size
  have hz8 := hb8.size
  have hz9 := hb9.size
  simp at hz9
  have hb89 : Below w8.heap.size w8 w9 := (below1 _ _).trans (hb9.mono (by simp))
  have hb69 : Below w6.heap.size w6 w9 := hb7.trans ((hb8.mono hz7).trans (hb89.mono (by omega)))
  have Hb09 := hide (Hb05.out.trans ((hb6.trans (hb69.mono hb6.size)).mono Hb05.out.size))
  have HG9 := hide (Ints_below hb69 hg6)
  have HT9 := hide (InP_below hb9 (InP_newT (p := fun _ => True) (w := w8) (t := zeroT) 27 rfl trivial rfl))
  clear hb6 hb7 hb8 hb9 hb89 hb69 hg6
  go_wp2_with fail
  refine (Compare_begun n6 _ _ HG9.out HT9.out).mono ?_
  rintro e w10 ⟨rfl, hb10⟩
  have Hbf := hide (Hb09.out.trans (hb10.mono Hb09.out.size))
  clear hb10 HG9 HT9 Hb09
  go_wp2_with fail
  go_ret
  exact ⟨rfl, Hbf.out⟩

/-- What the document's own order is to answer. -/
def RefGr : Prop := ∀ (ar : List Int) (s : T) (sa : Option Addr) (sc : Nat) (t : T) (ta : Option Addr) (tc : Nat) (w : World), okP ar s → okP ar t → s.sz ≤ 120 → t.sz ≤ 120 → InL w s.args sa → InL w t.args ta →
    Calls Try.prog 43 #[.agg #[.int .i64 s.v, .int .i64 s.f, .slice sa s.args.length sc], .agg #[.int .i64 t.v, .int .i64 t.f, .slice ta t.args.length tc]] w fun e w' => e = .returned (.bool (gt s t)) ∧ Below w.heap.size w w'

theorem chkB (ar : List Int) (ga : Option Addr) (gcap : Nat) (t u : T) (a : Option Addr) (w : World) (hg : Ints w ar ga) (hin : InL w [t, u] a) :
    Calls Try.prog 14 #[.agg #[.slice ga ar.length gcap], .slice a 2 2] w fun e w' => e = .returned (.int .i64 (allErr ar [t, u])) ∧ Below w.heap.size w w' := refCheckTerms_any ar ga gcap [t, u] a 2 w hg hin (by simp)

set_option maxRecDepth 100000 in
set_option maxHeartbeats 2000000 in
theorem OrderTells_any (href : RefGr) (ar : List Int) (ga : Option Addr) (gcap : Nat) (s : T) (sa : Option Addr) (sc : Nat) (t : T) (ta : Option Addr) (tc : Nat) (w : World) (hg : Ints w ar ga) (hin : InL w s.args sa) (hin2 : InL w t.args ta) :
    Calls Try.prog 9 #[.agg #[.slice ga ar.length gcap], .agg #[.int .i64 s.v, .int .i64 s.f, .slice sa s.args.length sc], .agg #[.int .i64 t.v, .int .i64 t.f, .slice ta t.args.length tc]] w fun e w' => e = .returned (.bool true) ∧ Below w.heap.size w w' := by
  obtain ⟨W1, hW1⟩ : ∃ W1, W1 = (((w.alloc (.cells #[.slice ga ar.length gcap] 24)).alloc (.cells #[.int .i64 s.v, .int .i64 s.f, .slice sa s.args.length sc] 27)).alloc (.cells #[.int .i64 t.v, .int .i64 t.f, .slice ta t.args.length tc] 27)) := ⟨_, rfl⟩
  have hbW : Below w.heap.size w W1 := by rw [hW1]; exact ((below1 _ _).alloc (by simp) _).alloc (by simp; omega) _
  have hzW : W1.heap.size = w.heap.size + 3 := by rw [hW1]; simp
  have cg : W1.cell? ⟨w.heap.size, 0, none⟩ = some (.slice ga ar.length gcap) := by
    rw [hW1, cell_alloc_lt (by simp; omega), cell_alloc_lt (by simp), cell_new _ rfl]; rfl
  have H3s : Hid (Three W1 (w.heap.size + 1) (.int .i64 s.v) (.int .i64 s.f) (.slice sa s.args.length sc)) := by rw [hW1]; exact (Three.new _ (by simp)).alloc _
  have H3t : Hid (Three W1 (w.heap.size + 1 + 1) (.int .i64 t.v) (.int .i64 t.f) (.slice ta t.args.length tc)) := by rw [hW1]; exact Three.new _ (by simp)
  obtain ⟨E, hE⟩ : ∃ E, E = allErr ar [s, t] := ⟨_, rfl⟩
  obtain ⟨A, hA⟩ : ∃ A, A = grSpec ar s t := ⟨_, rfl⟩
  obtain ⟨N, hN⟩ : ∃ N, N = cmpSpec ar s t := ⟨_, rfl⟩
  have hG1 := Greater_any ar ga gcap s sa sc t ta tc W1 (Ints_below hbW hg) (InP_below hbW hin) (InP_below hbW hin2)
  rw [← hE, ← hA] at hG1
  have HG1 := hide hG1
  have HE := hide hE
  have HA := hide hA
  have HN := hide hN
  have HW1 := hide hW1
  have Href := hide href
  obtain ⟨c0, c1, c2, _, _, _⟩ := H3s.out
  obtain ⟨d0, d1, d2, _, _, _⟩ := H3t.out
  clear hG1 hE hA hN hW1 href
  go_enter Try.func9, Try.ntmps9
  go_wp2_with fail
  rw [← HW1.out]
  refine HG1.out.mono ?_
  rintro e w1 ⟨rfl, hb1⟩
  have hz1 := hb1.size
  have hbw1 : Below w.heap.size w w1 := hbW.trans (hb1.mono (by omega))
  have cg1 : w1.cell? ⟨w.heap.size, 0, none⟩ = some (.slice ga ar.length gcap) := by rw [hb1.cell (p := ⟨w.heap.size, 0, none⟩) (show w.heap.size < W1.heap.size by omega)]; exact cg
  have H3s1 := hide (H3s.out.below hb1)
  have H3t1 := hide (H3t.out.below hb1)
  obtain ⟨e0, e1, e2, _, _, _⟩ := H3s1.out
  obtain ⟨f0, f1, f2, _, _, _⟩ := H3t1.out
  have hC1 := Compare_any ar ga gcap s sa sc t ta tc w1 (Ints_below hbw1 hg) (InP_below hbw1 hin) (InP_below hbw1 hin2)
  rw [← HE.out, ← HN.out] at hC1
  have HC1 := hide hC1
  clear hC1 HG1 cg c0 c1 c2 d0 d1 d2 hb1 HW1 H3s H3t
  go_wp2_with fail
  refine HC1.out.mono ?_
  rintro e w2 ⟨rfl, hb2⟩
  have hz2 := hb2.size
  have hbw2 : Below w.heap.size w w2 := hbw1.trans (hb2.mono (by omega))
  have cg2 : w2.cell? ⟨w.heap.size, 0, none⟩ = some (.slice ga ar.length gcap) := by rw [hb2.cell (p := ⟨w.heap.size, 0, none⟩) (show w.heap.size < w1.heap.size by omega)]; exact cg1
  have H3s2 := hide (H3s1.out.below hb2)
  have H3t2 := hide (H3t1.out.below hb2)
  obtain ⟨g0, g1, g2, _, _, _⟩ := H3s2.out
  obtain ⟨h0, h1, h2, _, _, _⟩ := H3t2.out
  have HK := hide (fun e => chkB ar ga gcap s t (some ⟨w2.heap.size, 0, none⟩) (w2.alloc (.cells #[.int .i64 s.v, .int .i64 s.f, .slice sa s.args.length sc, .int .i64 t.v, .int .i64 t.f, .slice ta t.args.length tc] e)) (Ints_alloc _ (Ints_below hbw2 hg)) (InP_new2 e rfl trivial (InP_below hbw2 hin) (InP_below hbw2 hin2)))
  rw [← HE.out] at HK
  clear HC1 cg1 e0 e1 e2 f0 f1 f2 hb2 H3s1 H3t1
  go_wp2_with fail
  refine (HK.out _).mono ?_
  rintro e w3 ⟨rfl, hb3⟩
  have hz3 := hb3.size
  simp at hz3
  have hb23 : Below w2.heap.size w2 w3 := (below1 _ _).trans (hb3.mono (by simp))
  have hbw3 : Below w.heap.size w w3 := hbw2.trans (hb23.mono (by omega))
  have H3s3 := hide (H3s2.out.below hb23)
  have H3t3 := hide (H3t2.out.below hb23)
  obtain ⟨i0, i1, i2, _, _, _⟩ := H3s3.out
  obtain ⟨j0, j1, j2, _, _, _⟩ := H3t3.out
  clear HK cg2 g0 g1 g2 h0 h1 h2 hb3 H3s2 H3t2
  by_cases hE0 : E = 0
  · obtain ⟨k1, k2, k3, k4⟩ := ok_two (HE.out.symm.trans hE0)
    have HA2 : Hid (A = gt s t) := by show _ = _; rw [HA.out, grSpec, decide_eq_true (HE.out.symm.trans hE0), Bool.true_and]
    have HN2 : Hid (N = if gt s t then 1 else if gt t s then -1 else 0) := by show _ = _; rw [HN.out, cmpSpec, if_pos (HE.out.symm.trans hE0)]
    have HR1 := hide (Href.out ar s sa sc t ta tc w3 k2 k4 k1 k3 (InP_below hbw3 hin) (InP_below hbw3 hin2))
    have K := hide (And.intro k1 (And.intro k2 (And.intro k3 k4)))
    subst hE0
    clear k1 k2 k3 k4
    go_wp2_with fail
    refine HR1.out.mono ?_
    rintro e w4 ⟨rfl, hb4⟩
    have hz4 := hb4.size
    have hbw4 : Below w.heap.size w w4 := hbw3.trans (hb4.mono (by omega))
    obtain ⟨m0, m1, m2, _, _, _⟩ := H3s3.out.below hb4
    obtain ⟨n0, n1, n2, _, _, _⟩ := H3t3.out.below hb4
    have HR2 := hide (Href.out ar t ta tc s sa sc w4 K.out.2.2.2 K.out.2.1 K.out.2.2.1 K.out.1 (InP_below hbw4 hin2) (InP_below hbw4 hin))
    have Hbw4 := hide hbw4
    clear HR1 hb4 hbw4 i0 i1 i2 j0 j1 j2
    rcases Bool.eq_false_or_eq_true (gt s t) with hgt | hgt
    · rw [hgt] at HA2 HN2 ⊢
      obtain rfl : A = true := HA2.out
      obtain rfl : N = 1 := HN2.out
      clear hgt HA2 HN2
      go_wp2_with fail
      refine (orderBegun_any _).mono ?_
      rintro e w5 ⟨rfl, hb5⟩
      have Hbf := hide (Hbw4.out.trans (hb5.mono Hbw4.out.size))
      clear hb5
      go_wp2_with fail
      go_ret
      exact ⟨rfl, Hbf.out⟩
    · rw [hgt] at HA2 HN2 ⊢
      obtain rfl : A = false := HA2.out
      have HN3 : Hid (N = if gt t s then -1 else 0) := HN2.out
      clear hgt HA2 HN2
      go_wp2_with fail
      refine HR2.out.mono ?_
      rintro e w5 ⟨rfl, hb5⟩
      have Hbw5 := hide (Hbw4.out.trans (hb5.mono Hbw4.out.size))
      clear hb5
      rcases Bool.eq_false_or_eq_true (gt t s) with hgt2 | hgt2
      · rw [hgt2] at HN3 ⊢
        obtain rfl : N = -1 := HN3.out
        clear hgt2 HN3
        go_wp2_with fail
        refine (orderBegun_any _).mono ?_
        rintro e w6 ⟨rfl, hb6⟩
        have Hbf := hide (Hbw5.out.trans (hb6.mono Hbw5.out.size))
        clear hb6
        go_wp2_with fail
        go_ret
        exact ⟨rfl, Hbf.out⟩
      · rw [hgt2] at HN3 ⊢
        obtain rfl : N = 0 := HN3.out
        clear hgt2 HN3
        go_wp2_with fail
        refine (orderBegun_any _).mono ?_
        rintro e w6 ⟨rfl, hb6⟩
        have Hbf := hide (Hbw5.out.trans (hb6.mono Hbw5.out.size))
        clear hb6
        go_wp2_with fail
        go_ret
        exact ⟨rfl, Hbf.out⟩
  · have hEb : (E == 0) = false := by simpa using hE0
    have hA0 : A = false := by rw [HA.out, grSpec, decide_eq_false (fun h' => hE0 (HE.out.trans h')), Bool.false_and]
    have hN0 : N = 0 := by rw [HN.out, cmpSpec, if_neg (fun h' => hE0 (HE.out.trans h'))]
    have hEE : (E == E) = true := by simp
    subst hA0 hN0
    have Hbw3 := hide hbw3
    clear hE0 hbw3
    go_wp2_with fail
    refine (orderBegun_any _).mono ?_
    rintro e w5 ⟨rfl, hb5⟩
    have Hbf := hide (Hbw3.out.trans (hb5.mono Hbw3.out.size))
    clear hb5
    go_wp2_with fail
    go_ret
    exact ⟨rfl, Hbf.out⟩

end Go.Proofs.Ytbkedppkdhfpoaa

namespace Go.Proofs.Ytbkedppkdhfpoaa
open Go.RowKit

theorem drewB0 (w : World) : Below w.heap.size w w.drew := ⟨rfl, rfl, rfl, Nat.le_refl _, fun _ _ => rfl⟩
theorem cellB {w w' : World} {b o : Nat} {v : Value} (hb : Below w.heap.size w w') (h : w.cell? ⟨b, o, none⟩ = some v) : w'.cell? ⟨b, o, none⟩ = some v := by
  rw [hb.cell (p := ⟨b, o, none⟩) (lt_of_cell h)]; exact h
theorem allErr_both {ar : List Int} (h : sigErr ar = 0) (s t : T) : allErr ar [s, t] = if termErr ar s = 0 then termErr ar t else termErr ar s := by
  rw [allErr, if_pos h, termsErr, termsErr, termsErr]
  by_cases h1 : termErr ar s = 0
  · rw [if_pos h1, if_pos h1]
    by_cases h2 : termErr ar t = 0
    · rw [if_pos h2, h2]
    · rw [if_neg h2]
  · rw [if_neg h1, if_neg h1]

attribute [local go_sem ↓] Go.wp_at_zero Go.wp_at_succ
set_option maxRecDepth 100000 in
set_option maxHeartbeats 2000000 in
theorem refCheckRules_any (href : RefGr) (ar : List Int) (ga : Option Addr) (gcap : Nat) (rs : List (T × T)) (ra : Option Addr) (rc : Nat) (w : World) (hg : Ints w ar ga) (hl : rs.length ≤ 9223372036854775807) (hr : RulesP (fun _ => True) w rs ra) :
    Calls Try.prog 47 #[.agg #[.slice ga ar.length gcap], .slice ra rs.length rc] w fun e w' => e = .returned (.int .i64 (rulesErr ar rs)) ∧ Below w.heap.size w w' := by
  have H1 := hide (fun o => checkSignature_any ar ga gcap (w.alloc o) (Ints_alloc o hg))
  obtain ⟨E, hE⟩ : ∃ E, E = sigErr ar := ⟨_, rfl⟩
  obtain ⟨Z, hZ⟩ : ∃ Z, Z = rulesErr ar rs := ⟨_, rfl⟩
  rw [← hE] at H1
  rw [← hZ]
  have HE := hide hE
  have HZ := hide hZ
  have Hg := hide hg
  have Hr := hide hr
  have Href := hide href
  clear hE hZ hg hr href
  go_enter Try.func47, Try.ntmps47
  go_wp2_with fail
  refine (H1.out _).mono ?_
  rintro e w1 ⟨rfl, hb1⟩
  have hz1 : w.heap.size + 1 ≤ w1.heap.size := by have := hb1.size; simp at this; omega
  have hbw : Below w.heap.size w w1 := (below1 _ _).trans (hb1.mono (by simp))
  have cg : w1.cell? ⟨w.heap.size, 0, none⟩ = some (.slice ga ar.length gcap) := by
    rw [hb1.cell (p := ⟨w.heap.size, 0, none⟩) (by simp)]; exact cell_new 0 rfl
  have Hbw := hide hbw
  clear hb1 hbw H1
  by_cases h0 : E = 0
  · have HZ1 : Hid (Z = if 20 < rs.length then 2 else ruleErr ar rs) := by show _ = _; rw [HZ.out, rulesErr, if_pos (HE.out.symm.trans h0)]
    have Hsig := hide (HE.out.symm.trans h0)
    subst h0
    by_cases h20 : 20 < rs.length
    · obtain rfl : Z = 2 := by rw [HZ1.out, if_pos h20]
      have e20 : (20 : Int) < rs.length := by omega
      have hp : (0 : Int) < rs.length := by omega
      clear HZ1 HZ HE Hsig h20
      go_wp2_with fail
      go_loopw [5, 6] (fun ev iv wr => ev = .int .i64 2 ∧ iv = .int .i64 0 ∧ Hid (wr = w1)) (fun _ _ _ => 0)
      case atStart => exact ⟨rfl, rfl, rfl⟩
      case round =>
        obtain ⟨rfl, rfl, hw⟩ := hrel
        obtain rfl := (show w1 = _ from Eq.symm hw)
        go_wp2_with fail
        go_ret
        exact ⟨rfl, Hbw.out⟩
    · have HZ2 : Hid (Z = ruleErr ar rs) := by show _ = _; rw [HZ1.out, if_neg h20]
      have e20 : ¬ (20 : Int) < rs.length := by omega
      clear HZ1 HZ HE
      go_wp2_with fail
      go_loopw [5, 6] (fun ev iv wr => ∃ (k : Nat) (F : Int), k ≤ rs.length ∧ iv = .int .i64 k ∧ ev = .int .i64 F ∧ Hid (Z = if F = 0 then ruleErr ar (rs.drop k) else F) ∧ Below w1.heap.size w1 wr) (fun _ iv _ => rs.length - (intOf iv).toNat)
      case atStart => exact ⟨0, 0, Nat.zero_le _, rfl, rfl, by rw [List.drop_zero, if_pos rfl]; exact HZ2, Below.refl _ _⟩
      case round =>
        obtain ⟨k, F, hk, rfl, rfl, HZk, hbr⟩ := hrel
        have Hbr := hide hbr
        have Hbf := hide (Hbw.out.trans (hbr.mono Hbw.out.size))
        have hzr := hbr.size
        have hzw : w.heap.size < wr.heap.size := by omega
        by_cases hF : F = 0
        · have HZ3 : Hid (Z = ruleErr ar (rs.drop k)) := by show _ = _; rw [HZk.out, if_pos hF]
          subst hF
          clear HZk hbr
          by_cases hlt : k < rs.length
          · obtain ⟨b, off, rfl⟩ := RulesP_some Hr.out (by omega)
            obtain ⟨x, hx⟩ : ∃ x, rs[k]? = some x := ⟨rs[k], List.getElem?_eq_getElem hlt⟩
            obtain ⟨a1, c1, a2, c2, _, k0, k1, k2, k3, k4, k5, hi1, hi2⟩ := RulesP_at (RulesP_below Hbf.out Hr.out) hx
            have hst := ruleErr_drop (ar := ar) hx
            rw [← HZ3.out, allErr_both Hsig.out] at hst
            have Hst := hide hst
            have hkI : (k : Int) < rs.length := by omega
            have hk0 : (0 : Int) ≤ k := by omega
            have hS := hide (fun (w' : World) (hb' : Below wr.heap.size wr w') => (show w'.cell? ⟨w.heap.size, 0, none⟩ = some (.slice ga ar.length gcap) ∧ w'.cell? ⟨b, off + k * 6, none⟩ = some (.int .i64 x.1.v) ∧ w'.cell? ⟨b, off + k * 6 + 1, none⟩ = some (.int .i64 x.1.f) ∧ w'.cell? ⟨b, off + k * 6 + 2, none⟩ = some (.slice a1 x.1.args.length c1) ∧ w'.cell? ⟨b, off + k * 6 + 3, none⟩ = some (.int .i64 x.2.v) ∧ w'.cell? ⟨b, off + k * 6 + 4, none⟩ = some (.int .i64 x.2.f) ∧ w'.cell? ⟨b, off + k * 6 + 5, none⟩ = some (.slice a2 x.2.args.length c2) from
              ⟨by rw [hb'.cell (p := ⟨w.heap.size, 0, none⟩) hzw, Hbr.out.cell (p := ⟨w.heap.size, 0, none⟩) (by show w.heap.size < w1.heap.size; omega)]; exact cg, cellB hb' k0, cellB hb' k1, cellB hb' k2, cellB hb' k3, cellB hb' k4, cellB hb' k5⟩))
            have HC1 := hide (fun (w' : World) (hb' : Below wr.heap.size wr w') => refCheckTerm_any ar ga gcap x.1 a1 c1 w' (Ints_below (Hbf.out.trans (hb'.mono Hbf.out.size)) Hg.out) (sig_len Hsig.out) (InP_below hb' hi1))
            have HC2 := hide (fun (w' : World) (hb' : Below wr.heap.size wr w') => refCheckTerm_any ar ga gcap x.2 a2 c2 w' (Ints_below (Hbf.out.trans (hb'.mono Hbf.out.size)) Hg.out) (sig_len Hsig.out) (InP_below hb' hi2))
            have HGr := hide (fun (w' : World) (hb' : Below wr.heap.size wr w') (h1 : termErr ar x.1 = 0) (h2 : termErr ar x.2 = 0) => Href.out ar x.1 a1 c1 x.2 a2 c2 w' (termErr_iff.1 h1).2 (termErr_iff.1 h2).2 (termErr_iff.1 h1).1 (termErr_iff.1 h2).1 (InP_below hb' hi1) (InP_below hb' hi2))
            obtain ⟨F1, hF1⟩ : ∃ F1, F1 = termErr ar x.1 := ⟨_, rfl⟩
            obtain ⟨F2, hF2⟩ : ∃ F2, F2 = termErr ar x.2 := ⟨_, rfl⟩
            rw [← hF1] at HC1 HGr Hst
            rw [← hF2] at HC2 HGr Hst
            obtain ⟨G, hG⟩ : ∃ G, G = gt x.1 x.2 := ⟨_, rfl⟩
            rw [← hG] at HGr Hst
            have Hbwr := hide (Below.refl wr.heap.size wr)
            have HX1 := hide (HC1.out wr.drew (drewB0 wr))
            have hbl := lt_of_cell k0
            clear hst hx hi1 hi2 HZ3 hF1 hF2 hG k0 k1 k2 k3 k4 k5 HC1
            have hS1 := hide (hS.out wr.drew (Hbwr.out.trans ((drewB0 wr).mono Hbwr.out.size)))
            have hS0 := hide (hS.out wr Hbwr.out)
            go_wp2_with fail
            go_region_held3 (fun w' => w'.cell? ⟨w.heap.size, 0, none⟩ = some (.slice ga ar.length gcap) ∧ w'.cell? ⟨b, off + k * 6, none⟩ = some (.int .i64 x.1.v) ∧ w'.cell? ⟨b, off + k * 6 + 1, none⟩ = some (.int .i64 x.1.f) ∧ w'.cell? ⟨b, off + k * 6 + 2, none⟩ = some (.slice a1 x.1.args.length c1) ∧ w'.cell? ⟨b, off + k * 6 + 3, none⟩ = some (.int .i64 x.2.v) ∧ w'.cell? ⟨b, off + k * 6 + 4, none⟩ = some (.int .i64 x.2.f) ∧ w'.cell? ⟨b, off + k * 6 + 5, none⟩ = some (.slice a2 x.2.args.length c2)) ((first | with_reducible exact hS.out _ (Hid.out Hbw2) | with_reducible exact hS1.out | with_reducible exact hS0.out | go_keep)) ((
              go_at_call 31
              refine HX1.out.mono ?_
              rintro e w2 ⟨rfl, hbw2⟩
              have Hbw2 : Hid (Below wr.heap.size wr w2) := Hbwr.out.trans (((drewB0 wr).trans hbw2).mono Hbwr.out.size)))
            clear hS1 hS0 HX1
            by_cases h1 : F1 = 0
            · subst h1
              have HX2 := hide (HC2.out w2.drew (Hbw2.out.trans ((drewB0 w2).mono Hbw2.out.size)))
              have hS1 := hide (hS.out w2.drew (Hbw2.out.trans ((drewB0 w2).mono Hbw2.out.size)))
              have hS0 := hide (hS.out w2 Hbw2.out)
              go_wp2_with fail
              go_region_held3 (fun w' => w'.cell? ⟨w.heap.size, 0, none⟩ = some (.slice ga ar.length gcap) ∧ w'.cell? ⟨b, off + k * 6, none⟩ = some (.int .i64 x.1.v) ∧ w'.cell? ⟨b, off + k * 6 + 1, none⟩ = some (.int .i64 x.1.f) ∧ w'.cell? ⟨b, off + k * 6 + 2, none⟩ = some (.slice a1 x.1.args.length c1) ∧ w'.cell? ⟨b, off + k * 6 + 3, none⟩ = some (.int .i64 x.2.v) ∧ w'.cell? ⟨b, off + k * 6 + 4, none⟩ = some (.int .i64 x.2.f) ∧ w'.cell? ⟨b, off + k * 6 + 5, none⟩ = some (.slice a2 x.2.args.length c2)) ((first | with_reducible exact hS.out _ (Hid.out Hbw3) | with_reducible exact hS1.out | with_reducible exact hS0.out | go_keep)) ((
                go_at_call 31
                refine HX2.out.mono ?_
                rintro e w3 ⟨rfl, hbw3⟩
                have Hbw3 : Hid (Below wr.heap.size wr w3) := Hbw2.out.trans (((drewB0 w2).trans hbw3).mono Hbw2.out.size)))
              clear hS1 hS0 HX2
              by_cases h2 : F2 = 0
              · subst h2
                have HX3 := hide (HGr.out w3.drew (Hbw3.out.trans ((drewB0 w3).mono Hbw3.out.size)) (by first | rfl | trivial) (by first | rfl | trivial))
                have hS1 := hide (hS.out w3.drew (Hbw3.out.trans ((drewB0 w3).mono Hbw3.out.size)))
                have hS0 := hide (hS.out w3 Hbw3.out)
                go_wp2_with fail
                go_region_held3 (fun w' => w'.cell? ⟨w.heap.size, 0, none⟩ = some (.slice ga ar.length gcap) ∧ w'.cell? ⟨b, off + k * 6, none⟩ = some (.int .i64 x.1.v) ∧ w'.cell? ⟨b, off + k * 6 + 1, none⟩ = some (.int .i64 x.1.f) ∧ w'.cell? ⟨b, off + k * 6 + 2, none⟩ = some (.slice a1 x.1.args.length c1) ∧ w'.cell? ⟨b, off + k * 6 + 3, none⟩ = some (.int .i64 x.2.v) ∧ w'.cell? ⟨b, off + k * 6 + 4, none⟩ = some (.int .i64 x.2.f) ∧ w'.cell? ⟨b, off + k * 6 + 5, none⟩ = some (.slice a2 x.2.args.length c2)) ((first | with_reducible exact hS.out _ (Hid.out Hbw4) | with_reducible exact hS1.out | with_reducible exact hS0.out | go_keep)) ((
                  go_at_call 43
                  refine HX3.out.mono ?_
                  rintro e w4 ⟨rfl, hbw4⟩
                  have Hbw4 : Hid (Below wr.heap.size wr w4) := Hbw3.out.trans (((drewB0 w3).trans hbw4).mono Hbw3.out.size)))
                clear hS1 hS0 HX3
                have Hb4 := hide (Hbr.out.trans (Hbw4.out.mono Hbr.out.size))
                cases G with
                | true =>
                  have Hs3 : Hid (Z = if (0 : Int) = 0 then ruleErr ar (rs.drop (k + 1)) else 0) := by show _ = _; rw [Hst.out]; simp
                  clear Hst
                  go_wp2_with fail
                  go_roundw
                  case rel => exact ⟨k + 1, 0, by omega, by go_num, rfl, Hs3, Hb4.out⟩
                  case measure => simp [intOf]; omega
                | false =>
                  have Hs3 : Hid (Z = if (4 : Int) = 0 then ruleErr ar (rs.drop (k + 1)) else 4) := by show _ = _; rw [Hst.out]; simp
                  clear Hst
                  go_wp2_with fail
                  go_roundw
                  case rel => exact ⟨k + 1, 4, by omega, by go_num, rfl, Hs3, Hb4.out⟩
                  case measure => simp [intOf]; omega
              · have h2b : (F2 == 0) = false := by simpa using h2
                have Hb3 := hide (fun n => Hbr.out.trans ((below_drewN Hbw3.out n).mono Hbr.out.size))
                have Hs3 : Hid (Z = if F2 = 0 then ruleErr ar (rs.drop (k + 1)) else F2) := by show _ = _; rw [Hst.out]; simp [h2]
                clear Hst h2 HGr
                go_wp2_with fail
                go_quiet (fail)
                go_wp2_with fail
                go_roundw
                case rel => exact ⟨k + 1, F2, by omega, by go_num, rfl, Hs3, Hb3.out _⟩
                case measure => simp [intOf]; omega
            · have h1b : (F1 == 0) = false := by simpa using h1
              have Hb3 := hide (fun n => Hbr.out.trans ((below_drewN Hbw2.out n).mono Hbr.out.size))
              have Hs3 : Hid (Z = if F1 = 0 then ruleErr ar (rs.drop (k + 1)) else F1) := by show _ = _; rw [Hst.out]; simp [h1]
              clear Hst h1 HGr HC2
              go_wp2_with fail
              go_quiet (fail)
              go_wp2_with fail
              go_roundw
              case rel => exact ⟨k + 1, F1, by omega, by go_num, rfl, Hs3, Hb3.out _⟩
              case measure => simp [intOf]; omega
          · have hk2 : k = rs.length := by omega
            subst hk2
            obtain rfl : Z = 0 := by rw [HZ3.out, List.drop_length]; rfl
            clear HZ3
            go_wp2_with fail
            go_ret
            exact ⟨rfl, Hbf.out⟩
        · obtain rfl : Z = F := by rw [HZk.out, if_neg hF]
          have hFb : (Z == 0) = false := by simpa using hF
          clear HZk hF hbr
          by_cases hlt : k < rs.length
          · have hkI : (k : Int) < rs.length := by omega
            go_wp2_with fail
            go_ret
            exact ⟨rfl, Hbf.out⟩
          · have hkI : ¬ (k : Int) < rs.length := by omega
            go_wp2_with fail
            go_ret
            exact ⟨rfl, Hbf.out⟩
  · have h0b : (E == 0) = false := by simpa using h0
    obtain rfl : Z = E := by rw [HZ.out, rulesErr, if_neg (fun h => h0 (HE.out.trans h)), HE.out]
    clear HZ HE h0
    go_wp2_with fail
    go_loopw [5, 6] (fun ev iv wr => ev = .int .i64 Z ∧ iv = .int .i64 0 ∧ Hid (wr = w1)) (fun _ _ _ => 0)
    case atStart => exact ⟨rfl, rfl, rfl⟩
    case round =>
      obtain ⟨rfl, rfl, hw⟩ := hrel
      obtain rfl := (show w1 = _ from Eq.symm hw)
      by_cases hlt : (0 : Int) < rs.length
      · go_wp2_with fail
        go_ret
        exact ⟨rfl, Hbw.out⟩
      · go_wp2_with fail
        go_ret
        exact ⟨rfl, Hbw.out⟩

end Go.Proofs.Ytbkedppkdhfpoaa
