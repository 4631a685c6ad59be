/- Clauses: what subsuming means. The terms of a clause: the document's TermsOf. What holds in a model: what is put in, tidied, numbered anew. No word of the program's memory here. Clauses: is a clause always? Clauses: one that subsumes another, and what is put in for its variables. Clauses: a tidied clause holds where the clause holds, and only there. ModelHangs: a tidied clause is right, and has no more variables. ModelHangs: what a tidied clause is to the model. Clauses: what is tidied once is tidied. -/
import Derived.BigQuiet
import Derived.Test.YtbkedppkdhfpoabGreatJoined11
namespace Go.Proofs.YtbkedppkdhfpoabGreat
open Go.RowKit Go.Maps

theorem lookB_back {bs : List (Int × T)} {v w : Int} {u t : T} (h : lookB (bs ++ [(w, t)]) v = some u) : lookB bs v = some u ∨ w = v := by
  induction bs with
  | nil =>
    rw [List.nil_append, lookB] at h
    split at h
    · rename_i e; exact Or.inr e
    · cases h
  | cons x bs ih =>
    obtain ⟨a, b⟩ := x
    rw [List.cons_append, lookB] at h
    rw [lookB]
    split at h
    · rename_i e; rw [if_pos e]; exact Or.inl h
    · rename_i e; rw [if_neg e]; exact ih h
/-- The variables of the pattern are bound, and no others. -/
theorem grow_dom {ar : List Int} : ∀ (n : Nat), (∀ (p t : T) (bs b2 : List (Int × T)), p.sz ≤ n → okP ar p → growT p t bs = some b2 → (∀ v u, lookB bs v = some u → lookB b2 v = some u) ∧ (∀ v, v ≠ 0 → occ v p → ∃ u, lookB b2 v = some u) ∧ ∀ v u, lookB b2 v = some u → lookB bs v = some u ∨ occ v p) ∧
    (∀ (ps ts : List T) (bs b2 : List (Int × T)), T.sz.szL ps ≤ n → okP.okL ar ps → growT.growL ps ts bs = some b2 → (∀ v u, lookB bs v = some u → lookB b2 v = some u) ∧ (∀ v, v ≠ 0 → occ.occL v ps → ∃ u, lookB b2 v = some u) ∧ ∀ v u, lookB b2 v = some u → lookB bs v = some u ∨ occ.occL v ps) := by
  intro n
  induction n with
  | zero =>
    refine ⟨fun p t bs b2 h => by have := p.sz_pos; omega, fun ps ts bs b2 h _ hg => ?_⟩
    cases ps with
    | nil =>
      cases ts with
      | nil => simp [growT.growL] at hg; subst hg; exact ⟨fun _ _ h => h, fun _ _ h => h.elim, fun _ _ h => Or.inl h⟩
      | cons t ts => cases hg
    | cons p ps => have := p.sz_pos; rw [T.szL_cons] at h; omega
  | succ n ih =>
    have h1 : ∀ (p t : T) (bs b2 : List (Int × T)), p.sz ≤ n + 1 → okP ar p → growT p t bs = some b2 → (∀ v u, lookB bs v = some u → lookB b2 v = some u) ∧ (∀ v, v ≠ 0 → occ v p → ∃ u, lookB b2 v = some u) ∧ ∀ v u, lookB b2 v = some u → lookB bs v = some u ∨ occ v p := by
      intro p t bs b2 h hp hg
      have hpe := T.sz_eq p
      rw [growT_eq] at hg
      by_cases hv : p.v ≠ 0
      · rw [if_pos hv] at hg
        have hargs : p.args = [] := okP_var hp hv
        have hocc : ∀ v, occ v p → p.v = v := fun v ho => by
          rcases occ_iff.1 ho with h | h
          · exact h
          · rw [hargs] at h; exact h.elim
        cases hl : lookB bs p.v with
        | some u =>
          rw [hl] at hg
          by_cases hs : sameT u t = true
          · simp only [hs, if_true, Option.some.injEq] at hg
            subst hg
            exact ⟨fun _ _ h => h, fun v _ ho => ⟨u, by rw [← hocc v ho]; exact hl⟩, fun _ _ h => Or.inl h⟩
          · simp only [hs] at hg; cases hg
        | none =>
          rw [hl] at hg
          simp only [Option.some.injEq] at hg
          subst hg
          exact ⟨fun _ _ h => lookB_append h, fun v _ ho => ⟨t, by rw [← hocc v ho]; exact lookB_last hl⟩, fun v u h => (lookB_back h).imp id (fun e => occ_iff.2 (Or.inl e))⟩
      · rw [if_neg hv] at hg
        have hv0 : p.v = 0 := by omega
        by_cases h2 : t.v ≠ 0 ∨ p.f ≠ t.f
        · rw [if_pos h2] at hg; cases hg
        · rw [if_neg h2] at hg
          obtain ⟨k1, k2, k3⟩ := ih.2 p.args t.args bs b2 (by omega) (okP_iff.1 hp).2 hg
          refine ⟨k1, fun v h0 ho => ?_, fun v u hu => (k3 v u hu).imp id (fun h => occ_iff.2 (Or.inr h))⟩
          rcases occ_iff.1 ho with h | h
          · exact absurd (by rw [← h]; exact hv0) h0
          · exact k2 v h0 h
    refine ⟨h1, ?_⟩
    intro ps
    induction ps with
    | nil =>
      intro ts bs b2 _ _ hg
      cases ts with
      | nil => simp [growT.growL] at hg; subst hg; exact ⟨fun _ _ h => h, fun _ _ h => h.elim, fun _ _ h => Or.inl h⟩
      | cons t ts => cases hg
    | cons p ps ihp =>
      intro ts bs b2 h hok hg
      rw [T.szL_cons] at h
      cases ts with
      | nil => cases hg
      | cons t ts =>
        rw [growL_cons] at hg
        cases hp : growT p t bs with
        | none => rw [hp] at hg; cases hg
        | some b1 =>
          rw [hp] at hg
          obtain ⟨a1, a2, a3⟩ := h1 p t bs b1 (by omega) (okL_cons.1 hok).1 hp
          obtain ⟨c1, c2, c3⟩ := ihp ts b1 b2 (by omega) (okL_cons.1 hok).2 hg
          refine ⟨fun v u hu => c1 v u (a1 v u hu), fun v h0 ho => ?_, fun v u hu => ?_⟩
          · rcases ho with ho | ho
            · obtain ⟨u, hu⟩ := a2 v h0 ho
              exact ⟨u, c1 v u hu⟩
            · exact c2 v h0 ho
          · rcases c3 v u hu with h | h
            · exact (a3 v u h).imp id (fun h => Or.inl h)
            · exact Or.inr (Or.inr h)
theorem match_full {ar : List Int} {s t : T} (h' : (matchSpec ar s t).2.1 = true) : (∀ v, v ≠ 0 → occ v s → ∃ u, lookB (matchSpec ar s t).1 v = some u) ∧ (∀ v u, lookB (matchSpec ar s t).1 v = some u → v ≠ 0 ∧ occ v s) ∧ ∀ θ : Int → T, (∀ v u, lookB (matchSpec ar s t).1 v = some u → θ v = u) → sub θ s = t := by
  by_cases h1 : allErr ar [s, t] = 0
  · obtain ⟨k1, k2, k3, k4⟩ := ok_two h1
    have hmo := match_ok (ar := ar) (s := s) (t := t)
    cases hg : growT s t [] with
    | none => rw [matchSpec, if_pos h1, hg] at h'; cases h'
    | some bs =>
      have he : (matchSpec ar s t).1 = sortB bs := by rw [matchSpec, if_pos h1, hg]
      rw [he] at hmo ⊢
      obtain ⟨_, d2, d3⟩ := (grow_dom (ar := ar) s.sz).1 s t [] bs (Nat.le_refl _) k2 hg
      have hpos : ∀ v u, lookB (sortB bs) v = some u → 1 ≤ v := fun v u hu => (hmo.2 (v, u) (lookB_mem hu)).1.1
      have hd : ∀ v, v ≠ 0 → occ v s → ∃ u, lookB (sortB bs) v = some u := fun v h0 ho => by rw [lookB_sortB]; exact d2 v h0 ho
      refine ⟨hd, fun v u hu => ⟨by have := hpos v u hu; omega, ?_⟩, fun θ hθ => ?_⟩
      · rcases d3 v u (by rw [← lookB_sortB]; exact hu) with h | h
        · cases h
        · exact h
      · have h3 : applyT (sortB bs) s = t := by
          rw [applyT_sortB]
          have := (grow_apply (ar := ar) s.sz).1 s t [] bs [] (Nat.le_refl _) k2 k4 hg
          rwa [List.append_nil] at this
        rw [← h3, apply_by (σ := byB (sortB bs)) (fun _ _ => rfl) k2]
        refine sub_congr s.sz s (Nat.le_refl _) (fun v h0 ho => ?_)
        obtain ⟨u, hu⟩ := hd v h0 ho
        have := hpos v u hu
        rw [hθ v u hu, byB, putIn, if_pos (by omega), hu]
        rfl
  · rw [matchSpec, if_neg h1] at h'; cases h'
/-- What a way is to the literal's sides. -/
theorem way_full {ar : List Int} {l : Lit} {a b : T} (h : MatchP ar l a b) : (∀ v u, matchW ar l a b v = some u → v ≠ 0 ∧ (occ v l.2.1 ∨ occ v l.2.2)) ∧ ∀ θ : Int → T, (∀ v u, matchW ar l a b v = some u → θ v = u) → sub θ l.2.1 = a ∧ sub θ l.2.2 = b := by
  obtain ⟨hA, hB, hag⟩ := h
  obtain ⟨_, a2, a3⟩ := match_full hA
  obtain ⟨_, b2, b3⟩ := match_full hB
  have hw : ∀ v, matchW ar l a b v = match lookB (matchSpec ar l.2.2 b).1 v with
    | some u => some u
    | none => lookB (matchSpec ar l.2.1 a).1 v := fun v => rfl
  refine ⟨fun v u hu => ?_, fun θ hθ => ⟨a3 θ (fun v u hu => ?_), b3 θ (fun v u hu => ?_)⟩⟩
  · rw [hw] at hu
    cases hb : lookB (matchSpec ar l.2.2 b).1 v with
    | some x => exact ⟨(b2 v x hb).1, Or.inr (b2 v x hb).2⟩
    | none => rw [hb] at hu; exact ⟨(a2 v u hu).1, Or.inl (a2 v u hu).2⟩
  · cases hb : lookB (matchSpec ar l.2.2 b).1 v with
    | some x => rw [hag v u x hu hb]; exact hθ v x (by rw [hw, hb])
    | none => exact hθ v u (by rw [hw, hb]; exact hu)
  · exact hθ v u (by rw [hw, hu])
theorem ways_mem {ar : List Int} {l : Lit} : ∀ {d : List Lit} {gs : List Way} {g : Way}, WaysOf ar l d gs → g ∈ gs → ∃ k, k ∈ d ∧ k.1 = l.1 ∧ ((MatchP ar l k.2.1 k.2.2 ∧ g = matchW ar l k.2.1 k.2.2) ∨ (MatchP ar l k.2.2 k.2.1 ∧ g = matchW ar l k.2.2 k.2.1)) := by
  intro d
  induction d with
  | nil => intro gs g h hg; rw [show gs = [] from h] at hg; cases hg
  | cons k d ih =>
    intro gs g h hg
    obtain ⟨ms, rest, rfl, hs, hw⟩ := h
    rcases List.mem_append.1 hg with hg | hg
    · by_cases hk : k.1 = l.1
      · obtain ⟨g1, g2, rfl, h1, h2⟩ := hs.1 hk
        refine ⟨k, List.mem_cons_self, hk, ?_⟩
        rcases List.mem_append.1 hg with hg | hg
        · by_cases hp : MatchP ar l k.2.1 k.2.2
          · rw [h1.1 hp, List.mem_singleton] at hg; exact Or.inl ⟨hp, hg⟩
          · rw [h1.2 hp] at hg; cases hg
        · by_cases hp : MatchP ar l k.2.2 k.2.1
          · rw [h2.1 hp, List.mem_singleton] at hg; exact Or.inr ⟨hp, hg⟩
          · rw [h2.2 hp] at hg; cases hg
      · rw [hs.2 hk] at hg; cases hg
    · obtain ⟨k', h1, h2⟩ := ih hw hg
      exact ⟨k', List.mem_cons_of_mem _ h1, h2⟩
end Go.Proofs.YtbkedppkdhfpoabGreat

namespace Go.Proofs.YtbkedppkdhfpoabGreat
open Go.RowKit

/-- The terms of a clause, as they stand. -/
def termsOf : List Lit → List T
  | [] => []
  | x :: c => x.2.1 :: x.2.2 :: termsOf c
theorem termsOf_append (a b : List Lit) : termsOf (a ++ b) = termsOf a ++ termsOf b := by
  induction a with
  | nil => rfl
  | cons x a ih => rw [List.cons_append, termsOf, termsOf, ih]; rfl
theorem termsOf_step {c : List Lit} {k : Nat} {x : Lit} (h : c[k]? = some x) : termsOf (c.take (k + 1)) = termsOf (c.take k) ++ [x.2.1, x.2.2] := by
  rw [List.take_add_one, h, termsOf_append]; rfl
theorem termsOf_length (c : List Lit) : (termsOf c).length = 2 * c.length := by
  induction c with
  | nil => rfl
  | cons x c ih => rw [termsOf, List.length_cons, List.length_cons, ih, List.length_cons]; omega

set_option maxRecDepth 100000 in
set_option maxHeartbeats 1000000 in
theorem termsOf_any (c : List Lit) (ca : Option Addr) (cc : Nat) (w : World) (hl : c.length ≤ 1000) (hc : LitsP w c ca) :
    Calls Tryz.prog 55 #[.slice ca c.length cc] w fun e w' => ∃ a cap, e = .returned (.slice a (termsOf c).length cap) ∧ InL w' (termsOf c) a ∧ Below w.heap.size w w' := by
  obtain ⟨i, hi, hzz⟩ := Option.map_eq_some_iff.1 Tryz.info77
  simp only [Prod.mk.injEq] at hzz
  obtain ⟨hz0, hz1, hz2⟩ := hzz
  have Hc := hide hc
  clear hc
  go_enter Tryz.func55, Tryz.ntmps55
  go_wp2_with fail
  go_loopw [3, 4] (fun l j wr => ∃ (k : Nat) (xs : List Value), k ≤ c.length ∧ j = .int .i64 k ∧ Hid (wr.ownsRow w.heap.size 77 3 l (2 * k) xs) ∧ Hid (Kids (fun b => b < w.heap.size) wr (termsOf (c.take k)) xs) ∧ Hid (Below w.heap.size w wr)) (fun _ j _ => c.length - (intOf j).toNat)
  case atStart => exact ⟨0, [], Nat.zero_le _, rfl, ⟨rfl, Or.inl ⟨rfl, rfl⟩⟩, rfl, Below.refl _ _⟩
  case round =>
    obtain ⟨k, xs, hk, rfl, Hown, Hkid, Hb⟩ := hrel
    have hzr := Hb.out.size
    obtain ⟨la, lc, rfl⟩ := own_shape Hown.out
    by_cases hlt : k < c.length
    · obtain ⟨b, off, rfl⟩ := LitsP_some Hc.out (by omega)
      obtain ⟨x, hx⟩ : ∃ x, c[k]? = some x := ⟨c[k], List.getElem?_eq_getElem hlt⟩
      obtain ⟨a1, c1, a2, c2, j0, j1, j2, j3, j4, j5, j6, hi1, hi2⟩ := LitsP_at Hc.out hx
      have k1 := cellB Hb.out j1
      have k2 := cellB Hb.out j2
      have k3 := cellB Hb.out j3
      have k4 := cellB Hb.out j4
      have k5 := cellB Hb.out j5
      have k6 := cellB Hb.out j6
      have Hst := hide (termsOf_step hx)
      have Hblt := hide (lt_of_cell j1)
      have Hi1 := hide (InP_imp (fun k h => h.2) (InP_lt hi1))
      have Hi2 := hide (InP_imp (fun k h => h.2) (InP_lt hi2))
      have hkI : (k : Int) < c.length := by omega
      have hk0 : (0 : Int) ≤ k := by omega
      have HO := hide (fun (o1 : Obj) (w' : World) (h : w'.heap = (wr.alloc o1).heap) => own_same Hown.out (w' := w') (fun g hg => by rw [h]; exact (below1 wr o1).block g (own_lt Hown.out g hg).2))
      have hbw : b < wr.heap.size := by have := Hblt.out; omega
      have hne : (Value.slice la (2 * k) lc).ownBlock ≠ some b := fun e => by
        have h1 := (own_lt Hown.out _ e).1
        have h2 := Hblt.out
        omega
      clear hx hi1 hi2 j0 j1 j2 j3 j4 j5 j6
      go_wp2_with fail
      go_region_held3 (fun w' => w'.cell? ⟨b, off + k * 7 + 1, none⟩ = some (.int .i64 x.2.1.v) ∧ w'.cell? ⟨b, off + k * 7 + 2, none⟩ = some (.int .i64 x.2.1.f) ∧ w'.cell? ⟨b, off + k * 7 + 3, none⟩ = some (.slice a1 x.2.1.args.length c1) ∧ w'.cell? ⟨b, off + k * 7 + 4, none⟩ = some (.int .i64 x.2.2.v) ∧ w'.cell? ⟨b, off + k * 7 + 5, none⟩ = some (.int .i64 x.2.2.f) ∧ w'.cell? ⟨b, off + k * 7 + 6, none⟩ = some (.slice a2 x.2.2.args.length c2)) (first | go_keep | (go_split_ands; refine ⟨?_, ?_, ?_, ?_, ?_, ?_⟩ <;> (rw [hgr.cell_far _ (by simp; omega) (Ne.symm hne)]; assumption))) ((refine step_append_lies _ (by rfl) (.tmp 11) (.tmp 22) 75 (by rfl) w.heap.size 77 i (.agg #[.int .i64 0, .int .i64 0, .slice none 0 0]) 3 40 Tryz.underlying75 hi hz0 hz1 hz2 (by rfl) (by decide) (.slice la (2 * k) lc) (2 * k) xs (by rfl) (HO.out (.cells #[.int .i64 x.2.1.v, .int .i64 x.2.1.f, .slice a1 x.2.1.args.length c1, .int .i64 x.2.2.v, .int .i64 x.2.2.f, .slice a2 x.2.2.args.length c2] 77) _ (by rfl)) ⟨wr.heap.size, 0, none⟩ 2 2 [.int .i64 x.2.1.v, .int .i64 x.2.1.f, .slice a1 x.2.1.args.length c1, .int .i64 x.2.2.v, .int .i64 x.2.2.f, .slice a2 x.2.2.args.length c2] (by rfl) (by rfl) (World.news_of_block (heap_alloc_new wr _)) (by simp [Value.oneCell']) (by decide) (by unfold maxLen; omega) (by omega) (by simp; omega) _ (by rfl) ?_; intro g cap2 w2 hown2 hgr hat hlt2))
      have Hown2 : Hid (w2.ownsRow w.heap.size 77 3 (.slice (some ⟨g, 0, none⟩) (2 * k + 2) cap2) (2 * (k + 1)) (xs ++ [.int .i64 x.2.1.v, .int .i64 x.2.1.f, .slice a1 x.2.1.args.length c1, .int .i64 x.2.2.v, .int .i64 x.2.2.f, .slice a2 x.2.2.args.length c2])) := hown2
      have Hb2 : Hid (Below w.heap.size w w2) := (Below.drew (Hb.out.alloc hzr _)).grown hgr (by simp; omega) (fun k' hk' => (own_lt Hown.out k' hk').1)
      have Hk2 : Hid (Kids (fun b => b < w.heap.size) w2 (termsOf (c.take (k + 1))) (xs ++ [.int .i64 x.2.1.v, .int .i64 x.2.1.f, .slice a1 x.2.1.args.length c1, .int .i64 x.2.2.v, .int .i64 x.2.2.f, .slice a2 x.2.2.args.length c2])) := by
        show Kids _ _ _ _
        rw [Hst.out]
        refine Kids_append (Kids_mono (w := wr) (fun j hj _ => ⟨hj, ?_⟩) Hkid.out) ⟨a1, c1, _, rfl, ?_, a2, c2, [], rfl, ?_, rfl⟩
        · rw [Hb2.out.block j hj, Hb.out.block j hj]
        · exact InP_below Hb2.out Hi1.out
        · exact InP_below Hb2.out Hi2.out
      clear hown2 hgr hat
      go_wp2_with fail
      go_roundw
      case rel => exact ⟨k + 1, _, by omega, by go_num, Hown2, Hk2, Hb2⟩
      case measure => simp [intOf]; omega
    · have hk2 : k = c.length := by omega
      subst hk2
      rw [List.take_length] at Hkid
      have Hend : Hid (∃ a cap, Value.slice la (2 * c.length) lc = .slice a (termsOf c).length cap ∧ InL wr (termsOf c) a) := by
        by_cases h0 : 0 < 2 * c.length
        · obtain ⟨g, cap, he, hb, hlt, hcell⟩ := own_cells Hown.out h0
          refine ⟨_, cap, by rw [termsOf_length]; exact he, ?_⟩
          exact InP_imp (fun _ _ => trivial) (Kids_in (p := fun _ => True) trivial (Kids_mono (fun k _ _ => ⟨trivial, rfl⟩) Hkid.out) (fun j u hu => by rw [Nat.zero_add]; exact hcell j u hu))
        · have : c = [] := List.length_eq_zero_iff.1 (by omega)
          subst this
          exact ⟨la, lc, rfl, InP_nil⟩
      obtain ⟨a, cap, he, hin⟩ := Hend.out
      have Hin := hide hin
      rw [he]
      clear Hend he hin Hown Hkid
      go_wp2_with fail
      go_ret
      exact ⟨a, cap, rfl, Hin.out, Hb.out⟩
end Go.Proofs.YtbkedppkdhfpoabGreat

namespace Go.Proofs.YtbkedppkdhfpoabGreat

/-- Each side of a clause made another one. -/
def mapC (h : T → T) (c : List Lit) : List Lit := c.map (fun x => (x.1, h x.2.1, h x.2.2))
/-- Variables by their numbers. -/
def ren (L : List Int) (v : Int) : T := ⟨(L.idxOf v : Int) + 1, 0, []⟩
theorem numL_pre (v : Int) (ns : List Int) : ∃ R, numL v ns = ns ++ R := by
  rw [numL]; split
  · exact ⟨[], by simp⟩
  · exact ⟨[v], rfl⟩
theorem give_pre : ∀ (N : Nat), (∀ (t : T) (ns : List Int), t.sz ≤ N → ∃ R, (giveT t ns).2 = ns ++ R) ∧ (∀ (ts : List T) (ns : List Int), T.sz.szL ts ≤ N → ∃ R, (giveT.giveL ts ns).2 = ns ++ R) := by
  intro N
  induction N with
  | zero =>
    refine ⟨fun t ns h => by have := t.sz_pos; omega, fun ts ns h => ?_⟩
    cases ts with
    | nil => exact ⟨[], by simp [giveT.giveL]⟩
    | cons t ts => have := t.sz_pos; rw [T.szL_cons] at h; omega
  | succ N ih =>
    have h1 : ∀ (t : T) (ns : List Int), t.sz ≤ N + 1 → ∃ R, (giveT t ns).2 = ns ++ R := fun t ns h => by
      have he := T.sz_eq t
      obtain ⟨R1, e1⟩ := numL_pre t.v ns
      obtain ⟨R2, e2⟩ := ih.2 t.args (numL t.v ns) (by omega)
      rw [giveT_eq]
      exact ⟨R1 ++ R2, by simp only; rw [e2, e1, List.append_assoc]⟩
    refine ⟨h1, fun ts => ?_⟩
    induction ts with
    | nil => intro ns _; exact ⟨[], by simp [giveT.giveL]⟩
    | cons t ts iht =>
      intro ns h
      rw [T.szL_cons] at h
      obtain ⟨R1, e1⟩ := h1 t ns (by omega)
      obtain ⟨R2, e2⟩ := iht (giveT t ns).2 (by omega)
      exact ⟨R1 ++ R2, by show (giveT.giveL ts (giveT t ns).2).2 = _; rw [e2, e1, List.append_assoc]⟩
theorem idx_pre {v : Int} {A R : List Int} (h : v ∈ A) : (A ++ R).idxOf v = A.idxOf v := by rw [List.idxOf_append, if_pos h]
theorem give_ren {ar : List Int} : ∀ (N : Nat), (∀ (t : T) (ns R : List Int), t.sz ≤ N → okP ar t → (giveT t ns).1 = sub (ren ((giveT t ns).2 ++ R)) t) ∧ (∀ (ts : List T) (ns R : List Int), T.sz.szL ts ≤ N → (∀ t, t ∈ ts → okP ar t) → (giveT.giveL ts ns).1 = ts.map (sub (ren ((giveT.giveL ts ns).2 ++ R)))) := by
  intro N
  induction N with
  | zero =>
    refine ⟨fun t ns R h => by have := t.sz_pos; omega, fun ts ns R h _ => ?_⟩
    cases ts with
    | nil => rfl
    | cons t ts => have := t.sz_pos; rw [T.szL_cons] at h; omega
  | succ N ih =>
    have h1 : ∀ (t : T) (ns R : List Int), t.sz ≤ N + 1 → okP ar t → (giveT t ns).1 = sub (ren ((giveT t ns).2 ++ R)) t := fun t ns R h ht => by
      have he := T.sz_eq t
      rw [giveT_eq]
      simp only
      by_cases hv : t.v = 0
      · rw [sub_fn hv, numV, if_pos hv, ih.2 t.args (numL t.v ns) R (by omega) (fun a ha => okArg ht ha)]
      · rw [sub_var hv, (ok_var ht hv).2]
        show (⟨numV t.v ns, t.f, []⟩ : T) = ren (numL t.v ns ++ R) t.v
        have hm : t.v ∈ numL t.v ns := by
          rw [numL]; split
          · rename_i h9; exact h9.resolve_left hv
          · simp
        rw [ren, idx_pre hm, numV, if_neg hv, (ok_var ht hv).1]
    refine ⟨h1, fun ts => ?_⟩
    induction ts with
    | nil => intro ns R _ _; rfl
    | cons t ts iht =>
      intro ns R h hok
      rw [T.szL_cons] at h
      obtain ⟨R2, e2⟩ := (give_pre (T.sz.szL ts)).2 ts (giveT t ns).2 (Nat.le_refl _)
      show (giveT t ns).1 :: (giveT.giveL ts (giveT t ns).2).1 = (t :: ts).map (sub (ren ((giveT.giveL ts (giveT t ns).2).2 ++ R)))
      rw [List.map_cons, iht (giveT t ns).2 R (by omega) (fun a ha => hok a (List.mem_cons_of_mem _ ha)), h1 t ns (R2 ++ R) (by omega) (hok t List.mem_cons_self), e2, List.append_assoc]
theorem giveC_pre : ∀ (c : List Lit) (ns : List Int), ∃ R, (giveC c ns).2 = ns ++ R := by
  intro c
  induction c with
  | nil => intro ns; exact ⟨[], by simp [giveC]⟩
  | cons x c ih =>
    intro ns
    obtain ⟨R1, e1⟩ := (give_pre x.2.1.sz).1 x.2.1 ns (Nat.le_refl _)
    obtain ⟨R2, e2⟩ := (give_pre x.2.2.sz).1 x.2.2 (giveT x.2.1 ns).2 (Nat.le_refl _)
    obtain ⟨R3, e3⟩ := ih (giveT x.2.2 (giveT x.2.1 ns).2).2
    rw [giveC]
    exact ⟨R1 ++ (R2 ++ R3), by simp only; rw [e3, e2, e1]; simp⟩
theorem giveC_ren {ar : List Int} : ∀ (c : List Lit) (ns R : List Int), LitsOk ar c → (giveC c ns).1 = mapC (sub (ren ((giveC c ns).2 ++ R))) c := by
  intro c
  induction c with
  | nil => intro ns R _; rfl
  | cons x c ih =>
    intro ns R h
    have hx := h x List.mem_cons_self
    obtain ⟨R2, e2⟩ := (give_pre x.2.2.sz).1 x.2.2 (giveT x.2.1 ns).2 (Nat.le_refl _)
    obtain ⟨R3, e3⟩ := giveC_pre c (giveT x.2.2 (giveT x.2.1 ns).2).2
    have a1 := (give_ren (ar := ar) x.2.1.sz).1 x.2.1 ns (R2 ++ R3 ++ R) (Nat.le_refl _) hx.1.2
    have a2 := (give_ren (ar := ar) x.2.2.sz).1 x.2.2 (giveT x.2.1 ns).2 (R3 ++ R) (Nat.le_refl _) hx.2.2
    have a3 := ih (giveT x.2.2 (giveT x.2.1 ns).2).2 R (fun y hy => h y (List.mem_cons_of_mem _ hy))
    show (x.1, (giveT x.2.1 ns).1, (giveT x.2.2 (giveT x.2.1 ns).2).1) :: (giveC c (giveT x.2.2 (giveT x.2.1 ns).2).2).1 = (x.1, sub (ren ((giveC c (giveT x.2.2 (giveT x.2.1 ns).2).2).2 ++ R)) x.2.1, sub (ren ((giveC c (giveT x.2.2 (giveT x.2.1 ns).2).2).2 ++ R)) x.2.2) :: mapC (sub (ren ((giveC c (giveT x.2.2 (giveT x.2.1 ns).2).2).2 ++ R))) c
    rw [a3, a1, a2, e3, e2]
    simp only [List.append_assoc]
end Go.Proofs.YtbkedppkdhfpoabGreat

namespace Go.Proofs.YtbkedppkdhfpoabGreat
open Go.RowKit

/-- A literal is also there as no. -/
def deniedS (c : List Lit) (l : Lit) : Bool := c.any (fun k => !k.1 && sameS k l)
/-- What Always answers of right clauses. -/
def alwaysB (c : List Lit) : Bool := c.any (fun l => l.1 && (sameT l.2.1 l.2.2 || deniedS c l))
def alwaysS (ar : List Int) (c : List Lit) : Bool × Int := if clausesErr ar [c] = 0 then (alwaysB c, 0) else (false, clausesErr ar [c])
theorem eg108 (args : Array Value) (w : World) : (callFunc 108 args).run Tryz.prog w = .ok (.enter 108 args) w := by kernel_rfl
theorem eg45 (args : Array Value) (w : World) : (callFunc 45 args).run Tryz.prog w = .ok (.enter 45 args) w := by kernel_rfl
attribute [local go_sem ↓] Go.wp_at_zero Go.wp_at_succ
set_option maxRecDepth 100000 in
set_option maxHeartbeats 1000000 in
theorem deniedC_any (k l : Lit) (a1 : Option Addr) (c1 : Nat) (a2 : Option Addr) (c2 : Nat) (b1 : Option Addr) (d1 : Nat) (b2 : Option Addr) (d2 bl : Nat) (w : World) (hk : LitSz k) (i1 : InL w k.2.1.args a1) (i2 : InL w k.2.2.args a2) (hl7 : L7 w bl 0 l b1 d1 b2 d2) (j1 : InL w l.2.1.args b1) (j2 : InL w l.2.2.args b2) :
    Calls Tryz.prog 108 #[litV k a1 c1 a2 c2, .pointer (some ⟨bl, 0, none⟩)] w fun e w' => e = .returned (.bool (!k.1 && sameS k l)) ∧ Below w.heap.size w w' := by
  obtain ⟨W1, hW1⟩ : ∃ W1, W1 = w.alloc (.cells #[.bool k.1, .int .i64 k.2.1.v, .int .i64 k.2.1.f, .slice a1 k.2.1.args.length c1, .int .i64 k.2.2.v, .int .i64 k.2.2.f, .slice a2 k.2.2.args.length c2] 79) := ⟨_, rfl⟩
  have hbW : Below w.heap.size w W1 := by rw [hW1]; exact below1 _ _
  have hk7 : L7 W1 w.heap.size 0 k a1 c1 a2 c2 := by rw [hW1]; exact L7.new _ rfl
  obtain ⟨p0, p1, p2, p3, p4, p5, p6⟩ := hk7
  obtain ⟨q0, q1, q2, q3, q4, q5, q6⟩ := hl7.below hbW
  simp only [Nat.zero_add] at p1 p2 p3 p4 p5 p6 q1 q2 q3 q4 q5 q6
  have HS := hide (sameSides_any (false, k.2.1, k.2.2) l a1 c1 a2 c2 b1 d1 b2 d2 W1 hk (InP_below hbW i1) (InP_below hbW i2) (InP_below hbW j1) (InP_below hbW j2))
  have HW1 := hide hW1
  have HbW := hide hbW
  rw [show sameS (false, k.2.1, k.2.2) l = sameS k l from rfl] at HS
  obtain ⟨S, hS⟩ : ∃ S, S = sameS k l := ⟨_, rfl⟩
  rw [← hS] at HS ⊢
  clear hW1 hbW hS i1 i2 j1 j2 hl7
  go_enter Tryz.func108, Tryz.ntmps108
  go_upto_region 1 with fail
  rw [← HW1.out]
  cases hyes : k.1 with
  | true =>
    rw [hyes] at p0
    have Hy := hide hyes
    clear hyes
    go_wp2_with fail
    go_ret
    exact ⟨ret_bool (by rw [Hy.out]; rfl), HbW.out⟩
  | false =>
    rw [hyes] at p0
    have Hy := hide hyes
    clear hyes
    go_wp2_with fail
    refine HS.out.mono ?_
    rintro e w1 ⟨rfl, hb1⟩
    have Hf := hide (HbW.out.trans (hb1.mono HbW.out.size))
    clear hb1 HS
    go_wp2_with fail
    go_ret
    exact ⟨ret_bool (by rw [Hy.out]; rfl), Hf.out⟩
set_option maxRecDepth 100000 in
set_option maxHeartbeats 1000000 in
theorem denied_any (c : List Lit) (ca : Option Addr) (cc : Nat) (l : Lit) (b1 : Option Addr) (d1 : Nat) (b2 : Option Addr) (d2 : Nat) (w : World) (hcl : c.length ≤ 1000) (hsz : ∀ x, x ∈ c → LitSz x) (hc : LitsP w c ca) (j1 : InL w l.2.1.args b1) (j2 : InL w l.2.2.args b2) :
    Calls Tryz.prog 47 #[.slice ca c.length cc, litV l b1 d1 b2 d2] w fun e w' => e = .returned (.bool (deniedS c l)) ∧ Below w.heap.size w w' := by
  obtain ⟨W1, hW1⟩ : ∃ W1, W1 = w.alloc (.cells #[.bool l.1, .int .i64 l.2.1.v, .int .i64 l.2.1.f, .slice b1 l.2.1.args.length d1, .int .i64 l.2.2.v, .int .i64 l.2.2.f, .slice b2 l.2.2.args.length d2] 79) := ⟨_, rfl⟩
  have hbW : Below w.heap.size w W1 := by rw [hW1]; exact below1 _ _
  have hl7 : L7 W1 w.heap.size 0 l b1 d1 b2 d2 := by rw [hW1]; exact L7.new _ rfl
  have HC := hide (containsF_any (F := 108) (P := .pointer (some ⟨w.heap.size, 0, none⟩)) (p := fun k => !k.1 && sameS k l) c ca cc W1 (by omega) eg108 (fun w' x a1 c1 a2 c2 hb' hx i1 i2 => deniedC_any x l a1 c1 a2 c2 b1 d1 b2 d2 w.heap.size w' (hsz x hx) i1 i2 (hl7.below hb') (InP_below hb' (InP_below hbW j1)) (InP_below hb' (InP_below hbW j2))) (LitsP_below hbW hc))
  have hmf : ∀ (fn : Fn) (first cap : Array Value) (w : World), (Instr.makeFunc fn first cap).run Tryz.prog w = .ok (.func fn first cap) w := fun _ _ _ _ => rfl
  have HW1 := hide hW1
  have HbW := hide hbW
  clear hW1 hbW hl7 hc j1 j2 hsz
  go_enter Tryz.func47, Tryz.ntmps47
  go_upto_region 1 with fail
  rw [← HW1.out]
  go_wp2_with fail
  refine HC.out.mono ?_
  rintro e w1 ⟨rfl, hb1⟩
  have Hf := hide (HbW.out.trans (hb1.mono HbW.out.size))
  clear hb1 HC
  go_wp2_with fail
  go_ret
  exact ⟨rfl, Hf.out⟩
set_option maxRecDepth 100000 in
set_option maxHeartbeats 1000000 in
theorem alwaysC_any (c : List Lit) (ca : Option Addr) (cc : Nat) (l : Lit) (a1 : Option Addr) (c1 : Nat) (a2 : Option Addr) (c2 : Nat) (cb : Nat) (w : World) (hcl : c.length ≤ 1000) (hsz : ∀ x, x ∈ c → LitSz x) (hl : LitSz l) (hc : LitsP w c ca) (hcb : w.cell? ⟨cb, 0, none⟩ = some (.slice ca c.length cc)) (i1 : InL w l.2.1.args a1) (i2 : InL w l.2.2.args a2) :
    Calls Tryz.prog 45 #[litV l a1 c1 a2 c2, .pointer (some ⟨cb, 0, none⟩)] w fun e w' => e = .returned (.bool (l.1 && (sameT l.2.1 l.2.2 || deniedS c l))) ∧ Below w.heap.size w w' := by
  obtain ⟨W1, hW1⟩ : ∃ W1, W1 = w.alloc (.cells #[.bool l.1, .int .i64 l.2.1.v, .int .i64 l.2.1.f, .slice a1 l.2.1.args.length c1, .int .i64 l.2.2.v, .int .i64 l.2.2.f, .slice a2 l.2.2.args.length c2] 79) := ⟨_, rfl⟩
  have hbW : Below w.heap.size w W1 := by rw [hW1]; exact below1 _ _
  have hl7 : L7 W1 w.heap.size 0 l a1 c1 a2 c2 := by rw [hW1]; exact L7.new _ rfl
  have HL7 := hide hl7
  obtain ⟨p0, p1, p2, p3, p4, p5, p6⟩ := hl7
  simp only [Nat.zero_add] at p1 p2 p3 p4 p5 p6
  have HS := hide (treeSame_any _ l.2.1 l.2.2 a1 c1 a2 c2 W1 (Nat.le_refl _) hl.1 (InP_below hbW i1) (InP_below hbW i2))
  have HD := hide (fun (w' : World) (hb : Below W1.heap.size W1 w') => denied_any c ca cc (true, l.2.1, l.2.2) a1 c1 a2 c2 w' hcl hsz (LitsP_below hb (LitsP_below hbW hc)) (InP_below hb (InP_below hbW i1)) (InP_below hb (InP_below hbW i2)))
  have Hcb := hide (cell_below hbW hcb)
  have HW1 := hide hW1
  have HbW := hide hbW
  rw [show deniedS c (true, l.2.1, l.2.2) = deniedS c l from rfl] at HD
  obtain ⟨S, hS⟩ : ∃ S, S = sameT l.2.1 l.2.2 := ⟨_, rfl⟩
  obtain ⟨D, hD⟩ : ∃ D, D = deniedS c l := ⟨_, rfl⟩
  rw [← hS] at HS ⊢
  rw [← hD] at HD ⊢
  clear hW1 hbW hS hD i1 i2 hc hcb hsz
  go_enter Tryz.func45, Tryz.ntmps45
  go_upto_region 1 with fail
  rw [← HW1.out]
  cases hyes : l.1 with
  | false =>
    rw [hyes] at p0
    have Hy := hide hyes
    clear hyes
    go_wp2_with fail
    go_ret
    exact ⟨ret_bool (by rw [Hy.out]; rfl), HbW.out⟩
  | true =>
    rw [hyes] at p0
    have Hy := hide hyes
    clear hyes
    go_wp2_with fail
    refine HS.out.mono ?_
    rintro e w1 ⟨rfl, hb1⟩
    have Hb1 := hide hb1
    have Hf := hide (HbW.out.trans (hb1.mono HbW.out.size))
    clear hb1 HS p0 p1 p2 p3 p4 p5 p6
    cases S with
    | true =>
      go_wp2_with fail
      go_ret
      exact ⟨ret_bool (by rw [Hy.out]; rfl), Hf.out⟩
    | false =>
      have HD1 := hide (HD.out w1 Hb1.out)
      obtain ⟨p0, p1, p2, p3, p4, p5, p6⟩ := HL7.out.below Hb1.out
      simp only [Nat.zero_add] at p1 p2 p3 p4 p5 p6
      have q0 := cell_below Hb1.out Hcb.out
      rw [Hy.out] at p0
      clear HD
      go_wp2_with fail
      refine HD1.out.mono ?_
      rintro e w2 ⟨rfl, hb2⟩
      have Hf2 := hide (Hf.out.trans (hb2.mono Hf.out.size))
      clear hb2 HD1
      go_wp2_with fail
      go_ret
      exact ⟨ret_bool (by rw [Hy.out]; rfl), Hf2.out⟩
/-- A yes and an error handed back. -/
def GivesY (x : Bool × Int) (e : Ending) : Prop := e = .returned (.tuple #[.bool x.1, .int .i64 x.2])
set_option maxRecDepth 100000 in
set_option maxHeartbeats 1000000 in
theorem Always_any (ar : List Int) (ga : Option Addr) (gcap : Nat) (c : List Lit) (ca : Option Addr) (cc : Nat) (w : World) (hg : Ints w ar ga) (hcl : c.length ≤ 9223372036854775807) (hc : LitsP w c ca) :
    Calls Tryz.prog 13 #[.agg #[.slice ga ar.length gcap], .slice ca c.length cc] w fun e w' => GivesY (alwaysS ar c) e ∧ Below w.heap.size w w' := by
  obtain ⟨W1, hW1⟩ : ∃ W1, W1 = ((w.alloc (.cells #[.slice ga ar.length gcap] 24)).alloc (.cells #[.slice ca c.length cc] 26)) := ⟨_, rfl⟩
  have hbW : Below w.heap.size w W1 := by rw [hW1]; exact below2 _ _ _
  have hcg : W1.cell? ⟨w.heap.size, 0, none⟩ = some (.slice ga ar.length gcap) := by rw [hW1, cell_alloc_lt (by simp)]; exact cell_new 0 rfl
  have hcc : W1.cell? ⟨w.heap.size + 1, 0, none⟩ = some (.slice ca c.length cc) := by rw [hW1]; exact cell_new 0 (by simp)
  have HV := hide (fun (o : Obj) (ho : ClausesP (W1.alloc o) [c] (some ⟨W1.heap.size, 0, none⟩)) => checkV_any ar ga gcap [c] (some ⟨W1.heap.size, 0, none⟩) 1 (W1.alloc o) (Ints_alloc o (Ints_below hbW hg)) (by simp) (fun d hd => by rw [List.mem_singleton.1 hd]; exact hcl) ho)
  have HN : Hid (ClausesP (W1.alloc (.cells #[.slice ca c.length cc] 26)) [c] (some ⟨W1.heap.size, 0, none⟩)) := ⟨W1.heap.size, 0, ca, cc, rfl, cell_new 0 rfl, LitsP_below (below1 _ _) (LitsP_below hbW hc), trivial⟩
  have HV1 := hide (HV.out _ HN.out)
  have HA := hide (fun (he : clausesErr ar [c] = 0) (w' : World) (hb : Below W1.heap.size W1 w') => containsF_any (F := 45) (P := .pointer (some ⟨w.heap.size + 1, 0, none⟩)) (p := fun l => l.1 && (sameT l.2.1 l.2.2 || deniedS c l)) c ca cc w' (by have := (clauses_ok he).2.1; omega) eg45 (fun w'' x a1 c1 a2 c2 hb' hx i1 i2 => alwaysC_any c ca cc x a1 c1 a2 c2 (w.heap.size + 1) w'' (by have := (clauses_ok he).2.1; omega) (lits_sz (clauses_ok he).2.2) (lits_sz (clauses_ok he).2.2 x hx) (LitsP_below hb' (LitsP_below hb (LitsP_below hbW hc))) (cell_below hb' (cell_below hb hcc)) i1 i2) (LitsP_below hb (LitsP_below hbW hc)))
  have Hal := hide (show alwaysS ar c = if clausesErr ar [c] = 0 then (alwaysB c, 0) else (false, clausesErr ar [c]) from rfl)
  have Hbb := hide (show c.any (fun l => l.1 && (sameT l.2.1 l.2.2 || deniedS c l)) = alwaysB c from rfl)
  rw [Hbb.out] at HA
  obtain ⟨Z, hZ⟩ : ∃ Z, Z = alwaysS ar c := ⟨_, rfl⟩
  obtain ⟨E, hE⟩ : ∃ E, E = clausesErr ar [c] := ⟨_, rfl⟩
  rw [← hZ] at Hal ⊢
  rw [← hE] at HV1 HA Hal
  have hmf : ∀ (fn : Fn) (first cap : Array Value) (w : World), (Instr.makeFunc fn first cap).run Tryz.prog w = .ok (.func fn first cap) w := fun _ _ _ _ => rfl
  have HW1 := hide hW1
  have HbW := hide hbW
  have Hcc := hide hcc
  clear hZ hE hW1 hbW hg hc HV HN
  go_enter Tryz.func13, Tryz.ntmps13
  go_upto_region 1 with fail
  rw [← HW1.out]
  go_wp2_with fail
  refine HV1.out.mono ?_
  rintro e w1 ⟨rfl, hb1⟩
  have Hb1 := hide ((below1 W1 _).trans (hb1.mono (by simp)))
  have Hf := hide (HbW.out.trans (Hb1.out.mono HbW.out.size))
  clear hb1 HV1 hcg hcc
  by_cases hE0 : E = 0
  · have ee : (E != 0) = false := by simpa using hE0
    have hz : Z = (alwaysB c, 0) := by rw [Hal.out, if_pos hE0]
    have HA1 := hide (HA.out hE0 w1 Hb1.out)
    have q0 := cell_below Hb1.out Hcc.out
    subst hz
    clear HA Hal hE0
    go_wp2_with fail
    refine HA1.out.mono ?_
    rintro e w2 ⟨rfl, hb2⟩
    have Hf2 := hide (Hf.out.trans (hb2.mono Hf.out.size))
    clear hb2 HA1
    go_wp2_with fail
    go_ret2
    exact ⟨rfl, Hf2.out⟩
  · have ee : (E != 0) = true := by simpa using hE0
    have hz : Z = (false, E) := by rw [Hal.out, if_neg hE0]
    subst hz
    clear HA Hal hE0
    go_wp2_with fail
    go_ret2
    exact ⟨rfl, Hf.out⟩
end Go.Proofs.YtbkedppkdhfpoabGreat

namespace Go.Proofs.YtbkedppkdhfpoabGreat
open Go.RowKit Go.Maps

theorem partsL_mem {p a : T} : ∀ {xs : List T}, a ∈ xs → p ∈ parts a → p ∈ parts.partsL xs := by
  intro xs
  induction xs with
  | nil => intro h; cases h
  | cons x xs ih =>
    intro h hp
    rw [partsL_cons, List.mem_append]
    rcases List.mem_cons.1 h with rfl | h
    · exact Or.inl hp
    · exact Or.inr (ih h hp)
theorem occ_parts {v : Int} : ∀ (n : Nat) (t : T), t.sz ≤ n → occ v t → ∃ x, x ∈ parts t ∧ x.v = v := by
  intro n
  induction n with
  | zero => intro t h; have := t.sz_pos; omega
  | succ n ih =>
    intro t ht ho
    rcases occ_iff.1 ho with h | h
    · exact ⟨t, by rw [parts_eq]; simp, h⟩
    · obtain ⟨i, a, ha, hoa⟩ := occL_mem h
      have hm := List.mem_of_getElem? ha
      have := arg_sz hm
      obtain ⟨x, hx, hv⟩ := ih a (by omega) hoa
      exact ⟨x, by rw [parts_eq, List.mem_append]; exact Or.inl (partsL_mem hm hx), hv⟩
theorem occ_lit {v : Int} {l : Lit} (h0 : v ≠ 0) (h : occ v l.2.1 ∨ occ v l.2.2) : v ∈ litVars l := by
  rw [litVars_mem]
  rcases h with h | h
  · obtain ⟨x, hx, hv⟩ := occ_parts _ _ (Nat.le_refl _) h
    exact Or.inl (varsT_mem.2 ⟨x, hx, by rw [hv]; exact h0, hv⟩)
  · obtain ⟨x, hx, hv⟩ := occ_parts _ _ (Nat.le_refl _) h
    exact Or.inr (varsT_mem.2 ⟨x, hx, by rw [hv]; exact h0, hv⟩)
theorem stand_cons (x : Lit) (c : List Lit) (v : Int) : stand (x :: c) v = (if v ∈ litVars x then 1 else 0) + stand c v := by
  rw [stand, stand, List.filter_cons]
  by_cases h : v ∈ litVars x
  · simp [h]; omega
  · simp [h]
theorem stand_pos {v : Int} : ∀ {c : List Lit} {j : Nat} {m : Lit}, c[j]? = some m → v ∈ litVars m → 1 ≤ stand c v := by
  intro c
  induction c with
  | nil => intro j m h; simp at h
  | cons x c ih =>
    intro j m h hm
    rw [stand_cons]
    cases j with
    | zero => rw [List.getElem?_cons_zero] at h; obtain rfl := Option.some.inj h; rw [if_pos hm]; omega
    | succ j => rw [List.getElem?_cons_succ] at h; have := ih h hm; omega
theorem stand_one {v : Int} : ∀ {c : List Lit} {i j : Nat} {l m : Lit}, stand c v = 1 → c[i]? = some l → c[j]? = some m → v ∈ litVars l → v ∈ litVars m → i = j := by
  intro c
  induction c with
  | nil => intro i j l m _ h; simp at h
  | cons x c ih =>
    intro i j l m hs hi hj hl hm
    rw [stand_cons] at hs
    cases i with
    | zero =>
      cases j with
      | zero => rfl
      | succ j =>
        rw [List.getElem?_cons_zero] at hi; obtain rfl := Option.some.inj hi
        rw [List.getElem?_cons_succ] at hj
        rw [if_pos hl] at hs
        have := stand_pos hj hm
        omega
    | succ i =>
      cases j with
      | zero =>
        rw [List.getElem?_cons_zero] at hj; obtain rfl := Option.some.inj hj
        rw [List.getElem?_cons_succ] at hi
        rw [if_pos hm] at hs
        have := stand_pos hi hl
        omega
      | succ j =>
        rw [List.getElem?_cons_succ] at hi hj
        by_cases hx : v ∈ litVars x
        · rw [if_pos hx] at hs; have := stand_pos hi hl; omega
        · rw [if_neg hx, Nat.zero_add] at hs
          rw [ih hs hi hj hl hm]
/-- With these put in, each literal of one is one of the other's. -/
def Covers (θ : Int → T) (c d : List Lit) : Prop := ∀ l, l ∈ c → ∃ k, k ∈ d ∧ k.1 = l.1 ∧ ((sub θ l.2.1 = k.2.1 ∧ sub θ l.2.2 = k.2.2) ∨ (sub θ l.2.1 = k.2.2 ∧ sub θ l.2.2 = k.2.1))
theorem matchW_ok {ar : List Int} {l : Lit} {a b : T} {v : Int} {u : T} (h : matchW ar l a b v = some u) : okP ar u := by
  have hw : matchW ar l a b v = match lookB (matchSpec ar l.2.2 b).1 v with
    | some u => some u
    | none => lookB (matchSpec ar l.2.1 a).1 v := rfl
  rw [hw] at h
  cases hb : lookB (matchSpec ar l.2.2 b).1 v with
  | some x => rw [hb] at h; obtain rfl := Option.some.inj h; exact (match_ok.2 (v, x) (lookB_mem hb)).2.2
  | none => rw [hb] at h; exact (match_ok.2 (v, u) (lookB_mem h)).2.2
theorem okP_one {ar : List Int} : okP ar ⟨1, 0, []⟩ := by rw [okP_iff]; exact ⟨by simp [partErr], trivial⟩
theorem fit_theta {ar : List Int} {c d : List Lit} {Ls : List (List Way)} (hl : Ls.length = c.length) (hW : WaysL ar c d Ls) (hF : Fit Ls) : ∃ θ : Int → T, (∀ v, okP ar (θ v)) ∧ Covers θ c d := by
  obtain ⟨cf, h1, h2⟩ := hF
  have hex : ∀ i : Nat, ∃ g : Way, ∀ l, c[i]? = some l → cf i = lessW (stand c) g ∧ ∃ k, k ∈ d ∧ k.1 = l.1 ∧ ((MatchP ar l k.2.1 k.2.2 ∧ g = matchW ar l k.2.1 k.2.2) ∨ (MatchP ar l k.2.2 k.2.1 ∧ g = matchW ar l k.2.2 k.2.1)) := fun i => by
    cases hc : c[i]? with
    | none => exact ⟨fun _ => none, fun l h => by cases h⟩
    | some l =>
      have hi : i < Ls.length := by rw [hl]; exact (List.getElem?_eq_some_iff.1 hc).1
      obtain ⟨gs, hg1, hg2⟩ := hW i l _ hc (List.getElem?_eq_getElem hi)
      obtain ⟨g, hg, e⟩ := hg2.1 _ (h1 i _ (List.getElem?_eq_getElem hi))
      exact ⟨g, fun l' h' => by obtain rfl := Option.some.inj h'; exact ⟨e, ways_mem hg1 hg⟩⟩
  obtain ⟨G, hG⟩ := Classical.axiomOfChoice hex
  have hdom : ∀ (i : Nat) (l : Lit) (v : Int) (u : T), c[i]? = some l → G i v = some u → v ∈ litVars l := fun i l v u hc hu => by
    obtain ⟨_, k, _, _, hk | hk⟩ := hG i l hc
    · rw [hk.2] at hu
      have := (way_full hk.1).1 v u hu
      exact occ_lit this.1 this.2
    · rw [hk.2] at hu
      have := (way_full hk.1).1 v u hu
      exact occ_lit this.1 this.2
  have hone : ∀ (i j : Nat) (l m : Lit) (v : Int) (u u' : T), c[i]? = some l → c[j]? = some m → G i v = some u → G j v = some u' → u = u' := fun i j l m v u u' hi hj hu hu' => by
    by_cases hs : stand c v = 1
    · have := stand_one hs hi hj (hdom i l v u hi hu) (hdom j m v u' hj hu')
      subst this
      rw [hu] at hu'
      exact Option.some.inj hu'
    · have e1 := (hG i l hi).1
      have e2 := (hG j m hj).1
      refine h2 i j (by rw [hl]; exact (List.getElem?_eq_some_iff.1 hi).1) (by rw [hl]; exact (List.getElem?_eq_some_iff.1 hj).1) v u u' ?_ ?_
      · rw [e1, lessW, if_neg hs]; exact hu
      · rw [e2, lessW, if_neg hs]; exact hu'
  have hth : ∀ v : Int, ∃ t : T, okP ar t ∧ ∀ (i : Nat) (l : Lit) (u : T), c[i]? = some l → G i v = some u → t = u := fun v => by
    by_cases h : ∃ (i : Nat) (l : Lit) (u : T), c[i]? = some l ∧ G i v = some u
    · obtain ⟨i, l, u, hi, hu⟩ := h
      refine ⟨u, ?_, fun j m u' hj hu' => hone i j l m v u u' hi hj hu hu'⟩
      obtain ⟨_, k, _, _, hk | hk⟩ := hG i l hi
      · rw [hk.2] at hu; exact matchW_ok hu
      · rw [hk.2] at hu; exact matchW_ok hu
    · exact ⟨⟨1, 0, []⟩, okP_one, fun i l u hi hu => absurd ⟨i, l, u, hi, hu⟩ h⟩
  obtain ⟨θ, hθ⟩ := Classical.axiomOfChoice hth
  refine ⟨θ, fun v => (hθ v).1, fun l hm => ?_⟩
  obtain ⟨i, hi⟩ := List.getElem?_of_mem hm
  obtain ⟨_, k, hk, hs, hk'⟩ := hG i l hi
  refine ⟨k, hk, hs, ?_⟩
  rcases hk' with hk' | hk'
  · exact Or.inl ((way_full hk'.1).2 θ (fun v u hu => (hθ v).2 i l u hi (by rw [hk'.2]; exact hu)))
  · exact Or.inr ((way_full hk'.1).2 θ (fun v u hu => (hθ v).2 i l u hi (by rw [hk'.2]; exact hu)))
end Go.Proofs.YtbkedppkdhfpoabGreat

namespace Go.Proofs.YtbkedppkdhfpoabGreat
open Go.RowKit Go.Maps

/-- All variables are numbered. -/
theorem give_has : ∀ (N : Nat), (∀ (t : T) (ns : List Int), t.sz ≤ N → ∀ x, x ∈ parts t → x.v ≠ 0 → x.v ∈ (giveT t ns).2) ∧ (∀ (ts : List T) (ns : List Int), T.sz.szL ts ≤ N → ∀ x, x ∈ parts.partsL ts → x.v ≠ 0 → x.v ∈ (giveT.giveL ts ns).2) := by
  intro N
  induction N with
  | zero =>
    refine ⟨fun t ns h => by have := t.sz_pos; omega, fun ts ns h x hx => ?_⟩
    cases ts with
    | nil => cases hx
    | cons t ts => have := t.sz_pos; rw [T.szL_cons] at h; omega
  | succ N ih =>
    have h1 : ∀ (t : T) (ns : List Int), t.sz ≤ N + 1 → ∀ x, x ∈ parts t → x.v ≠ 0 → x.v ∈ (giveT t ns).2 := fun t ns h x hx hv => by
      have he := T.sz_eq t
      rw [giveT_eq]
      show x.v ∈ (giveT.giveL t.args (numL t.v ns)).2
      rw [parts_eq, List.mem_append, List.mem_singleton] at hx
      rcases hx with hx | rfl
      · exact ih.2 t.args (numL t.v ns) (by omega) x hx hv
      · obtain ⟨R2, e2⟩ := (give_pre (T.sz.szL x.args)).2 x.args (numL x.v ns) (Nat.le_refl _)
        rw [e2]
        refine List.mem_append_left _ ?_
        rw [numL]; split
        · rename_i h9; exact h9.resolve_left hv
        · simp
    refine ⟨h1, fun ts => ?_⟩
    induction ts with
    | nil => intro ns _ x hx; cases hx
    | cons t ts iht =>
      intro ns h x hx hv
      rw [T.szL_cons] at h
      rw [partsL_cons, List.mem_append] at hx
      show x.v ∈ (giveT.giveL ts (giveT t ns).2).2
      rcases hx with hx | hx
      · obtain ⟨R2, e2⟩ := (give_pre (T.sz.szL ts)).2 ts (giveT t ns).2 (Nat.le_refl _)
        rw [e2]
        exact List.mem_append_left _ (h1 t ns (by omega) x hx hv)
      · exact iht (giveT t ns).2 (by omega) x hx hv
theorem giveC_has : ∀ (c : List Lit) (ns : List Int) (x : Lit), x ∈ c → ∀ y, y ∈ parts x.2.1 ∨ y ∈ parts x.2.2 → y.v ≠ 0 → y.v ∈ (giveC c ns).2 := by
  intro c
  induction c with
  | nil => intro ns x hx; cases hx
  | cons z c ih =>
    intro ns x hx y hy hv
    show y.v ∈ (giveC c (giveT z.2.2 (giveT z.2.1 ns).2).2).2
    rcases List.mem_cons.1 hx with rfl | hx
    · obtain ⟨R3, e3⟩ := giveC_pre c (giveT x.2.2 (giveT x.2.1 ns).2).2
      rw [e3]
      refine List.mem_append_left _ ?_
      rcases hy with hy | hy
      · obtain ⟨R2, e2⟩ := (give_pre x.2.2.sz).1 x.2.2 (giveT x.2.1 ns).2 (Nat.le_refl _)
        rw [e2]
        exact List.mem_append_left _ ((give_has x.2.1.sz).1 x.2.1 ns (Nat.le_refl _) y hy hv)
      · exact (give_has x.2.2.sz).1 x.2.2 _ (Nat.le_refl _) y hy hv
    · exact ih _ x hx y hy hv
end Go.Proofs.YtbkedppkdhfpoabGreat

namespace Go.Proofs.YtbkedppkdhfpoabGreat
open Go.RowKit Go.Maps

theorem nodup_le {α : Type} [DecidableEq α] : ∀ {A B : List α}, A.Nodup → (∀ x, x ∈ A → x ∈ B) → A.length ≤ B.length := by
  intro A
  induction A with
  | nil => intro B _ _; simp
  | cons a A ih =>
    intro B hn hs
    rw [List.nodup_cons] at hn
    have h1 := ih (B := B.erase a) hn.2 (fun x hx => (List.mem_erase_of_ne (fun e => hn.1 (by rw [← e]; exact hx))).2 (hs x (List.mem_cons_of_mem _ hx)))
    have h2 := List.length_erase_of_mem (hs a List.mem_cons_self)
    have h3 : 0 < B.length := List.length_pos_of_mem (hs a List.mem_cons_self)
    rw [List.length_cons]
    omega
/-- Numbered are variables of the term, each once. -/
theorem numL_ok {v : Int} {ns : List Int} (h : ns.Nodup) : (numL v ns).Nodup ∧ ∀ z, z ∈ numL v ns → z ∈ ns ∨ (z = v ∧ v ≠ 0) := by
  rw [numL]; split
  · exact ⟨h, fun z hz => Or.inl hz⟩
  · rename_i h9
    rw [not_or] at h9
    refine ⟨List.nodup_append.2 ⟨h, List.pairwise_singleton _ _, fun a ha b hb e => h9.2 (by rw [List.mem_singleton] at hb; rw [← hb, ← e]; exact ha)⟩, fun z hz => ?_⟩
    rcases List.mem_append.1 hz with hz | hz
    · exact Or.inl hz
    · exact Or.inr ⟨List.mem_singleton.1 hz, h9.1⟩
theorem give_only : ∀ (N : Nat), (∀ (t : T) (ns : List Int), t.sz ≤ N → ns.Nodup → (giveT t ns).2.Nodup ∧ ∀ z, z ∈ (giveT t ns).2 → z ∈ ns ∨ ∃ x, x ∈ parts t ∧ x.v ≠ 0 ∧ x.v = z) ∧ (∀ (ts : List T) (ns : List Int), T.sz.szL ts ≤ N → ns.Nodup → (giveT.giveL ts ns).2.Nodup ∧ ∀ z, z ∈ (giveT.giveL ts ns).2 → z ∈ ns ∨ ∃ x, x ∈ parts.partsL ts ∧ x.v ≠ 0 ∧ x.v = z) := by
  intro N
  induction N with
  | zero =>
    refine ⟨fun t ns h => by have := t.sz_pos; omega, fun ts ns h hn => ?_⟩
    cases ts with
    | nil => exact ⟨hn, fun z hz => Or.inl hz⟩
    | cons t ts => have := t.sz_pos; rw [T.szL_cons] at h; omega
  | succ N ih =>
    have h1 : ∀ (t : T) (ns : List Int), t.sz ≤ N + 1 → ns.Nodup → (giveT t ns).2.Nodup ∧ ∀ z, z ∈ (giveT t ns).2 → z ∈ ns ∨ ∃ x, x ∈ parts t ∧ x.v ≠ 0 ∧ x.v = z := fun t ns h hn => by
      have he := T.sz_eq t
      rw [giveT_eq]
      show (giveT.giveL t.args (numL t.v ns)).2.Nodup ∧ ∀ z, z ∈ (giveT.giveL t.args (numL t.v ns)).2 → _
      obtain ⟨a1, a2⟩ := numL_ok (v := t.v) hn
      obtain ⟨b1, b2⟩ := ih.2 t.args (numL t.v ns) (by omega) a1
      refine ⟨b1, fun z hz => ?_⟩
      rcases b2 z hz with h2 | ⟨x, hx, h3⟩
      · rcases a2 z h2 with h3 | ⟨rfl, h3⟩
        · exact Or.inl h3
        · exact Or.inr ⟨t, by rw [parts_eq]; simp, h3, rfl⟩
      · exact Or.inr ⟨x, by rw [parts_eq]; exact List.mem_append_left _ hx, h3⟩
    refine ⟨h1, fun ts => ?_⟩
    induction ts with
    | nil => intro ns _ hn; exact ⟨hn, fun z hz => Or.inl hz⟩
    | cons t ts iht =>
      intro ns h hn
      rw [T.szL_cons] at h
      show (giveT.giveL ts (giveT t ns).2).2.Nodup ∧ ∀ z, z ∈ (giveT.giveL ts (giveT t ns).2).2 → _
      obtain ⟨a1, a2⟩ := h1 t ns (by omega) hn
      obtain ⟨b1, b2⟩ := iht (giveT t ns).2 (by omega) a1
      refine ⟨b1, fun z hz => ?_⟩
      rcases b2 z hz with h2 | ⟨x, hx, h3⟩
      · rcases a2 z h2 with h3 | ⟨x, hx, h3⟩
        · exact Or.inl h3
        · exact Or.inr ⟨x, by rw [partsL_cons]; exact List.mem_append_left _ hx, h3⟩
      · exact Or.inr ⟨x, by rw [partsL_cons]; exact List.mem_append_right _ hx, h3⟩
theorem giveC_only : ∀ (c : List Lit) (ns : List Int), ns.Nodup → (giveC c ns).2.Nodup ∧ ∀ z, z ∈ (giveC c ns).2 → z ∈ ns ∨ z ∈ clNums c := by
  intro c
  induction c with
  | nil => intro ns hn; exact ⟨hn, fun z hz => Or.inl hz⟩
  | cons x c ih =>
    intro ns hn
    show (giveC c (giveT x.2.2 (giveT x.2.1 ns).2).2).2.Nodup ∧ ∀ z, z ∈ (giveC c (giveT x.2.2 (giveT x.2.1 ns).2).2).2 → _
    obtain ⟨a1, a2⟩ := (give_only x.2.1.sz).1 x.2.1 ns (Nat.le_refl _) hn
    obtain ⟨b1, b2⟩ := (give_only x.2.2.sz).1 x.2.2 _ (Nat.le_refl _) a1
    obtain ⟨c1, c2⟩ := ih _ b1
    refine ⟨c1, fun z hz => ?_⟩
    rw [clNums_mem]
    rcases c2 z hz with h | h
    · rcases b2 z h with h | h
      · rcases a2 z h with h | h
        · exact Or.inl h
        · exact Or.inr ⟨x, List.mem_cons_self, Or.inl (varsT_mem.2 h)⟩
      · exact Or.inr ⟨x, List.mem_cons_self, Or.inr (varsT_mem.2 h)⟩
    · obtain ⟨y, hy, h⟩ := clNums_mem.1 h
      exact Or.inr ⟨y, List.mem_cons_of_mem _ hy, h⟩
end Go.Proofs.YtbkedppkdhfpoabGreat

namespace Go.Proofs.YtbkedppkdhfpoabGreat
open Go.RowKit Go.Maps

theorem lits_zero {ar : List Int} (hs : sigErr ar = 0) : ∀ {c : List Lit}, LitsOk ar c → litsErr ar c = 0 := by
  intro c
  induction c with
  | nil => intro _; rfl
  | cons x c ih =>
    intro h
    have hx := h x List.mem_cons_self
    have t0 : ∀ t : T, t.sz ≤ 120 ∧ okP ar t → termErr ar t = 0 := fun t ht => by
      rw [← all_one hs t]; exact allErr_iff.2 ⟨hs, fun y hy => by rw [List.mem_singleton.1 hy]; exact ht⟩
    rw [litsErr, if_pos (t0 _ hx.1), if_pos (t0 _ hx.2)]
    exact ih (fun y hy => h y (List.mem_cons_of_mem _ hy))
theorem clause_zero {ar : List Int} {c : List Lit} (hs : sigErr ar = 0) (hl : c.length ≤ 8) (h : LitsOk ar c) : clauseErr ar c = 0 := by rw [clauseErr, if_neg (by omega), lits_zero hs h]
theorem one_zero {ar : List Int} {c : List Lit} (hs : sigErr ar = 0) (hl : c.length ≤ 8) (h : LitsOk ar c) : clausesErr ar [c] = 0 := by rw [clausesErr, if_pos hs, if_neg (by simp), clErr, if_pos (clause_zero hs hl h)]; rfl
end Go.Proofs.YtbkedppkdhfpoabGreat

namespace Go.Proofs.YtbkedppkdhfpoabGreat
open Go.RowKit Go.Maps

/-- The numbers from one on. -/
def rng (n : Nat) : List Int := (List.range n).map (fun i : Nat => (i : Int) + 1)
theorem rng_len (n : Nat) : (rng n).length = n := by rw [rng, List.length_map, List.length_range]
theorem rng_mem {n : Nat} {z : Int} : z ∈ rng n ↔ 1 ≤ z ∧ z ≤ n := by
  rw [rng, List.mem_map]
  constructor
  · rintro ⟨i, hi, rfl⟩
    have := List.mem_range.1 hi
    omega
  · intro h
    exact ⟨(z - 1).toNat, List.mem_range.2 (by omega), by omega⟩
theorem rng_succ (n : Nat) : rng (n + 1) = rng n ++ [(n : Int) + 1] := by rw [rng, List.range_succ, List.map_append]; rfl
theorem rng_idx {n k : Nat} (h : k < n) : (rng n).idxOf ((k : Int) + 1) = k := by
  have hm : ((k : Int) + 1) ∈ rng n := rng_mem.2 (by omega)
  have hlt := List.idxOf_lt_length_iff.2 hm
  have he : (rng n)[(rng n).idxOf ((k : Int) + 1)] = (k : Int) + 1 := List.getElem_idxOf hlt
  simp only [rng, List.getElem_map, List.getElem_range] at he
  exact Int.ofNat.inj (show ((((rng n).idxOf ((k : Int) + 1)) : Nat) : Int) = (k : Int) by rw [rng]; omega)
theorem num_twice (v : Int) (ns : List Int) : numL (numV v ns) (rng ns.length) = rng (numL v ns).length ∧ numV (numV v ns) (rng ns.length) = numV v ns := by
  by_cases h0 : v = 0
  · have e1 : numV v ns = 0 := by rw [numV, if_pos h0]
    have e2 : ∀ l : List Int, numL 0 l = l := fun l => by rw [numL, if_pos (Or.inl rfl)]
    refine ⟨?_, ?_⟩
    · rw [e1, h0, e2, e2]
    · rw [e1]; rw [numV, if_pos rfl]
  · by_cases hm : v ∈ ns
    · have e1 : numL v ns = ns := by rw [numL, if_pos (Or.inr hm)]
      have hlt := List.idxOf_lt_length_iff.2 hm
      have e2 : numV v ns = (ns.idxOf v : Int) + 1 := by rw [numV, if_neg h0, e1]
      have hin : ((ns.idxOf v : Int) + 1) ∈ rng ns.length := rng_mem.2 (by omega)
      have e3 : numL ((ns.idxOf v : Int) + 1) (rng ns.length) = rng ns.length := by rw [numL, if_pos (Or.inr hin)]
      rw [e2, e1]
      refine ⟨e3, ?_⟩
      rw [numV, if_neg (by omega), e3, rng_idx hlt]
    · have e1 : numL v ns = ns ++ [v] := by rw [numL, if_neg (by rw [not_or]; exact ⟨h0, hm⟩)]
      have e2 : numV v ns = (ns.length : Int) + 1 := by
        rw [numV, if_neg h0, e1, List.idxOf_append, if_neg hm]
        simp
      have e3 : numL ((ns.length : Int) + 1) (rng ns.length) = rng (ns.length + 1) := by
        rw [numL, if_neg, rng_succ]
        rw [not_or]
        exact ⟨by omega, fun h => by have := rng_mem.1 h; omega⟩
      rw [e2, e1, List.length_append]
      refine ⟨e3, ?_⟩
      rw [numV, if_neg (by omega), e3, rng_idx (by omega)]
theorem give_twice : ∀ (N : Nat), (∀ (t : T) (ns : List Int), t.sz ≤ N → giveT (giveT t ns).1 (rng ns.length) = ((giveT t ns).1, rng (giveT t ns).2.length)) ∧ (∀ (ts : List T) (ns : List Int), T.sz.szL ts ≤ N → giveT.giveL (giveT.giveL ts ns).1 (rng ns.length) = ((giveT.giveL ts ns).1, rng (giveT.giveL ts ns).2.length)) := by
  intro N
  induction N with
  | zero =>
    refine ⟨fun t ns h => by have := t.sz_pos; omega, fun ts ns h => ?_⟩
    cases ts with
    | nil => rfl
    | cons t ts => have := t.sz_pos; rw [T.szL_cons] at h; omega
  | succ N ih =>
    have h1 : ∀ (t : T) (ns : List Int), t.sz ≤ N + 1 → giveT (giveT t ns).1 (rng ns.length) = ((giveT t ns).1, rng (giveT t ns).2.length) := fun t ns h => by
      have he := T.sz_eq t
      obtain ⟨e1, e2⟩ := num_twice t.v ns
      have e3 := ih.2 t.args (numL t.v ns) (by omega)
      rw [giveT_eq t ns]
      simp only
      rw [giveT_eq]
      simp only
      rw [e1, e2, e3]
    refine ⟨h1, fun ts => ?_⟩
    induction ts with
    | nil => intro ns _; rfl
    | cons t ts iht =>
      intro ns h
      rw [T.szL_cons] at h
      have a1 := h1 t ns (by omega)
      have a2 := iht (giveT t ns).2 (by omega)
      show giveT.giveL ((giveT t ns).1 :: (giveT.giveL ts (giveT t ns).2).1) (rng ns.length) = ((giveT t ns).1 :: (giveT.giveL ts (giveT t ns).2).1, rng (giveT.giveL ts (giveT t ns).2).2.length)
      show ((giveT (giveT t ns).1 (rng ns.length)).1 :: (giveT.giveL (giveT.giveL ts (giveT t ns).2).1 (giveT (giveT t ns).1 (rng ns.length)).2).1, (giveT.giveL (giveT.giveL ts (giveT t ns).2).1 (giveT (giveT t ns).1 (rng ns.length)).2).2) = _
      rw [a1]
      simp only
      rw [a2]
theorem giveC_twice : ∀ (c : List Lit) (ns : List Int), giveC (giveC c ns).1 (rng ns.length) = ((giveC c ns).1, rng (giveC c ns).2.length) := by
  intro c
  induction c with
  | nil => intro ns; rfl
  | cons x c ih =>
    intro ns
    have a1 := (give_twice x.2.1.sz).1 x.2.1 ns (Nat.le_refl _)
    have a2 := (give_twice x.2.2.sz).1 x.2.2 (giveT x.2.1 ns).2 (Nat.le_refl _)
    have a3 := ih (giveT x.2.2 (giveT x.2.1 ns).2).2
    show giveC ((x.1, (giveT x.2.1 ns).1, (giveT x.2.2 (giveT x.2.1 ns).2).1) :: (giveC c (giveT x.2.2 (giveT x.2.1 ns).2).2).1) (rng ns.length) = ((x.1, (giveT x.2.1 ns).1, (giveT x.2.2 (giveT x.2.1 ns).2).1) :: (giveC c (giveT x.2.2 (giveT x.2.1 ns).2).2).1, rng (giveC c (giveT x.2.2 (giveT x.2.1 ns).2).2).2.length)
    rw [giveC]
    simp only
    rw [a1]
    simp only
    rw [a2]
    simp only
    rw [a3]
/-- Each literal is one that stays. -/
def Stay (c : List Lit) : Prop := ∀ A x B, c = A ++ x :: B → keepL A x = true
theorem stay_need : ∀ (c acc : List Lit), Stay acc → Stay (needS acc c) := by
  intro c
  induction c with
  | nil => intro acc h; exact h
  | cons l c ih =>
    intro acc h
    rw [needS]
    by_cases hk : keepL acc l = true
    · rw [if_pos hk]
      refine ih _ (fun A x B e => ?_)
      rcases List.append_eq_append_iff.1 e with ⟨zs, e1, e2⟩ | ⟨bs, e1, e2⟩
      · cases zs with
        | nil =>
          simp only [List.nil_append, List.cons.injEq] at e2
          obtain ⟨rfl, _⟩ := e2
          rw [List.append_nil] at e1
          rw [e1]; exact hk
        | cons a zs =>
          simp at e2
      · cases bs with
        | nil =>
          simp only [List.nil_append, List.cons.injEq] at e2
          obtain ⟨rfl, _⟩ := e2
          rw [List.append_nil] at e1
          rw [← e1]; exact hk
        | cons b bs =>
          simp only [List.cons_append, List.cons.injEq] at e2
          exact h A x bs (by rw [e1, ← e2.1])
    · rw [if_neg hk]; exact ih _ h
theorem need_stay : ∀ (c acc : List Lit), Stay (acc ++ c) → needS acc c = acc ++ c := by
  intro c
  induction c with
  | nil => intro acc _; rw [needS, List.append_nil]
  | cons l c ih =>
    intro acc h
    rw [needS, if_pos (h acc l c rfl)]
    have e : acc ++ l :: c = (acc ++ [l]) ++ c := by simp
    rw [e] at h ⊢
    exact ih _ h
theorem ren_inj {ar L : List Int} : ∀ (N : Nat) (s t : T), s.sz ≤ N → okP ar s → okP ar t → (∀ q, q ∈ parts s → q.v ≠ 0 → q.v ∈ L) → (∀ q, q ∈ parts t → q.v ≠ 0 → q.v ∈ L) → sub (ren L) s = sub (ren L) t → s = t := by
  intro N
  induction N with
  | zero => intro s t h; have := s.sz_pos; omega
  | succ N ih =>
    intro s t h hs ht ls lt e
    have hse := T.sz_eq s
    by_cases hv : s.v = 0
    · by_cases hw : t.v = 0
      · rw [sub_fn hv, sub_fn hw] at e
        obtain ⟨_, e1, e2⟩ := T.mk.inj e
        have hl : ∀ (a b : List T), (∀ x, x ∈ a → x ∈ s.args) → (∀ x, x ∈ b → x ∈ t.args) → a.map (sub (ren L)) = b.map (sub (ren L)) → a = b := by
          intro a
          induction a with
          | nil => intro b _ _ e; cases b with | nil => rfl | cons y b => cases e
          | cons x a iha =>
            intro b ha hb e
            cases b with
            | nil => cases e
            | cons y b =>
              rw [List.map_cons, List.map_cons] at e
              obtain ⟨q1, q2⟩ := List.cons.inj e
              have hx := ha x List.mem_cons_self
              have hy := hb y List.mem_cons_self
              rw [ih x y (by have := arg_sz hx; omega) (okArg hs hx) (okArg ht hy) (fun q hq => ls q (by rw [parts_eq]; exact List.mem_append_left _ (partsL_mem hx hq))) (fun q hq => lt q (by rw [parts_eq]; exact List.mem_append_left _ (partsL_mem hy hq))) q1,
                iha b (fun z hz => ha z (List.mem_cons_of_mem _ hz)) (fun z hz => hb z (List.mem_cons_of_mem _ hz)) q2]
        have e3 := hl s.args t.args (fun _ h => h) (fun _ h => h) e2
        cases s; cases t; simp only at hv hw e1 e3; rw [hv, hw, e1, e3]
      · rw [sub_fn hv, sub_var hw, ren] at e
        have := (T.mk.inj e).1
        omega
    · by_cases hw : t.v = 0
      · rw [sub_var hv, sub_fn hw, ren] at e
        have := (T.mk.inj e).1
        omega
      · rw [sub_var hv, sub_var hw, ren, ren] at e
        have e1 := (T.mk.inj e).1
        have i1 := List.idxOf_lt_length_iff.2 (ls s (by rw [parts_eq]; simp) hv)
        have i2 := List.idxOf_lt_length_iff.2 (lt t (by rw [parts_eq]; simp) hw)
        have g1 : L[L.idxOf s.v] = s.v := List.getElem_idxOf i1
        have g2 : L[L.idxOf t.v] = t.v := List.getElem_idxOf i2
        have e2 : L.idxOf s.v = L.idxOf t.v := by omega
        simp only [e2] at g1
        have e3 : s.v = t.v := g1.symm.trans g2
        obtain ⟨s1, s2⟩ := ok_var hs hv
        obtain ⟨t1, t2⟩ := ok_var ht hw
        cases s; cases t; simp only at s1 s2 t1 t2 e3; rw [s1, s2, t1, t2, e3]
theorem ren_ok2 {ar L : List Int} (hL : L.length ≤ 1000) : ∀ (N : Nat) (t : T), t.sz ≤ N → okP ar t → (∀ q, q ∈ parts t → q.v ≠ 0 → q.v ∈ L) → okP ar (sub (ren L) t) ∧ (sub (ren L) t).sz = t.sz := by
  intro N
  induction N with
  | zero => intro t h; have := t.sz_pos; omega
  | succ N ih =>
    intro t h ht hq
    have hts := T.sz_eq t
    by_cases hv : t.v = 0
    · have hsz : ∀ (l : List T), (∀ a, a ∈ l → (sub (ren L) a).sz = a.sz) → T.sz.szL (l.map (sub (ren L))) = T.sz.szL l := by
        intro l
        induction l with
        | nil => intro _; rfl
        | cons a l ihl =>
          intro hl
          rw [List.map_cons, T.szL_cons, T.szL_cons, hl a List.mem_cons_self, ihl (fun b hb => hl b (List.mem_cons_of_mem a hb))]
      have hA := fun a (ha : a ∈ t.args) => ih a (by have := arg_sz ha; omega) (okArg ht ha) (fun q hm => hq q (by rw [parts_eq]; exact List.mem_append_left _ (partsL_mem ha hm)))
      rw [sub_fn hv]
      refine ⟨okP_iff.2 ⟨?_, ?_⟩, ?_⟩
      · have := (okP_iff.1 ht).1
        rw [hv] at this
        simpa using this
      · refine okL_mem.2 fun b hb => ?_
        obtain ⟨a, ha, rfl⟩ := List.mem_map.1 hb
        exact (hA a ha).1
      · rw [T.sz_eq, hts]
        show 1 + T.sz.szL (t.args.map (sub (ren L))) = _
        rw [hsz _ (fun a ha => (hA a ha).2)]
    · have h1 := ok_var ht hv
      have hi := List.idxOf_lt_length_iff.2 (hq t (by rw [parts_eq]; simp) hv)
      rw [sub_var hv, ren]
      refine ⟨okP_iff.2 ⟨?_, trivial⟩, ?_⟩
      · show partErr ar ((L.idxOf t.v : Int) + 1) 0 0 = 0
        rw [partErr, if_pos (by omega), if_neg (by omega)]; rfl
      · rw [T.sz_eq, hts, h1.2]
theorem var_rng {ar : List Int} : ∀ (N : Nat) (t : T), t.sz ≤ N → okP ar t → ∀ q, q ∈ parts t → q.v ≠ 0 → 1 ≤ q.v ∧ q.v ≤ 1000 := by
  intro N
  induction N with
  | zero => intro t h; have := t.sz_pos; omega
  | succ N ih =>
    intro t h ht q hq hv
    rw [parts_eq, List.mem_append, List.mem_singleton] at hq
    rcases hq with hq | rfl
    · have hin : ∀ (l : List T), (∀ a, a ∈ l → a ∈ t.args) → q ∈ parts.partsL l → ∃ a, a ∈ t.args ∧ q ∈ parts a := by
        intro l
        induction l with
        | nil => intro _ h; cases h
        | cons a l ihl =>
          intro hl h
          rw [partsL_cons, List.mem_append] at h
          rcases h with h | h
          · exact ⟨a, hl a List.mem_cons_self, h⟩
          · exact ihl (fun b hb => hl b (List.mem_cons_of_mem _ hb)) h
      obtain ⟨a, ha, hqa⟩ := hin t.args (fun _ h => h) hq
      have hte := T.sz_eq t
      exact ih a (by have := arg_sz ha; omega) (okArg ht ha) q hqa hv
    · have h1 := (okP_iff.1 ht).1
      rw [partErr_var hv, varErr] at h1
      split at h1
      · cases h1
      · omega
theorem stay_map {ar L : List Int} {c : List Lit} (hc : LitsOk ar c) (hL : ∀ x, x ∈ c → ∀ q, (q ∈ parts x.2.1 ∨ q ∈ parts x.2.2) → q.v ≠ 0 → q.v ∈ L) (h : Stay c) : Stay (mapC (sub (ren L)) c) := by
  intro A x B e
  rw [mapC] at e
  obtain ⟨A', R, e1, e2, e3⟩ := List.map_eq_append_iff.1 e
  obtain ⟨y, B', e4, e5, e6⟩ := List.map_eq_cons_iff.1 e3
  subst e4 e1
  have hy := h A' y B' rfl
  have my : y ∈ A' ++ y :: B' := by simp
  have hsm : ∀ (s t : T), okP ar s → okP ar t → (∀ q, q ∈ parts s → q.v ≠ 0 → q.v ∈ L) → (∀ q, q ∈ parts t → q.v ≠ 0 → q.v ∈ L) → sameT (sub (ren L) s) (sub (ren L) t) = sameT s t := fun s t hs ht ls lt => by
    rw [Bool.eq_iff_iff, sameT_iff, sameT_iff]
    exact ⟨ren_inj s.sz s t (Nat.le_refl _) hs ht ls lt, fun e => by rw [e]⟩
  have hside : ∀ k, k ∈ A' ++ y :: B' → (okP ar k.2.1 ∧ ∀ q, q ∈ parts k.2.1 → q.v ≠ 0 → q.v ∈ L) ∧ (okP ar k.2.2 ∧ ∀ q, q ∈ parts k.2.2 → q.v ≠ 0 → q.v ∈ L) := fun k hk =>
    ⟨⟨(hc k hk).1.2, fun q hq => hL k hk q (Or.inl hq)⟩, ⟨(hc k hk).2.2, fun q hq => hL k hk q (Or.inr hq)⟩⟩
  have hlit : ∀ k, k ∈ A' → sameLit (k.1, sub (ren L) k.2.1, sub (ren L) k.2.2) (y.1, sub (ren L) y.2.1, sub (ren L) y.2.2) = sameLit k y := fun k hk => by
    obtain ⟨⟨k1, k2⟩, k3, k4⟩ := hside k (List.mem_append_left _ hk)
    obtain ⟨⟨y1, y2⟩, y3, y4⟩ := hside y my
    rw [sameLit, sameLit, sameS, sameS]
    simp only
    rw [hsm _ _ k1 y1 k2 y2, hsm _ _ k3 y3 k4 y4, hsm _ _ k1 y3 k2 y4, hsm _ _ k3 y1 k4 y2]
  rw [← e2, ← e5]
  rw [keepL] at hy ⊢
  rw [List.any_map]
  simp only
  obtain ⟨⟨y1, y2⟩, y3, y4⟩ := hside y my
  rw [hsm _ _ y1 y3 y2 y4, ← hy]
  congr 2
  rw [Bool.eq_iff_iff, List.any_eq_true, List.any_eq_true]
  exact ⟨fun ⟨k, hk, hk2⟩ => ⟨k, hk, by rw [← hlit k hk]; exact hk2⟩, fun ⟨k, hk, hk2⟩ => ⟨k, hk, (hlit k hk).trans hk2⟩⟩
/-- A tidied clause is right, and tidying leaves it so. -/
theorem tidy_twice {ar : List Int} {c : List Lit} (hc : clausesErr ar [c] = 0) : clausesErr ar [(giveC (needS [] c) []).1] = 0 ∧ tidyS ar (giveC (needS [] c) []).1 = ((giveC (needS [] c) []).1, 0) := by
  obtain ⟨h1, h2, h3⟩ := clauses_ok hc
  have hno := need_ok h3
  have e := giveC_ren (ar := ar) (needS [] c) [] [] hno
  have hhas := giveC_has (needS [] c) []
  have hlen := giveC_length (needS [] c) []
  have hnl := need_len (c := c) (acc := [])
  have htw := giveC_twice (needS [] c) []
  obtain ⟨hnd, hon⟩ := giveC_only (needS [] c) [] List.nodup_nil
  have hLl : (giveC (needS [] c) []).2.length ≤ 1000 := by
    have := nodup_le (B := rng 1000) hnd (fun z hz => by
      rw [rng_mem]
      rcases hon z hz with h | h
      · cases h
      · obtain ⟨x, hx, hv⟩ := clNums_mem.1 h
        rcases hv with hv | hv
        · obtain ⟨q, hq, h0, rfl⟩ := varsT_mem.1 hv
          exact var_rng _ _ (Nat.le_refl _) (hno x hx).1.2 q hq h0
        · obtain ⟨q, hq, h0, rfl⟩ := varsT_mem.1 hv
          exact var_rng _ _ (Nat.le_refl _) (hno x hx).2.2 q hq h0)
    rw [rng_len] at this
    exact this
  have hst := stay_need c [] (fun A x B e => by simp at e)
  rw [List.append_nil] at e
  have hst2 := stay_map hno hhas hst
  rw [← e] at hst2
  have hz : clausesErr ar [(giveC (needS [] c) []).1] = 0 := by
    refine one_zero h1 (by rw [hlen]; simp at hnl; omega) ?_
    rw [e]
    intro x hx
    obtain ⟨y, hy, rfl⟩ := List.mem_map.1 hx
    have hy' := hno y hy
    have a1 := ren_ok2 (ar := ar) hLl y.2.1.sz y.2.1 (Nat.le_refl _) hy'.1.2 (fun q hq => hhas y hy q (Or.inl hq))
    have a2 := ren_ok2 (ar := ar) hLl y.2.2.sz y.2.2 (Nat.le_refl _) hy'.2.2 (fun q hq => hhas y hy q (Or.inr hq))
    exact ⟨⟨by show (sub (ren _) y.2.1).sz ≤ 120; rw [a1.2]; exact hy'.1.1, a1.1⟩, ⟨by show (sub (ren _) y.2.2).sz ≤ 120; rw [a2.2]; exact hy'.2.1, a2.1⟩⟩
  refine ⟨hz, ?_⟩
  rw [tidyS, if_pos hz, need_stay _ [] hst2, List.nil_append]
  rw [show rng ([] : List Int).length = [] from rfl] at htw
  rw [htw]
end Go.Proofs.YtbkedppkdhfpoabGreat
