/- Clauses: where something can be put in so that one covers the other, it is said to subsume it. ClauseTells: what the document makes of clauses, and what the program makes of them. The document's own check of clauses. The document's SameClause, at one clause that lies at two places. ClauseTells: the document's SameSides and Turned. -/
import Derived.BigQuiet
import Derived.Deep.RegionHeld3
import Derived.Test.YtbkedppkdhfpoabGreatJoined12
namespace Go.Proofs.YtbkedppkdhfpoabGreat
open Go.RowKit Go.Maps

/-- What makes the pattern the term is what is bound. -/
theorem grow_theta {ar : List Int} {θ : Int → T} : ∀ (n : Nat) (p t : T) (bs : List (Int × T)), p.sz ≤ n → okP ar p → sub θ p = t → (∀ v u, lookB bs v = some u → θ v = u) → ∃ b2, growT p t bs = some b2 ∧ ∀ v u, lookB b2 v = some u → θ v = u := by
  intro n
  induction n with
  | zero => intro p t bs h; have := p.sz_pos; omega
  | succ n ih =>
    intro p t bs h hp ht hbs
    have hpe := T.sz_eq p
    rw [growT_eq]
    by_cases hv : p.v ≠ 0
    · rw [if_pos hv]
      rw [sub_var hv] at ht
      cases hl : lookB bs p.v with
      | some u =>
        have hu := hbs _ _ hl
        have hs : sameT u t = true := sameT_iff.2 (by rw [← hu, ht])
        exact ⟨bs, by simp only [hs, if_true], hbs⟩
      | none =>
        refine ⟨_, rfl, fun v u hu => ?_⟩
        by_cases e : v = p.v
        · subst e
          rw [lookB_last hl] at hu
          rw [← Option.some.inj hu]; exact ht
        · rcases lookB_back hu with h1 | h1
          · exact hbs v u h1
          · exact absurd h1.symm e
    · have hv0 : p.v = 0 := by omega
      rw [if_neg hv]
      rw [sub_fn hv0] at ht
      subst ht
      have e1 : ¬ ((⟨0, p.f, p.args.map (sub θ)⟩ : T).v ≠ 0 ∨ p.f ≠ (⟨0, p.f, p.args.map (sub θ)⟩ : T).f) := by simp
      rw [if_neg e1]
      have hA : ∀ (ps : List T) (bs : List (Int × T)), (∀ a, a ∈ ps → a.sz ≤ n ∧ okP ar a) → (∀ v u, lookB bs v = some u → θ v = u) → ∃ b2, growT.growL ps (ps.map (sub θ)) bs = some b2 ∧ ∀ v u, lookB b2 v = some u → θ v = u := by
        intro ps
        induction ps with
        | nil => intro bs _ hb; exact ⟨bs, rfl, hb⟩
        | cons a ps ihp =>
          intro bs ha hb
          obtain ⟨b1, h1, h2⟩ := ih a _ bs (ha a List.mem_cons_self).1 (ha a List.mem_cons_self).2 rfl hb
          obtain ⟨b2, h3, h4⟩ := ihp b1 (fun x hx => ha x (List.mem_cons_of_mem _ hx)) h2
          refine ⟨b2, ?_, h4⟩
          rw [List.map_cons, growL_cons, h1]
          exact h3
      exact hA p.args bs (fun a ha => ⟨by have := arg_sz ha; omega, okArg hp ha⟩) hbs
theorem match_theta {ar : List Int} {θ : Int → T} {s t : T} (h1 : allErr ar [s, t] = 0) (h : sub θ s = t) : (matchSpec ar s t).2.1 = true ∧ ∀ v u, lookB (matchSpec ar s t).1 v = some u → θ v = u := by
  obtain ⟨k1, k2, k3, k4⟩ := ok_two h1
  obtain ⟨bs, hg, hb⟩ := grow_theta (θ := θ) s.sz s t [] (Nat.le_refl _) k2 h (fun v u hu => by cases hu)
  rw [matchSpec, if_pos h1, hg]
  exact ⟨rfl, fun v u hu => hb v u (by rw [← lookB_sortB]; exact hu)⟩
theorem way_theta {ar : List Int} {θ : Int → T} {l : Lit} {a b : T} (hA : allErr ar [l.2.1, a] = 0) (hB : allErr ar [l.2.2, b] = 0) (h1 : sub θ l.2.1 = a) (h2 : sub θ l.2.2 = b) : MatchP ar l a b ∧ ∀ v u, matchW ar l a b v = some u → θ v = u := by
  obtain ⟨a1, a2⟩ := match_theta hA h1
  obtain ⟨b1, b2⟩ := match_theta hB h2
  refine ⟨⟨a1, b1, fun v t u ht hu => by rw [← a2 v t ht, b2 v u hu]⟩, fun v u hu => ?_⟩
  have hw : matchW ar l a b v = match lookB (matchSpec ar l.2.2 b).1 v with
    | some u => some u
    | none => lookB (matchSpec ar l.2.1 a).1 v := rfl
  rw [hw] at hu
  cases hb : lookB (matchSpec ar l.2.2 b).1 v with
  | some x => rw [hb] at hu; obtain rfl := Option.some.inj hu; exact b2 v _ hb
  | none => rw [hb] at hu; exact a2 v u hu
/-- A way binds the variables of the literal. -/
theorem way_dom {ar : List Int} {l : Lit} {a b : T} (h : MatchP ar l a b) {v : Int} (h0 : v ≠ 0) (ho : occ v l.2.1 ∨ occ v l.2.2) : ∃ u, matchW ar l a b v = some u := by
  obtain ⟨hA, hB, hag⟩ := h
  have hw : matchW ar l a b v = match lookB (matchSpec ar l.2.2 b).1 v with
    | some u => some u
    | none => lookB (matchSpec ar l.2.1 a).1 v := rfl
  rw [hw]
  cases hb : lookB (matchSpec ar l.2.2 b).1 v with
  | some x => exact ⟨x, rfl⟩
  | none =>
    rcases ho with ho | ho
    · exact (match_full hA).1 v h0 ho
    · obtain ⟨u, hu⟩ := (match_full hB).1 v h0 ho
      rw [hb] at hu; cases hu
theorem way_same {ar : List Int} {l : Lit} {a b a' b' : T} {h : Int → Nat} (h1 : MatchP ar l a b) (h2 : MatchP ar l a' b') (hag : agreeP (lessW h (matchW ar l a b)) (lessW h (matchW ar l a' b'))) : lessW h (matchW ar l a b) = lessW h (matchW ar l a' b') := by
  funext v
  have hag' := hag v
  rw [lessW, lessW] at hag' ⊢
  by_cases e : h v = 1
  · rw [if_pos e, if_pos e]
  · rw [if_neg e, if_neg e] at hag' ⊢
    cases hx : matchW ar l a b v with
    | some x =>
      have := (way_full h1).1 v x hx
      obtain ⟨u, hu⟩ := way_dom h2 this.1 this.2
      rw [hu, hag' x u hx hu]
    | none =>
      cases hy : matchW ar l a' b' v with
      | none => rfl
      | some y =>
        have := (way_full h2).1 v y hy
        obtain ⟨u, hu⟩ := way_dom h1 this.1 this.2
        rw [hx] at hu; cases hu
theorem ways_in {ar : List Int} {l k : Lit} : ∀ {d : List Lit} {gs : List Way}, WaysOf ar l d gs → k ∈ d → k.1 = l.1 → (MatchP ar l k.2.1 k.2.2 → matchW ar l k.2.1 k.2.2 ∈ gs) ∧ (MatchP ar l k.2.2 k.2.1 → matchW ar l k.2.2 k.2.1 ∈ gs) := by
  intro d
  induction d with
  | nil => intro gs _ hk; cases hk
  | cons x d ih =>
    intro gs h hk hs
    obtain ⟨ms, rest, rfl, hst, hw⟩ := h
    rcases List.mem_cons.1 hk with rfl | hk
    · obtain ⟨g1, g2, rfl, h1, h2⟩ := hst.1 hs
      exact ⟨fun hp => by rw [h1.1 hp]; simp, fun hp => by rw [h2.1 hp]; simp⟩
    · obtain ⟨h1, h2⟩ := ih hw hk hs
      exact ⟨fun hp => List.mem_append_right _ (h1 hp), fun hp => List.mem_append_right _ (h2 hp)⟩
theorem lits_two {ar : List Int} {c d : List Lit} (hs : sigErr ar = 0) (hc : LitsOk ar c) (hd : LitsOk ar d) {l k : Lit} (hl : l ∈ c) (hk : k ∈ d) : (allErr ar [l.2.1, k.2.1] = 0 ∧ allErr ar [l.2.2, k.2.2] = 0) ∧ allErr ar [l.2.1, k.2.2] = 0 ∧ allErr ar [l.2.2, k.2.1] = 0 := by
  have h1 := hc l hl
  have h2 := hd k hk
  have hh : ∀ {s t : T}, (s.sz ≤ 120 ∧ okP ar s) → (t.sz ≤ 120 ∧ okP ar t) → allErr ar [s, t] = 0 := fun hx hy => allErr_iff.2 ⟨hs, fun x hm => by
    rcases List.mem_cons.1 hm with rfl | hm
    · exact hx
    · rw [List.mem_singleton.1 hm]; exact hy⟩
  exact ⟨⟨hh h1.1 h2.1, hh h1.2 h2.2⟩, hh h1.1 h2.2, hh h1.2 h2.1⟩
theorem theta_fit {ar : List Int} {c d : List Lit} {Ls : List (List Way)} {θ : Int → T} (hs : sigErr ar = 0) (hc : LitsOk ar c) (hd : LitsOk ar d) (hl : Ls.length = c.length) (hW : WaysL ar c d Ls) (hcov : Covers θ c d) : Fit Ls := by
  have hex : ∀ i : Nat, ∃ x : Way, (∀ v u, x v = some u → θ v = u) ∧ ∀ hs, Ls[i]? = some hs → x ∈ hs := fun i => by
    cases hLi : Ls[i]? with
    | none => exact ⟨fun _ => none, (fun v u h => (by cases h)), (fun hs h => (by cases h))⟩
    | some hs' =>
      have hi : i < c.length := by rw [← hl]; exact (List.getElem?_eq_some_iff.1 hLi).1
      have hci := List.getElem?_eq_getElem hi
      have hm := List.mem_of_getElem? hci
      obtain ⟨gs, hg1, hg2⟩ := hW i _ _ hci hLi
      obtain ⟨k, hk, hsg, hkk⟩ := hcov _ hm
      obtain ⟨⟨e1, e2⟩, e3, e4⟩ := lits_two hs hc hd hm hk
      have hway : ∃ a b, MatchP ar c[i] a b ∧ matchW ar c[i] a b ∈ gs ∧ ∀ v u, matchW ar c[i] a b v = some u → θ v = u := by
        rcases hkk with ⟨q1, q2⟩ | ⟨q1, q2⟩
        · obtain ⟨m1, m2⟩ := way_theta e1 e2 q1 q2
          exact ⟨_, _, m1, (ways_in hg1 hk hsg).1 m1, m2⟩
        · obtain ⟨m1, m2⟩ := way_theta e3 e4 q1 q2
          exact ⟨_, _, m1, (ways_in hg1 hk hsg).2 m1, m2⟩
      obtain ⟨a, b, m1, m2, m3⟩ := hway
      obtain ⟨x, hx, hag⟩ := hg2.2 _ m2
      obtain ⟨g', hg', rfl⟩ := hg2.1 x hx
      refine ⟨lessW (stand c) (matchW ar c[i] a b), fun v u hu => ?_, fun hs h => ?_⟩
      · rw [lessW] at hu
        split at hu
        · cases hu
        · exact m3 v u hu
      · obtain rfl := Option.some.inj h
        obtain ⟨k', _, _, hk' | hk'⟩ := ways_mem hg1 hg'
        · rw [hk'.2] at hag hx
          rw [way_same m1 hk'.1 hag]; exact hx
        · rw [hk'.2] at hag hx
          rw [way_same m1 hk'.1 hag]; exact hx
  obtain ⟨C, hC⟩ := Classical.axiomOfChoice hex
  exact ⟨C, fun i gs h => (hC i).2 gs h, fun i j _ _ v t u ht hu => by rw [← (hC i).1 v t ht, (hC j).1 v u hu]⟩
/-- Subsuming is covering. -/
theorem subs_iff {ar : List Int} {c d : List Lit} {yes : Bool} {err : Int} (h : SubS ar c d yes err) : err = clausesErr ar [c, d] ∧ (clausesErr ar [c, d] ≠ 0 → yes = false) ∧ (clausesErr ar [c, d] = 0 → (yes = true ↔ ∃ θ : Int → T, Covers θ c d)) := by
  by_cases he : clausesErr ar [c, d] = 0
  · obtain ⟨h1, Ls, hl, hW, hy⟩ := h.2 he
    refine ⟨by rw [h1, he], fun h => absurd he h, fun _ => ?_⟩
    obtain ⟨hsg, _, hc⟩ := clauses_each he
    rw [hy]
    constructor
    · intro hF
      obtain ⟨θ, _, hcov⟩ := fit_theta hl hW hF
      exact ⟨θ, hcov⟩
    · rintro ⟨θ, hcov⟩
      exact theta_fit hsg (hc c (by simp)).2 (hc d (by simp)).2 hl hW hcov
  · obtain ⟨h1, h2⟩ := h.1 he
    exact ⟨h2, fun _ => h1, fun h => absurd h he⟩
end Go.Proofs.YtbkedppkdhfpoabGreat

namespace Go.Proofs.YtbkedppkdhfpoabGreat
open Go.RowKit Go.Maps

/-- Does the document drop a literal behind others? -/
def dropL (pre : List Lit) (l : Lit) : Bool := (!l.1 && sameT l.2.1 l.2.2) || pre.any (fun k => sameLit k l)
/-- What the document has kept of the first ones. -/
def needD (c : List Lit) : Nat → List Lit
  | 0 => []
  | k + 1 => match c[k]? with
    | some x => if dropL (c.take k) x then needD c k else needD c k ++ [x]
    | none => needD c k
theorem needD_step {c : List Lit} {k : Nat} {x : Lit} (h : c[k]? = some x) : needD c (k + 1) = if dropL (c.take k) x then needD c k else needD c k ++ [x] := by rw [needD, h]
theorem sameS_iff {k l : Lit} : sameS k l = true ↔ (k.2.1 = l.2.1 ∧ k.2.2 = l.2.2) ∨ (k.2.1 = l.2.2 ∧ k.2.2 = l.2.1) := by
  rw [sameS, Bool.or_eq_true, Bool.and_eq_true, Bool.and_eq_true, sameT_iff, sameT_iff, sameT_iff, sameT_iff]
theorem sameLit_iff {k l : Lit} : sameLit k l = true ↔ k.1 = l.1 ∧ ((k.2.1 = l.2.1 ∧ k.2.2 = l.2.2) ∨ (k.2.1 = l.2.2 ∧ k.2.2 = l.2.1)) := by
  rw [sameLit, Bool.and_eq_true, beq_iff_eq, sameS_iff]
theorem sameLit_trans {j k l : Lit} (h1 : sameLit j k = true) (h2 : sameLit k l = true) : sameLit j l = true := by
  rw [sameLit_iff] at h1 h2 ⊢
  obtain ⟨a, b | b⟩ := h1
  · obtain ⟨c, d | d⟩ := h2
    · exact ⟨a.trans c, Or.inl ⟨b.1.trans d.1, b.2.trans d.2⟩⟩
    · exact ⟨a.trans c, Or.inr ⟨b.1.trans d.1, b.2.trans d.2⟩⟩
  · obtain ⟨c, d | d⟩ := h2
    · exact ⟨a.trans c, Or.inr ⟨b.1.trans d.2, b.2.trans d.1⟩⟩
    · exact ⟨a.trans c, Or.inl ⟨b.1.trans d.2, b.2.trans d.1⟩⟩
theorem keep_drop {c : List Lit} : ∀ (k : Nat), k ≤ c.length → ∀ l, keepL (needD c k) l = !dropL (c.take k) l := by
  intro k
  induction k with
  | zero =>
    intro _ l
    rw [List.take_zero, needD, keepL, dropL]
    cases l.1 <;> cases sameT l.2.1 l.2.2 <;> rfl
  | succ k ih =>
    intro hk l
    obtain ⟨x, hx⟩ : ∃ x, c[k]? = some x := ⟨c[k], List.getElem?_eq_getElem (by omega)⟩
    have ih' := ih (by omega)
    have hd : dropL (c.take (k + 1)) l = (dropL (c.take k) l || sameLit x l) := by
      rw [dropL, dropL, List.take_add_one, hx, List.any_append]
      simp [Bool.or_assoc]
    rw [hd, needD_step hx]
    by_cases h1 : dropL (c.take k) x = true
    · rw [if_pos h1, ih']
      by_cases h2 : sameLit x l = true
      · have h3 : dropL (c.take k) l = true := by
          rw [dropL, Bool.or_eq_true] at h1 ⊢
          rcases h1 with h1 | h1
          · refine Or.inl ?_
            rw [Bool.and_eq_true, sameT_iff] at h1 ⊢
            obtain ⟨e, q⟩ := sameLit_iff.1 h2
            refine ⟨by rw [← e]; exact h1.1, ?_⟩
            rcases q with q | q
            · rw [← q.1, ← q.2]; exact h1.2
            · rw [← q.1, ← q.2]; exact h1.2.symm
          · refine Or.inr ?_
            obtain ⟨j, hj, hj2⟩ := List.any_eq_true.1 h1
            exact List.any_eq_true.2 ⟨j, hj, sameLit_trans hj2 h2⟩
        rw [h3]; rfl
      · rw [show sameLit x l = false by simpa using h2, Bool.or_false]
    · rw [if_neg h1]
      have e : keepL (needD c k ++ [x]) l = (keepL (needD c k) l && !sameLit x l) := by
        rw [keepL, keepL, List.any_append]
        simp only [List.any_cons, List.any_nil, Bool.or_false, Bool.not_or]
        cases (needD c k).any (fun k => sameLit k l) <;> cases sameLit x l <;> simp
      rw [e, ih', Bool.not_or]
theorem need_doc {c : List Lit} : needD c c.length = needS [] c := by
  have h : ∀ k, k ≤ c.length → needS (needD c k) (c.drop k) = needS [] c := by
    intro k
    induction k with
    | zero => intro _; rw [List.drop_zero]; rfl
    | succ k ih =>
      intro hk
      obtain ⟨x, hx⟩ : ∃ x, c[k]? = some x := ⟨c[k], List.getElem?_eq_getElem (by omega)⟩
      rw [← ih (by omega), needS_step hx, needD_step hx, keep_drop k (by omega) x]
      cases dropL (c.take k) x <;> rfl
  have := h c.length (Nat.le_refl _)
  rw [List.drop_length] at this
  exact this

/-- Numbered are the variables as they first stand there. -/
theorem give_first {ar : List Int} : ∀ (N : Nat), (∀ (t : T) (ns : List Int), t.sz ≤ N → okP ar t → (giveT t ns).2 = (parts t).foldl firstStep ns) ∧ (∀ (ts : List T) (ns : List Int), T.sz.szL ts ≤ N → (∀ t, t ∈ ts → okP ar t) → (giveT.giveL ts ns).2 = (parts.partsL ts).foldl firstStep ns) := by
  intro N
  induction N with
  | zero =>
    refine ⟨fun t ns h => by have := t.sz_pos; omega, fun ts ns h _ => ?_⟩
    cases ts with
    | nil => rfl
    | cons t ts => have := t.sz_pos; rw [T.szL_cons] at h; omega
  | succ N ih =>
    have h1 : ∀ (t : T) (ns : List Int), t.sz ≤ N + 1 → okP ar t → (giveT t ns).2 = (parts t).foldl firstStep ns := fun t ns h ht => by
      have he := T.sz_eq t
      have e1 := ih.2 t.args (numL t.v ns) (by omega) (fun a ha => okArg ht ha)
      rw [giveT_eq]
      show (giveT.giveL t.args (numL t.v ns)).2 = _
      rw [parts_eq, List.foldl_append]
      show _ = firstStep ((parts.partsL t.args).foldl firstStep ns) t
      by_cases hv : t.v = 0
      · have e2 : numL t.v ns = ns := by rw [numL, if_pos (Or.inl hv)]
        rw [e1, e2, firstStep, if_neg (by omega)]
      · have hv0 : 0 < t.v := by
          have := var_rng _ t (Nat.le_refl _) ht t (by rw [parts_eq]; simp) hv
          omega
        have e3 : (parts.partsL t.args) = [] := by rw [(ok_var ht hv).2]; rfl
        rw [e1, e3]
        show numL t.v ns = firstStep ns t
        rw [numL, firstStep]
        by_cases hm : t.v ∈ ns
        · rw [if_pos (Or.inr hm), if_neg (by rw [not_and]; exact fun _ h => h hm)]
        · rw [if_neg (by rw [not_or]; exact ⟨hv, hm⟩), if_pos ⟨hv0, hm⟩]
    refine ⟨h1, fun ts => ?_⟩
    induction ts with
    | nil => intro ns _ _; rfl
    | cons t ts iht =>
      intro ns h ht
      rw [T.szL_cons] at h
      show (giveT.giveL ts (giveT t ns).2).2 = _
      rw [iht _ (by omega) (fun x hx => ht x (List.mem_cons_of_mem _ hx)), h1 t ns (by omega) (ht t List.mem_cons_self), partsL_cons, List.foldl_append]
theorem giveC_first {ar : List Int} : ∀ (c : List Lit) (ns : List Int), LitsOk ar c → (giveC c ns).2 = (parts.partsL (termsOf c)).foldl firstStep ns := by
  intro c
  induction c with
  | nil => intro ns _; rfl
  | cons x c ih =>
    intro ns h
    have hx := h x List.mem_cons_self
    show (giveC c (giveT x.2.2 (giveT x.2.1 ns).2).2).2 = _
    rw [ih _ (fun y hy => h y (List.mem_cons_of_mem _ hy)), (give_first _).1 _ _ (Nat.le_refl _) hx.2.2, (give_first _).1 _ _ (Nat.le_refl _) hx.1.2, termsOf, partsL_cons, partsL_cons, List.foldl_append, List.foldl_append]
theorem tidy_first {ar : List Int} {c : List Lit} (h : LitsOk ar c) : (giveC c []).2 = firstVars (termsOf c) := giveC_first c [] h

/-- The document's bindings of numbers anew. -/
def numB (L : List Int) : Nat → List (Int × T)
  | 0 => []
  | k + 1 => match L[k]? with
    | some v => numB L k ++ [(v, ⟨(k : Int) + 1, 0, []⟩)]
    | none => numB L k
theorem numB_step {L : List Int} {k : Nat} {v : Int} (h : L[k]? = some v) : numB L (k + 1) = numB L k ++ [(v, ⟨(k : Int) + 1, 0, []⟩)] := by rw [numB, h]
theorem numB_len {L : List Int} : ∀ (k : Nat), k ≤ L.length → (numB L k).length = k := by
  intro k
  induction k with
  | zero => intro _; rfl
  | succ k ih =>
    intro h
    rw [numB_step (List.getElem?_eq_getElem (by omega)), List.length_append, ih (by omega)]; rfl
theorem lookB_snoc2 {bs : List (Int × T)} {v w : Int} {u : T} : lookB (bs ++ [(w, u)]) v = match lookB bs v with
    | some x => some x
    | none => if w = v then some u else none := by
  induction bs with
  | nil => rfl
  | cons x bs ih =>
    obtain ⟨a, b⟩ := x
    rw [List.cons_append, lookB, lookB]
    split
    · rfl
    · exact ih
theorem numB_look {L : List Int} (hn : L.Nodup) : ∀ (k : Nat), k ≤ L.length → ∀ v, lookB (numB L k) v = if v ∈ L.take k then some ⟨(L.idxOf v : Int) + 1, 0, []⟩ else none := by
  intro k
  induction k with
  | zero => intro _ v; rw [List.take_zero, if_neg (by simp)]; rfl
  | succ k ih =>
    intro h v
    have hk := List.getElem?_eq_getElem (l := L) (i := k) (by omega)
    have hv : L.idxOf L[k] = k := List.Nodup.idxOf_getElem hn k (by omega)
    rw [numB_step hk, lookB_snoc2, ih (by omega) v, List.take_add_one, hk]
    have hm : v ∈ L.take k ++ (some L[k]).toList ↔ v ∈ L.take k ∨ v = L[k] := by rw [List.mem_append, Option.toList_some, List.mem_singleton]
    by_cases h1 : v ∈ L.take k
    · rw [if_pos h1, if_pos (hm.2 (Or.inl h1))]
    · rw [if_neg h1]
      by_cases h2 : L[k] = v
      · have h3 := hm.2 (Or.inr h2.symm)
        rw [if_pos h3]
        simp only
        rw [if_pos h2, ← h2, hv]
      · have h3 : ¬ v ∈ L.take k ++ (some L[k]).toList := fun h => (hm.1 h).elim h1 (fun e => h2 e.symm)
        rw [if_neg h3]
        simp only
        rw [if_neg h2]
theorem numB_ren {ar L : List Int} (hn : L.Nodup) {t : T} (ht : okP ar t) (hL : ∀ q, q ∈ parts t → q.v ≠ 0 → q.v ∈ L) : applyT (numB L L.length) t = sub (ren L) t := by
  rw [apply_sub _ t (Nat.le_refl _) ht]
  refine sub_congr _ t (Nat.le_refl _) (fun v h0 ho => ?_)
  obtain ⟨q, hq, rfl⟩ := occ_parts _ t (Nat.le_refl _) ho
  have hr := var_rng _ t (Nat.le_refl _) ht q hq h0
  rw [byB, putIn, if_pos (by omega), numB_look hn _ (Nat.le_refl _), List.take_length, if_pos (hL q hq h0)]
  rfl
/-- What the document tidies. -/
def tidyD (c : List Lit) : List Lit := mapC (applyT (numB (firstVars (termsOf (needD c c.length))) (firstVars (termsOf (needD c c.length))).length)) (needD c c.length)
theorem tidyD_eq {ar : List Int} {c : List Lit} (h : LitsOk ar c) : tidyD c = (giveC (needS [] c) []).1 := by
  have hno := need_ok h
  have hf := tidy_first hno
  obtain ⟨hnd, _⟩ := giveC_only (needS [] c) [] List.nodup_nil
  have hhas := giveC_has (needS [] c) []
  have e := giveC_ren (ar := ar) (needS [] c) [] [] hno
  rw [List.append_nil] at e
  rw [e, tidyD, need_doc, ← hf, mapC, mapC]
  refine List.map_congr_left (fun x hx => ?_)
  have hx' := hno x hx
  rw [numB_ren hnd hx'.1.2 (fun q hq => hhas x hx q (Or.inl hq)), numB_ren hnd hx'.2.2 (fun q hq => hhas x hx q (Or.inr hq))]

/-- The document's Always. -/
def alwaysD (c : List Lit) : Bool := c.any (fun l => l.1 && (sameT l.2.1 l.2.2 || c.any (fun k => !k.1 && sameS l k)))
theorem sameS_comm (k l : Lit) : sameS k l = sameS l k := by
  rw [Bool.eq_iff_iff, sameS_iff, sameS_iff]
  constructor
  · rintro (h | h)
    · exact Or.inl ⟨h.1.symm, h.2.symm⟩
    · exact Or.inr ⟨h.2.symm, h.1.symm⟩
  · rintro (h | h)
    · exact Or.inl ⟨h.1.symm, h.2.symm⟩
    · exact Or.inr ⟨h.2.symm, h.1.symm⟩
theorem alwaysD_eq (c : List Lit) : alwaysD c = alwaysB c := by
  rw [alwaysD, alwaysB]
  congr 1
  funext l
  rw [deniedS]
  congr 3
  funext k
  rw [sameS_comm]

theorem grow_sound {ar : List Int} {θ : Int → T} : ∀ (n : Nat) (p t : T) (bs b2 : List (Int × T)), p.sz ≤ n → okP ar p → growT p t bs = some b2 → (∀ v u, lookB b2 v = some u → θ v = u) → sub θ p = t := by
  intro n
  induction n with
  | zero => intro p t bs b2 h; have := p.sz_pos; omega
  | succ n ih =>
    intro p t bs b2 h hp hg hb
    have hpe := T.sz_eq p
    rw [growT_eq] at hg
    by_cases hv : p.v ≠ 0
    · rw [if_pos hv] at hg
      rw [sub_var hv]
      cases hl : lookB bs p.v with
      | some u =>
        rw [hl] at hg
        by_cases hs : sameT u t = true
        · simp only [hs, if_true, Option.some.injEq] at hg
          subst hg
          rw [hb _ _ hl, sameT_iff.1 hs]
        · simp only [hs] at hg; cases hg
      | none =>
        rw [hl] at hg
        simp only [Option.some.injEq] at hg
        subst hg
        exact hb _ _ (lookB_last hl)
    · rw [if_neg hv] at hg
      have hv0 : p.v = 0 := by omega
      by_cases h2 : t.v ≠ 0 ∨ p.f ≠ t.f
      · rw [if_pos h2] at hg; cases hg
      · rw [if_neg h2] at hg
        rw [not_or] at h2
        have ht0 : t.v = 0 := by have := h2.1; omega
        have htf : p.f = t.f := Decidable.not_not.1 h2.2
        have hA : ∀ (ps ts : List T) (bs b2 : List (Int × T)), (∀ a, a ∈ ps → a.sz ≤ n ∧ okP ar a) → growT.growL ps ts bs = some b2 → (∀ v u, lookB b2 v = some u → θ v = u) → ps.map (sub θ) = ts := by
          intro ps
          induction ps with
          | nil =>
            intro ts bs b2 _ hg _
            cases ts with
            | nil => rfl
            | cons t ts => cases hg
          | cons a ps ihp =>
            intro ts bs b2 ha hg hb
            cases ts with
            | nil => cases hg
            | cons t ts =>
              rw [growL_cons] at hg
              cases h1 : growT a t bs with
              | none => rw [h1] at hg; cases hg
              | some b1 =>
                rw [h1] at hg
                have hrest := fun x (hx : x ∈ ps) => ha x (List.mem_cons_of_mem _ hx)
                obtain ⟨q1, _, _⟩ := (grow_dom (ar := ar) (T.sz.szL ps)).2 ps ts b1 b2 (Nat.le_refl _) (okL_mem.2 fun x hx => (hrest x hx).2) hg
                rw [List.map_cons, ih a t bs b1 (ha a List.mem_cons_self).1 (ha a List.mem_cons_self).2 h1 (fun v u hu => hb v u (q1 v u hu)), ihp ts b1 b2 hrest hg hb]
        have e := hA p.args t.args bs b2 (fun a ha => ⟨by have := arg_sz ha; omega, okArg hp ha⟩) hg hb
        rw [sub_fn hv0, e, htf]
        cases t; simp only at ht0; rw [ht0]
def turnL (x : Lit) : Lit := (x.1, x.2.2, x.2.1)
/-- A literal made another one by bindings that are there. -/
def tryF (l x : Lit) (b : List (Int × T)) : Option (List (Int × T)) := if x.1 = l.1 then (match growT l.2.1 x.2.1 b with | some m => growT l.2.2 x.2.2 m | none => none) else none
def nextF (g : List (Int × T) → Bool) (o : Option (List (Int × T))) : Bool := match o with | some m => g m | none => false
/-- The document's covering. -/
def coversF (d : List Lit) : List Lit → List (Int × T) → Bool
  | [], _ => true
  | l :: c, b => d.any (fun k => nextF (coversF d c) (tryF l k b) || nextF (coversF d c) (tryF l (turnL k) b))
theorem try_sound {ar : List Int} {θ : Int → T} {l x : Lit} {b m : List (Int × T)} (hA : okP ar l.2.1) (hB : okP ar l.2.2) (h : tryF l x b = some m) (hm : ∀ v u, lookB m v = some u → θ v = u) : x.1 = l.1 ∧ (∀ v u, lookB b v = some u → θ v = u) ∧ sub θ l.2.1 = x.2.1 ∧ sub θ l.2.2 = x.2.2 := by
  rw [tryF] at h
  split at h
  · rename_i e
    cases h1 : growT l.2.1 x.2.1 b with
    | none => rw [h1] at h; cases h
    | some m1 =>
      rw [h1] at h
      have h' : growT l.2.2 x.2.2 m1 = some m := h
      obtain ⟨q1, _, _⟩ := (grow_dom (ar := ar) _).1 l.2.1 x.2.1 b m1 (Nat.le_refl _) hA h1
      obtain ⟨q2, _, _⟩ := (grow_dom (ar := ar) _).1 l.2.2 x.2.2 m1 m (Nat.le_refl _) hB h'
      have hm1 : ∀ v u, lookB m1 v = some u → θ v = u := fun v u hu => hm v u (q2 v u hu)
      exact ⟨e, fun v u hu => hm1 v u (q1 v u hu), grow_sound _ _ _ _ _ (Nat.le_refl _) hA h1 hm1, grow_sound _ _ _ _ _ (Nat.le_refl _) hB h' hm⟩
  · cases h
theorem try_theta {ar : List Int} {θ : Int → T} {l x : Lit} {b : List (Int × T)} (hA : okP ar l.2.1) (hB : okP ar l.2.2) (he : x.1 = l.1) (hb : ∀ v u, lookB b v = some u → θ v = u) (h1 : sub θ l.2.1 = x.2.1) (h2 : sub θ l.2.2 = x.2.2) : ∃ m, tryF l x b = some m ∧ ∀ v u, lookB m v = some u → θ v = u := by
  obtain ⟨m1, g1, a1⟩ := grow_theta _ l.2.1 x.2.1 b (Nat.le_refl _) hA h1 hb
  obtain ⟨m2, g2, a2⟩ := grow_theta _ l.2.2 x.2.2 m1 (Nat.le_refl _) hB h2 a1
  exact ⟨m2, by rw [tryF, if_pos he, g1]; exact g2, a2⟩
theorem covers_doc {ar : List Int} {d : List Lit} : ∀ (c : List Lit) (b : List (Int × T)), LitsOk ar c → (coversF d c b = true ↔ ∃ θ : Int → T, (∀ v u, lookB b v = some u → θ v = u) ∧ Covers θ c d) := by
  intro c
  induction c with
  | nil =>
    intro b _
    refine ⟨fun _ => ⟨fun v => (lookB b v).getD ⟨1, 0, []⟩, (fun v u hu => (by show (lookB b v).getD _ = u; rw [hu]; rfl)), (fun l hl => (by cases hl))⟩, fun _ => rfl⟩
  | cons l c ih =>
    intro b hc
    have hl := hc l List.mem_cons_self
    have hc' : LitsOk ar c := fun x hx => hc x (List.mem_cons_of_mem _ hx)
    rw [coversF, List.any_eq_true]
    constructor
    · rintro ⟨k, hk, h⟩
      have hx : ∃ x m, (x = k ∨ x = turnL k) ∧ tryF l x b = some m ∧ coversF d c m = true := by
        rw [Bool.or_eq_true] at h
        rcases h with h | h
        · cases ht : tryF l k b with
          | none => rw [ht] at h; cases h
          | some m => rw [ht] at h; exact ⟨k, m, Or.inl rfl, ht, h⟩
        · cases ht : tryF l (turnL k) b with
          | none => rw [ht] at h; cases h
          | some m => rw [ht] at h; exact ⟨_, m, Or.inr rfl, ht, h⟩
      obtain ⟨x, m, hxk, ht, hm⟩ := hx
      obtain ⟨θ, hθ, hcov⟩ := (ih m hc').1 hm
      obtain ⟨e, q1, q2, q3⟩ := try_sound hl.1.2 hl.2.2 ht hθ
      refine ⟨θ, q1, fun y hy => ?_⟩
      rcases List.mem_cons.1 hy with rfl | hy
      · rcases hxk with rfl | rfl
        · exact ⟨_, hk, e, Or.inl ⟨q2, q3⟩⟩
        · exact ⟨k, hk, e, Or.inr ⟨q2, q3⟩⟩
      · exact hcov y hy
    · rintro ⟨θ, hb, hcov⟩
      obtain ⟨k, hk, e, hkk⟩ := hcov l List.mem_cons_self
      have hcov' : Covers θ c d := fun y hy => hcov y (List.mem_cons_of_mem _ hy)
      refine ⟨k, hk, ?_⟩
      rw [Bool.or_eq_true]
      rcases hkk with ⟨q1, q2⟩ | ⟨q1, q2⟩
      · obtain ⟨m, hm, hθ⟩ := try_theta hl.1.2 hl.2.2 e hb q1 q2
        exact Or.inl (by rw [hm]; exact (ih m hc').2 ⟨θ, hθ, hcov'⟩)
      · obtain ⟨m, hm, hθ⟩ := try_theta (x := turnL k) hl.1.2 hl.2.2 e hb q1 q2
        exact Or.inr (by rw [hm]; exact (ih m hc').2 ⟨θ, hθ, hcov'⟩)
/-- The program's answer is the document's. -/
theorem subs_doc {ar : List Int} {c d : List Lit} {yes : Bool} {err : Int} (h : SubS ar c d yes err) : err = clausesErr ar [c, d] ∧ yes = if clausesErr ar [c, d] = 0 then coversF d c [] else false := by
  obtain ⟨h1, h2, h3⟩ := subs_iff h
  refine ⟨h1, ?_⟩
  by_cases he : clausesErr ar [c, d] = 0
  · rw [if_pos he, Bool.eq_iff_iff, h3 he, covers_doc c [] ((clauses_each he).2.2 c (by simp)).2]
    exact ⟨fun ⟨θ, h⟩ => ⟨θ, (fun v u hu => (by cases hu)), h⟩, fun ⟨θ, _, h⟩ => ⟨θ, h⟩⟩
  · rw [if_neg he]; exact h2 he
end Go.Proofs.YtbkedppkdhfpoabGreat

namespace Go.Proofs.YtbkedppkdhfpoabGreat
open Go.RowKit

set_option maxRecDepth 100000 in
set_option maxHeartbeats 1000000 in
theorem refCheckClause_any (ar : List Int) (ga : Option Addr) (gcap : Nat) (c : List Lit) (ca : Option Addr) (cc : Nat) (w : World) (hgl : ar.length ≤ 12) (hg : Ints w ar ga) (hl : c.length ≤ 9223372036854775807) (hc : LitsP w c ca) :
    Calls Tryz.prog 51 #[.agg #[.slice ga ar.length gcap], .slice ca c.length cc] w fun e w' => e = .returned (.int .i64 (clauseErr ar c)) ∧ Below w.heap.size w w' := by
  obtain ⟨Z, hZ⟩ : ∃ Z, Z = clauseErr ar c := ⟨_, rfl⟩
  rw [← hZ]
  have HZ := hide hZ
  have Hg := hide hg
  have Hc := hide hc
  clear hZ hg hc
  go_enter Tryz.func51, Tryz.ntmps51
  by_cases h8 : 8 < c.length
  · obtain rfl : Z = 2 := by rw [HZ.out, clauseErr, if_pos h8]
    have e8 : (8 : Int) < c.length := by omega
    clear HZ h8
    go_wp2_with fail
    go_ret
    exact ⟨rfl, below1 _ _⟩
  · have HZ1 : Hid (Z = litsErr ar c) := by show _ = _; rw [HZ.out, clauseErr, if_neg h8]
    have e8 : ¬ (8 : Int) < c.length := by omega
    have cg0 : ∀ o, o = Obj.cells #[.slice ga ar.length gcap] 24 → (w.alloc o).cell? ⟨w.heap.size, 0, none⟩ = some (.slice ga ar.length gcap) := fun o ho => by rw [ho]; exact cell_new 0 rfl
    have Hcg0 := hide (cg0 _ rfl)
    clear HZ cg0
    go_wp2_with fail
    go_loopw [5] (fun i wr => ∃ k : Nat, k ≤ c.length ∧ i = .int .i64 k ∧ Hid (Z = litsErr ar (c.drop k)) ∧ Hid (Below (w.heap.size + 1) (w.alloc (.cells #[.slice ga ar.length gcap] 24)) wr)) (fun i _ => c.length - (intOf i).toNat)
    case atStart => exact ⟨0, Nat.zero_le _, rfl, by rw [List.drop_zero]; exact HZ1, Below.refl _ _⟩
    case round =>
      obtain ⟨k, hk, rfl, Hk, Hbr⟩ := hrel
      have hzr := Hbr.out.size
      rw [World.size_alloc] at hzr
      have Hbw := hide ((below1 w (.cells #[.slice ga ar.length gcap] 24)).trans (Hbr.out.mono (by omega)))
      have cg : wr.cell? ⟨w.heap.size, 0, none⟩ = some (.slice ga ar.length gcap) := by rw [Hbr.out.cell (p := ⟨w.heap.size, 0, none⟩) (by show w.heap.size < w.heap.size + 1; omega)]; exact Hcg0.out
      by_cases hlt : k < c.length
      · obtain ⟨b, off, rfl⟩ := LitsP_some Hc.out (by omega)
        obtain ⟨x, hx⟩ : ∃ x, c[k]? = some x := ⟨c[k], List.getElem?_eq_getElem hlt⟩
        obtain ⟨a1, c1, a2, c2, k0, k1, k2, k3, k4, k5, k6, hi1, hi2⟩ := LitsP_at (LitsP_below Hbw.out Hc.out) hx
        have hst := litsErr_drop (ar := ar) hx
        rw [← Hk.out] at hst
        have q2 : off + k * 7 + 1 + 1 = off + k * 7 + 2 := by omega
        have q3 : off + k * 7 + 1 + 2 = off + k * 7 + 3 := by omega
        have q5 : off + k * 7 + 4 + 1 = off + k * 7 + 5 := by omega
        have q6 : off + k * 7 + 4 + 2 = off + k * 7 + 6 := by omega
        rw [← q2] at k2
        rw [← q3] at k3
        rw [← q5] at k5
        rw [← q6] at k6
        have HC1 := hide (refCheckTerm_any ar ga gcap x.2.1 a1 c1 wr.drew (Ints_below (drewB0 wr) (Ints_below Hbw.out Hg.out)) hgl (InP_below (drewB0 wr) hi1))
        obtain ⟨F1, hF1⟩ : ∃ F, F = termErr ar x.2.1 := ⟨_, rfl⟩
        obtain ⟨F2, hF2⟩ : ∃ F, F = termErr ar x.2.2 := ⟨_, rfl⟩
        rw [← hF1] at HC1 hst
        rw [← hF2] at hst
        have Hst := hide hst
        have HF2 := hide hF2
        have Hi2 := hide hi2
        have hkI : (k : Int) < c.length := by omega
        have hk0 : (0 : Int) ≤ k := by omega
        have hS := hide (fun (w' : World) (hb' : Below wr.heap.size wr w') => (show w'.cell? ⟨w.heap.size, 0, none⟩ = some (.slice ga ar.length gcap) ∧ w'.cell? ⟨b, off + k * 7 + 1, none⟩ = some (.int .i64 x.2.1.v) ∧ w'.cell? ⟨b, off + k * 7 + 1 + 1, none⟩ = some (.int .i64 x.2.1.f) ∧ w'.cell? ⟨b, off + k * 7 + 1 + 2, none⟩ = some (.slice a1 x.2.1.args.length c1) ∧ w'.cell? ⟨b, off + k * 7 + 4, none⟩ = some (.int .i64 x.2.2.v) ∧ w'.cell? ⟨b, off + k * 7 + 4 + 1, none⟩ = some (.int .i64 x.2.2.f) ∧ w'.cell? ⟨b, off + k * 7 + 4 + 2, none⟩ = some (.slice a2 x.2.2.args.length c2) from
          ⟨cellB hb' cg, cellB hb' k1, cellB hb' k2, cellB hb' k3, cellB hb' k4, cellB hb' k5, cellB hb' k6⟩))
        have Hbwr := hide (Below.refl wr.heap.size wr)
        have hS1 := hide (hS.out wr.drew (drewB0 wr))
        have hS0 := hide (hS.out wr Hbwr.out)
        clear hst hx hi1 hi2 hF1 hF2 Hk q2 q3 q5 q6 k0 k1 k2 k3 k4 k5 k6 cg
        go_wp2_with fail
        go_region_held3 (fun w' => w'.cell? ⟨w.heap.size, 0, none⟩ = some (.slice ga ar.length gcap) ∧ w'.cell? ⟨b, off + k * 7 + 1, none⟩ = some (.int .i64 x.2.1.v) ∧ w'.cell? ⟨b, off + k * 7 + 1 + 1, none⟩ = some (.int .i64 x.2.1.f) ∧ w'.cell? ⟨b, off + k * 7 + 1 + 2, none⟩ = some (.slice a1 x.2.1.args.length c1) ∧ w'.cell? ⟨b, off + k * 7 + 4, none⟩ = some (.int .i64 x.2.2.v) ∧ w'.cell? ⟨b, off + k * 7 + 4 + 1, none⟩ = some (.int .i64 x.2.2.f) ∧ w'.cell? ⟨b, off + k * 7 + 4 + 2, none⟩ = some (.slice a2 x.2.2.args.length c2)) ((first | with_reducible exact hS.out _ (Hid.out Hbw2) | with_reducible exact hS1.out | with_reducible exact hS0.out | go_keep)) ((
          go_at_call 118
          refine HC1.out.mono ?_
          rintro e w2 ⟨rfl, hbw2⟩
          have Hbw2 : Hid (Below wr.heap.size wr w2) := (drewB0 wr).trans hbw2))
        clear hS1 hS0 HC1
        have Hb2 := hide (Hbr.out.trans (Hbw2.out.mono hzr))
        have Hbf := hide (Hbw.out.trans (Hbw2.out.mono Hbw.out.size))
        clear hbw2
        by_cases h1 : F1 = 0
        · have Hs2 : Hid (Z = if F2 = 0 then litsErr ar (c.drop (k + 1)) else F2) := by show _ = _; rw [Hst.out, if_pos h1]
          subst h1
          have HC2 := hide (refCheckTerm_any ar ga gcap x.2.2 a2 c2 w2.drew (Ints_below (drewB0 w2) (Ints_below Hbf.out Hg.out)) hgl (InP_below (drewB0 w2) (InP_below Hbw2.out Hi2.out)))
          rw [← HF2.out] at HC2
          have hS1 := hide (hS.out w2.drew (Hbw2.out.trans ((drewB0 w2).mono Hbw2.out.size)))
          have hS0 := hide (hS.out w2 Hbw2.out)
          clear Hst
          go_wp2_with fail
          go_region_held3 (fun w' => w'.cell? ⟨w.heap.size, 0, none⟩ = some (.slice ga ar.length gcap) ∧ w'.cell? ⟨b, off + k * 7 + 1, none⟩ = some (.int .i64 x.2.1.v) ∧ w'.cell? ⟨b, off + k * 7 + 1 + 1, none⟩ = some (.int .i64 x.2.1.f) ∧ w'.cell? ⟨b, off + k * 7 + 1 + 2, none⟩ = some (.slice a1 x.2.1.args.length c1) ∧ w'.cell? ⟨b, off + k * 7 + 4, none⟩ = some (.int .i64 x.2.2.v) ∧ w'.cell? ⟨b, off + k * 7 + 4 + 1, none⟩ = some (.int .i64 x.2.2.f) ∧ w'.cell? ⟨b, off + k * 7 + 4 + 2, none⟩ = some (.slice a2 x.2.2.args.length c2)) ((first | with_reducible exact hS.out _ (Hid.out Hbw3) | with_reducible exact hS1.out | with_reducible exact hS0.out | go_keep)) ((
            go_at_call 118
            refine HC2.out.mono ?_
            rintro e w3 ⟨rfl, hbw3⟩
            have Hbw3 : Hid (Below wr.heap.size wr w3) := Hbw2.out.trans (((drewB0 w2).trans hbw3).mono Hbw2.out.size)))
          clear hS1 hS0 HC2 hbw3
          have Hb3 := hide (Hbr.out.trans (Hbw3.out.mono hzr))
          have Hbf3 := hide (Hbw.out.trans (Hbw3.out.mono Hbw.out.size))
          by_cases h2 : F2 = 0
          · have Hs3 : Hid (Z = litsErr ar (c.drop (k + 1))) := by show _ = _; rw [Hs2.out, if_pos h2]
            subst h2
            clear Hs2
            go_wp2_with fail
            go_roundw
            case rel => exact ⟨k + 1, by omega, by go_num, Hs3, Hb3⟩
            case measure => simp [intOf]; omega
          · have h2b : (F2 != 0) = true := by simpa using h2
            obtain rfl : Z = F2 := by rw [Hs2.out, if_neg h2]
            clear Hs2 h2
            go_wp2_with fail
            go_ret
            exact ⟨rfl, Hbf3.out⟩
        · have h1b : (F1 == 0) = false := by simpa using h1
          have h1c : (F1 != 0) = true := by simpa using h1
          obtain rfl : Z = F1 := by rw [Hst.out, if_neg h1]
          clear Hst h1 hS
          go_wp2_with fail
          go_ret
          exact ⟨rfl, Hbf.out⟩
      · have hk2 : k = c.length := by omega
        subst hk2
        obtain rfl : Z = 0 := by rw [Hk.out, List.drop_length]; rfl
        clear Hk
        go_wp2_with fail
        go_ret
        exact ⟨rfl, Hbw.out⟩

set_option maxRecDepth 100000 in
set_option maxHeartbeats 1000000 in
theorem refCheckClauses_any (ar : List Int) (ga : Option Addr) (gcap : Nat) (cs : List (List Lit)) (la : Option Addr) (lc : Nat) (w : World) (hg : Ints w ar ga) (hl : cs.length ≤ 9223372036854775807) (hcl : ∀ c, c ∈ cs → c.length ≤ 9223372036854775807) (hc : ClausesP w cs la) :
    Calls Tryz.prog 15 #[.agg #[.slice ga ar.length gcap], .slice la cs.length lc] w fun e w' => e = .returned (.int .i64 (clausesErr ar cs)) ∧ Below w.heap.size w w' := by
  have H1 := hide (fun o => checkSignature_any ar ga gcap (w.alloc o) (Ints_alloc o hg))
  obtain ⟨E, hE⟩ : ∃ E, E = sigErr ar := ⟨_, rfl⟩
  obtain ⟨Z, hZ⟩ : ∃ Z, Z = clausesErr ar cs := ⟨_, rfl⟩
  rw [← hE] at H1
  rw [← hZ]
  have HE := hide hE
  have HZ := hide hZ
  have Hg := hide hg
  have Hc := hide hc
  have Hcl := hide hcl
  clear hE hZ hg hc hcl
  go_enter Tryz.func15, Tryz.ntmps15
  go_wp2_with fail
  refine (H1.out _).mono ?_
  rintro e w1 ⟨rfl, hb1⟩
  have hz1 : w.heap.size + 1 ≤ w1.heap.size := by have := hb1.size; simp at this; omega
  have hbw : Below w.heap.size w w1 := (below1 _ _).trans (hb1.mono (by simp))
  have cg : w1.cell? ⟨w.heap.size, 0, none⟩ = some (.slice ga ar.length gcap) := by
    rw [hb1.cell (p := ⟨w.heap.size, 0, none⟩) (by simp)]; exact cell_new 0 rfl
  have Hbw := hide hbw
  clear hb1 hbw H1
  by_cases h0 : E = 0
  · have HZ1 : Hid (Z = if 60 < cs.length then 2 else clErr ar cs) := by show _ = _; rw [HZ.out, clausesErr, if_pos (HE.out.symm.trans h0)]
    have Hsig := hide (HE.out.symm.trans h0)
    have h12 := sig_short Hsig.out
    subst h0
    by_cases h60 : 60 < cs.length
    · obtain rfl : Z = 2 := by rw [HZ1.out, if_pos h60]
      have e60 : (60 : Int) < cs.length := by omega
      have hp : (0 : Int) < cs.length := by omega
      clear HZ1 HZ HE Hsig h60
      go_wp2_with fail
      go_loopw [5, 6] (fun ev iv wr => ev = .int .i64 2 ∧ iv = .int .i64 0 ∧ Hid (wr = w1)) (fun _ _ _ => 0)
      case atStart => exact ⟨rfl, rfl, rfl⟩
      case round =>
        obtain ⟨rfl, rfl, hw⟩ := hrel
        obtain rfl := (show w1 = _ from Eq.symm hw)
        go_wp2_with fail
        go_ret
        exact ⟨rfl, Hbw.out⟩
    · have HZ2 : Hid (Z = clErr ar cs) := by show _ = _; rw [HZ1.out, if_neg h60]
      have e60 : ¬ (60 : Int) < cs.length := by omega
      clear HZ1 HZ HE
      go_wp2_with fail
      go_loopw [5, 6] (fun ev iv wr => ∃ (k : Nat) (F : Int), k ≤ cs.length ∧ iv = .int .i64 k ∧ ev = .int .i64 F ∧ Hid (Z = if F = 0 then clErr ar (cs.drop k) else F) ∧ Hid (Below w1.heap.size w1 wr)) (fun _ iv _ => cs.length - (intOf iv).toNat)
      case atStart => exact ⟨0, 0, Nat.zero_le _, rfl, rfl, by rw [List.drop_zero, if_pos rfl]; exact HZ2, Below.refl _ _⟩
      case round =>
        obtain ⟨k, F, hk, rfl, rfl, HZk, Hbr⟩ := hrel
        have Hbf := hide (Hbw.out.trans (Hbr.out.mono Hbw.out.size))
        have hzr := Hbr.out.size
        by_cases hF : F = 0
        · have HZ3 : Hid (Z = clErr ar (cs.drop k)) := by show _ = _; rw [HZk.out, if_pos hF]
          subst hF
          clear HZk
          by_cases hlt : k < cs.length
          · obtain ⟨b, off, rfl⟩ := ClausesP_some Hc.out (by omega)
            obtain ⟨c, hx⟩ : ∃ c, cs[k]? = some c := ⟨cs[k], List.getElem?_eq_getElem hlt⟩
            obtain ⟨ca, cc, kc, hlc⟩ := ClausesP_at (ClausesP_below Hbf.out Hc.out) hx
            have hst := clErr_drop (ar := ar) hx
            rw [← HZ3.out] at hst
            have hkI : (k : Int) < cs.length := by omega
            have hk0 : (0 : Int) ≤ k := by omega
            have cgr := cellB Hbr.out cg
            have hS := hide (fun (w' : World) (hb' : Below wr.heap.size wr w') => (show w'.cell? ⟨w.heap.size, 0, none⟩ = some (.slice ga ar.length gcap) ∧ w'.cell? ⟨b, off + k, none⟩ = some (.slice ca c.length cc) from ⟨cellB hb' cgr, cellB hb' kc⟩))
            have HX1 := hide (refCheckClause_any ar ga gcap c ca cc wr.drew h12 (Ints_below (drewB0 wr) (Ints_below Hbf.out Hg.out)) (Hcl.out c (List.mem_of_getElem? hx)) (LitsP_below (drewB0 wr) hlc))
            obtain ⟨G, hG⟩ : ∃ G, G = clauseErr ar c := ⟨_, rfl⟩
            rw [← hG] at HX1 hst
            have Hst := hide hst
            have Hbwr := hide (Below.refl wr.heap.size wr)
            have hS1 := hide (hS.out wr.drew (drewB0 wr))
            have hS0 := hide (hS.out wr Hbwr.out)
            clear hst hx hlc HZ3 hG kc cgr
            go_wp2_with fail
            go_region_held3 (fun w' => w'.cell? ⟨w.heap.size, 0, none⟩ = some (.slice ga ar.length gcap) ∧ w'.cell? ⟨b, off + k, none⟩ = some (.slice ca c.length cc)) ((first | with_reducible exact hS.out _ (Hid.out Hbw2) | with_reducible exact hS1.out | with_reducible exact hS0.out | go_keep)) ((
              go_at_call 51
              refine HX1.out.mono ?_
              rintro e w2 ⟨rfl, hbw2⟩
              have Hbw2 : Hid (Below wr.heap.size wr w2) := (drewB0 wr).trans hbw2))
            have Hb2 := hide (Hbr.out.trans (Hbw2.out.mono hzr))
            have Hs3 : Hid (Z = if G = 0 then clErr ar (cs.drop (k + 1)) else G) := Hst
            clear hS1 hS0 HX1 hbw2 Hst
            go_wp2_with fail
            go_roundw
            case rel => exact ⟨k + 1, G, by omega, by go_num, rfl, Hs3, Hb2⟩
            case measure => simp [intOf]; omega
          · have hk2 : k = cs.length := by omega
            subst hk2
            obtain rfl : Z = 0 := by rw [HZ3.out, List.drop_length]; rfl
            clear HZ3
            go_wp2_with fail
            go_ret
            exact ⟨rfl, Hbf.out⟩
        · obtain rfl : Z = F := by rw [HZk.out, if_neg hF]
          have hFb : (Z == 0) = false := by simpa using hF
          clear HZk hF
          by_cases hlt : k < cs.length
          · have hkI : (k : Int) < cs.length := by omega
            go_wp2_with fail
            go_ret
            exact ⟨rfl, Hbf.out⟩
          · have hkI : ¬ (k : Int) < cs.length := by omega
            go_wp2_with fail
            go_ret
            exact ⟨rfl, Hbf.out⟩
  · have h0b : (E == 0) = false := by simpa using h0
    obtain rfl : Z = E := by rw [HZ.out, clausesErr, if_neg (fun h => h0 (HE.out.trans h)), HE.out]
    clear HZ HE h0
    go_wp2_with fail
    go_loopw [5, 6] (fun ev iv wr => ev = .int .i64 Z ∧ iv = .int .i64 0 ∧ Hid (wr = w1)) (fun _ _ _ => 0)
    case atStart => exact ⟨rfl, rfl, rfl⟩
    case round =>
      obtain ⟨rfl, rfl, hw⟩ := hrel
      obtain rfl := (show w1 = _ from Eq.symm hw)
      by_cases hlt : (0 : Int) < cs.length
      · go_wp2_with fail
        go_ret
        exact ⟨rfl, Hbw.out⟩
      · go_wp2_with fail
        go_ret
        exact ⟨rfl, Hbw.out⟩

end Go.Proofs.YtbkedppkdhfpoabGreat

namespace Go.Proofs.YtbkedppkdhfpoabGreat
open Go.RowKit

/-- The cells of a literal, as its sides are read. -/
def At7 (w : World) (b o : Nat) (x : Lit) (a1 : Option Addr) (c1 : Nat) (a2 : Option Addr) (c2 : Nat) : Prop :=
  w.cell? ⟨b, o, none⟩ = some (.bool x.1) ∧ w.cell? ⟨b, o + 1, none⟩ = some (.int .i64 x.2.1.v) ∧ w.cell? ⟨b, o + 1 + 1, none⟩ = some (.int .i64 x.2.1.f) ∧ w.cell? ⟨b, o + 1 + 2, none⟩ = some (.slice a1 x.2.1.args.length c1) ∧ w.cell? ⟨b, o + 4, none⟩ = some (.int .i64 x.2.2.v) ∧ w.cell? ⟨b, o + 4 + 1, none⟩ = some (.int .i64 x.2.2.f) ∧ w.cell? ⟨b, o + 4 + 2, none⟩ = some (.slice a2 x.2.2.args.length c2)
theorem At7.below {w w' : World} {b o : Nat} {x : Lit} {a1 : Option Addr} {c1 : Nat} {a2 : Option Addr} {c2 : Nat} (h : At7 w b o x a1 c1 a2 c2) (hb : Below w.heap.size w w') : At7 w' b o x a1 c1 a2 c2 := by
  obtain ⟨h0, h1, h2, h3, h4, h5, h6⟩ := h
  exact ⟨cellB hb h0, cellB hb h1, cellB hb h2, cellB hb h3, cellB hb h4, cellB hb h5, cellB hb h6⟩
theorem LitsP_at7 {w : World} {c : List Lit} {b off k : Nat} {x : Lit} (h : LitsP w c (some ⟨b, off, none⟩)) (hx : c[k]? = some x) : ∃ a1 c1 a2 c2, At7 w b (off + k * 7) x a1 c1 a2 c2 ∧ InL w x.2.1.args a1 ∧ InL w x.2.2.args a2 := by
  obtain ⟨a1, c1, a2, c2, k0, k1, k2, k3, k4, k5, k6, hi1, hi2⟩ := LitsP_at h hx
  exact ⟨a1, c1, a2, c2, ⟨k0, k1, k2, k3, k4, k5, k6⟩, hi1, hi2⟩
attribute [local go_sem ↓] Go.wp_at_zero Go.wp_at_succ
set_option maxRecDepth 100000 in
set_option maxHeartbeats 2000000 in
theorem sameClause_same (c : List Lit) (ca : Option Addr) (cc : Nat) (da : Option Addr) (dc : Nat) (w : World) (hl : c.length ≤ 1000) (hsz : ∀ x, x ∈ c → LitSz x) (h1 : LitsP w c ca) (h2 : LitsP w c da) :
    Calls Tryz.prog 64 #[.slice ca c.length cc, .slice da c.length dc] w fun e w' => e = .returned (.bool true) ∧ Below w.heap.size w w' := by
  have H1 := hide h1
  have H2 := hide h2
  have Hsz := hide hsz
  clear h1 h2 hsz
  go_enter Tryz.func64, Tryz.ntmps64
  go_wp2_with fail
  go_loopw [5] (fun i wr => ∃ k : Nat, k ≤ c.length ∧ i = .int .i64 k ∧ Hid (Below w.heap.size w wr)) (fun i _ => c.length - (intOf i).toNat)
  case atStart => exact ⟨0, Nat.zero_le _, rfl, Below.refl _ _⟩
  case round =>
    obtain ⟨k, hk, rfl, Hb⟩ := hrel
    by_cases hlt : k < c.length
    · obtain ⟨b, off, rfl⟩ := LitsP_some H1.out (by omega)
      obtain ⟨b', off', rfl⟩ := LitsP_some H2.out (by omega)
      obtain ⟨x, hx⟩ : ∃ x, c[k]? = some x := ⟨c[k], List.getElem?_eq_getElem hlt⟩
      obtain ⟨a1, c1, a2, c2, hA, i1, i2⟩ := LitsP_at7 (LitsP_below Hb.out H1.out) hx
      obtain ⟨b1, d1, b2, d2, hB, j1, j2⟩ := LitsP_at7 (LitsP_below Hb.out H2.out) hx
      have hz := Hsz.out x (List.mem_of_getElem? hx)
      have HSa := hide (fun (w' : World) (hb : Below wr.heap.size wr w') => sameTerm_any 1001 x.2.1 x.2.1 a1 c1 b1 d1 w' (by have := hz.1; omega) hz.1 (InP_below hb i1) (InP_below hb j1))
      have HSb := hide (fun (w' : World) (hb : Below wr.heap.size wr w') => sameTerm_any 1001 x.2.2 x.2.2 a2 c2 b2 d2 w' (by have := hz.2; omega) hz.2 (InP_below hb i2) (InP_below hb j2))
      rw [sameT_iff.2 (rfl : x.2.1 = x.2.1)] at HSa
      rw [sameT_iff.2 (rfl : x.2.2 = x.2.2)] at HSb
      have HA := hide hA
      have HB := hide hB
      have hS := hide (fun (w' : World) (hb : Below wr.heap.size wr w') => (show ((w'.cell? ⟨b, off + k * 7, none⟩ = some (.bool x.1) ∧ w'.cell? ⟨b, off + k * 7 + 1, none⟩ = some (.int .i64 x.2.1.v) ∧ w'.cell? ⟨b, off + k * 7 + 1 + 1, none⟩ = some (.int .i64 x.2.1.f) ∧ w'.cell? ⟨b, off + k * 7 + 1 + 2, none⟩ = some (.slice a1 x.2.1.args.length c1) ∧ w'.cell? ⟨b, off + k * 7 + 4, none⟩ = some (.int .i64 x.2.2.v) ∧ w'.cell? ⟨b, off + k * 7 + 4 + 1, none⟩ = some (.int .i64 x.2.2.f) ∧ w'.cell? ⟨b, off + k * 7 + 4 + 2, none⟩ = some (.slice a2 x.2.2.args.length c2)) ∧ w'.cell? ⟨b', off' + k * 7, none⟩ = some (.bool x.1) ∧ w'.cell? ⟨b', off' + k * 7 + 1, none⟩ = some (.int .i64 x.2.1.v) ∧ w'.cell? ⟨b', off' + k * 7 + 1 + 1, none⟩ = some (.int .i64 x.2.1.f) ∧ w'.cell? ⟨b', off' + k * 7 + 1 + 2, none⟩ = some (.slice b1 x.2.1.args.length d1) ∧ w'.cell? ⟨b', off' + k * 7 + 4, none⟩ = some (.int .i64 x.2.2.v) ∧ w'.cell? ⟨b', off' + k * 7 + 4 + 1, none⟩ = some (.int .i64 x.2.2.f) ∧ w'.cell? ⟨b', off' + k * 7 + 4 + 2, none⟩ = some (.slice b2 x.2.2.args.length d2)) from ⟨hA.below hb, hB.below hb⟩))
      obtain ⟨⟨p0, p1, p2, p3, p4, p5, p6⟩, q0, q1, q2, q3, q4, q5, q6⟩ := hS.out wr (Below.refl _ _)
      have hyy : (x.1 != x.1) = false := by simp
      have hkI : (k : Int) < c.length := by omega
      have hk0 : (0 : Int) ≤ k := by omega
      clear hx hA hB i1 i2 j1 j2 hz HA HB
      go_wp2_with fail
      go_region_held3 (fun w' => (w'.cell? ⟨b, off + k * 7, none⟩ = some (.bool x.1) ∧ w'.cell? ⟨b, off + k * 7 + 1, none⟩ = some (.int .i64 x.2.1.v) ∧ w'.cell? ⟨b, off + k * 7 + 1 + 1, none⟩ = some (.int .i64 x.2.1.f) ∧ w'.cell? ⟨b, off + k * 7 + 1 + 2, none⟩ = some (.slice a1 x.2.1.args.length c1) ∧ w'.cell? ⟨b, off + k * 7 + 4, none⟩ = some (.int .i64 x.2.2.v) ∧ w'.cell? ⟨b, off + k * 7 + 4 + 1, none⟩ = some (.int .i64 x.2.2.f) ∧ w'.cell? ⟨b, off + k * 7 + 4 + 2, none⟩ = some (.slice a2 x.2.2.args.length c2)) ∧ w'.cell? ⟨b', off' + k * 7, none⟩ = some (.bool x.1) ∧ w'.cell? ⟨b', off' + k * 7 + 1, none⟩ = some (.int .i64 x.2.1.v) ∧ w'.cell? ⟨b', off' + k * 7 + 1 + 1, none⟩ = some (.int .i64 x.2.1.f) ∧ w'.cell? ⟨b', off' + k * 7 + 1 + 2, none⟩ = some (.slice b1 x.2.1.args.length d1) ∧ w'.cell? ⟨b', off' + k * 7 + 4, none⟩ = some (.int .i64 x.2.2.v) ∧ w'.cell? ⟨b', off' + k * 7 + 4 + 1, none⟩ = some (.int .i64 x.2.2.f) ∧ w'.cell? ⟨b', off' + k * 7 + 4 + 2, none⟩ = some (.slice b2 x.2.2.args.length d2)) ((first | (refine hS.out _ ?_; (repeat' (first | with_reducible exact Hid.out ‹Hid (Below _ _ _)› | with_reducible exact Below.refl _ _ | (with_reducible refine Below.drew ?_))); done) | go_keep)) ((first
        | (go_at_call 52
           with_reducible refine (HSa.out _ ?_).mono ?_
           · (repeat' (first | with_reducible exact Hid.out ‹Hid (Below _ _ _)› | with_reducible exact Below.refl _ _ | (with_reducible refine Below.drew ?_)))
           rintro e xA ⟨rfl, hbA⟩
           have HxA : Hid (Below wr.heap.size wr xA) := by
             refine Below.trans (b := _) ?_ (hbA.mono ?_)
             · (repeat' (first | with_reducible exact Hid.out ‹Hid (Below _ _ _)› | with_reducible exact Below.refl _ _ | (with_reducible refine Below.drew ?_)))
             · first | omega | (simp; omega) | (simp; done)
           clear hbA)
        | (go_at_call 52
           with_reducible refine (HSb.out _ ?_).mono ?_
           · (repeat' (first | with_reducible exact Hid.out HxA | with_reducible exact Below.refl _ _ | (with_reducible refine Below.drew ?_)))
           rintro e xB ⟨rfl, hbB⟩
           have HxB : Hid (Below wr.heap.size wr xB) := by
             refine Below.trans (b := _) ?_ (hbB.mono ?_)
             · (repeat' (first | with_reducible exact Hid.out HxA | with_reducible exact Below.refl _ _ | (with_reducible refine Below.drew ?_)))
             · have := HxA.out.size; first | omega | (simp; omega) | (simp; done)
           clear hbB)))
      all_goals (
        have Hb2 := hide (Hb.out.trans (HxB.out.mono Hb.out.size))
        go_wp2_with fail
        go_roundw
        case rel => exact ⟨k + 1, by omega, by go_num, Hb2⟩
        case measure => simp [intOf]; omega)
    · have hk2 : k = c.length := by omega
      subst hk2
      go_wp2_with fail
      go_ret
      exact ⟨rfl, Hb.out⟩
end Go.Proofs.YtbkedppkdhfpoabGreat

namespace Go.Proofs.YtbkedppkdhfpoabGreat
open Go.RowKit

attribute [local go_sem ↓] Go.wp_at_zero Go.wp_at_succ
set_option maxRecDepth 100000 in
set_option maxHeartbeats 1000000 in
theorem refSameSides_any (k l : Lit) (a1 : Option Addr) (c1 : Nat) (a2 : Option Addr) (c2 : Nat) (b1 : Option Addr) (d1 : Nat) (b2 : Option Addr) (d2 : Nat) (w : World) (hk : LitSz k) (i1 : InL w k.2.1.args a1) (i2 : InL w k.2.2.args a2) (j1 : InL w l.2.1.args b1) (j2 : InL w l.2.2.args b2) :
    Calls Tryz.prog 53 #[litV k a1 c1 a2 c2, litV l b1 d1 b2 d2] w fun e w' => e = .returned (.bool (sameS k l)) ∧ Below w.heap.size w w' := by
  obtain ⟨W1, hW1⟩ : ∃ W1, W1 = (w.alloc (.cells #[.bool k.1, .int .i64 k.2.1.v, .int .i64 k.2.1.f, .slice a1 k.2.1.args.length c1, .int .i64 k.2.2.v, .int .i64 k.2.2.f, .slice a2 k.2.2.args.length c2] 79)).alloc (.cells #[.bool l.1, .int .i64 l.2.1.v, .int .i64 l.2.1.f, .slice b1 l.2.1.args.length d1, .int .i64 l.2.2.v, .int .i64 l.2.2.f, .slice b2 l.2.2.args.length d2] 79) := ⟨_, rfl⟩
  have hbW : Below w.heap.size w W1 := by rw [hW1]; exact below2 _ _ _
  have hzW : W1.heap.size = w.heap.size + 2 := by rw [hW1]; simp
  have hk7 : L7 W1 w.heap.size 0 k a1 c1 a2 c2 := by rw [hW1]; exact (L7.new _ rfl).below (below1 _ _)
  have hl7 : L7 W1 (w.heap.size + 1) 0 l b1 d1 b2 d2 := by rw [hW1]; exact L7.new _ (by simp)
  have hBx := hide (fun (w' : World) (hb : Below W1.heap.size W1 w') => And.intro (hk7.below hb) (hl7.below hb))
  have HS := hide (fun (w' : World) (hb : Below W1.heap.size W1 w') => (show Calls Tryz.prog _ _ w' _ ∧ Calls Tryz.prog _ _ w' _ ∧ Calls Tryz.prog _ _ w' _ ∧ Calls Tryz.prog _ _ w' _ from
    have hh := hbW.trans (hb.mono (by omega))
    ⟨sameTerm_any 1001 k.2.1 l.2.1 a1 c1 b1 d1 w' (by have := hk.1; omega) hk.1 (InP_below hh i1) (InP_below hh j1), sameTerm_any 1001 k.2.2 l.2.2 a2 c2 b2 d2 w' (by have := hk.2; omega) hk.2 (InP_below hh i2) (InP_below hh j2),
      sameTerm_any 1001 k.2.1 l.2.2 a1 c1 b2 d2 w' (by have := hk.1; omega) hk.1 (InP_below hh i1) (InP_below hh j2), sameTerm_any 1001 k.2.2 l.2.1 a2 c2 b1 d1 w' (by have := hk.2; omega) hk.2 (InP_below hh i2) (InP_below hh j1)⟩))
  have HF := hide (fun (w' : World) (hb : Below W1.heap.size W1 w') => hbW.trans (hb.mono (by omega)))
  obtain ⟨A, hA⟩ : ∃ A, A = sameT k.2.1 l.2.1 := ⟨_, rfl⟩
  obtain ⟨B, hB⟩ : ∃ B, B = sameT k.2.2 l.2.2 := ⟨_, rfl⟩
  obtain ⟨C, hC⟩ : ∃ C, C = sameT k.2.1 l.2.2 := ⟨_, rfl⟩
  obtain ⟨D, hD⟩ : ∃ D, D = sameT k.2.2 l.2.1 := ⟨_, rfl⟩
  have hZ : sameS k l = (A && B || C && D) := by rw [sameS, ← hA, ← hB, ← hC, ← hD]
  rw [← hA, ← hB, ← hC, ← hD] at HS
  rw [hZ]
  have HW1 := hide hW1
  have HR := hide (Below.refl W1.heap.size W1)
  obtain ⟨⟨p0, p1, p2, p3, p4, p5, p6⟩, ⟨q0, q1, q2, q3, q4, q5, q6⟩⟩ := hBx.out W1 HR.out
  have HSR := hide (HS.out W1 HR.out)
  clear hbW hzW hk7 hl7 hW1 hA hB hC hD hZ hk i1 i2 j1 j2
  go_enter Tryz.func53, Tryz.ntmps53
  go_wp2_with fail
  rw [← HW1.out]
  refine HSR.out.1.mono ?_
  rintro e w1 ⟨rfl, hb1⟩
  have Hb1 := hide hb1
  clear hb1 HW1 p0 p1 p2 p3 p4 p5 p6 q0 q1 q2 q3 q4 q5 q6 HSR HR
  obtain ⟨⟨p0, p1, p2, p3, p4, p5, p6⟩, ⟨q0, q1, q2, q3, q4, q5, q6⟩⟩ := hBx.out w1 Hb1.out
  have HS1 := hide (HS.out w1 Hb1.out)
  cases A with
  | true =>
    go_wp2_with fail
    refine HS1.out.2.1.mono ?_
    rintro e w2 ⟨rfl, hb2⟩
    have Hb2 := hide (Hb1.out.trans (hb2.mono Hb1.out.size))
    clear hb2 HS1 p0 p1 p2 p3 p4 p5 p6 q0 q1 q2 q3 q4 q5 q6
    obtain ⟨⟨p0, p1, p2, p3, p4, p5, p6⟩, ⟨q0, q1, q2, q3, q4, q5, q6⟩⟩ := hBx.out w2 Hb2.out
    have HS2 := hide (HS.out w2 Hb2.out)
    cases B with
    | true =>
      have Hf := hide (HF.out _ Hb2.out)
      go_wp2_with fail
      go_ret
      exact ⟨rfl, Hf.out⟩
    | false =>
      go_wp2_with fail
      refine HS2.out.2.2.1.mono ?_
      rintro e w8 ⟨rfl, hb8⟩
      have Hb8 := hide (Hb2.out.trans (hb8.mono Hb2.out.size))
      clear hb8 HS2 p0 p1 p2 p3 p4 p5 p6 q0 q1 q2 q3 q4 q5 q6
      obtain ⟨⟨p0, p1, p2, p3, p4, p5, p6⟩, ⟨q0, q1, q2, q3, q4, q5, q6⟩⟩ := hBx.out w8 Hb8.out
      have HS8 := hide (HS.out w8 Hb8.out)
      cases C with
      | false =>
        have Hf := hide (HF.out _ Hb8.out)
        go_wp2_with fail
        go_ret
        exact ⟨rfl, Hf.out⟩
      | true =>
        go_wp2_with fail
        refine HS8.out.2.2.2.mono ?_
        rintro e w9 ⟨rfl, hb9⟩
        have Hf := hide (HF.out _ (Hb8.out.trans (hb9.mono Hb8.out.size)))
        clear hb9 HS8
        go_wp2_with fail
        go_ret
        exact ⟨by simp, Hf.out⟩
  | false =>
    go_wp2_with fail
    refine HS1.out.2.2.1.mono ?_
    rintro e w8 ⟨rfl, hb8⟩
    have Hb8 := hide (Hb1.out.trans (hb8.mono Hb1.out.size))
    clear hb8 HS1 p0 p1 p2 p3 p4 p5 p6 q0 q1 q2 q3 q4 q5 q6
    obtain ⟨⟨p0, p1, p2, p3, p4, p5, p6⟩, ⟨q0, q1, q2, q3, q4, q5, q6⟩⟩ := hBx.out w8 Hb8.out
    have HS8 := hide (HS.out w8 Hb8.out)
    cases C with
    | false =>
      have Hf := hide (HF.out _ Hb8.out)
      go_wp2_with fail
      go_ret
      exact ⟨rfl, Hf.out⟩
    | true =>
      go_wp2_with fail
      refine HS8.out.2.2.2.mono ?_
      rintro e w9 ⟨rfl, hb9⟩
      have Hf := hide (HF.out _ (Hb8.out.trans (hb9.mono Hb8.out.size)))
      clear hb9 HS8
      go_wp2_with fail
      go_ret
      exact ⟨by simp, Hf.out⟩

set_option maxRecDepth 100000 in
set_option maxHeartbeats 1000000 in
theorem turned_any (x : Lit) (a1 : Option Addr) (c1 : Nat) (a2 : Option Addr) (c2 : Nat) (w : World) :
    Calls Tryz.prog 57 #[litV x a1 c1 a2 c2] w fun e w' => e = .returned (litV (turnL x) a2 c2 a1 c1) ∧ Below w.heap.size w w' := by
  go_enter Tryz.func57, Tryz.ntmps57
  go_wp2_with fail
  exact bodyPost_ret (v := litV (turnL x) a2 c2 a1 c1) (by simp [results, Tryz.results57, turnL, go_sem]) rfl ⟨rfl, below2 _ _ _⟩
end Go.Proofs.YtbkedppkdhfpoabGreat
