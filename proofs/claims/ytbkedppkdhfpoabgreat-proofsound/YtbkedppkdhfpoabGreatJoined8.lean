/- Joining two parts: it ends; what is joined is the same; nothing is joined that need not be. Measuring a part: it ends, and tells how great what it has become is. Terms and the parts that are added for them. What parts have become, and what variables make of it. -/
import Derived.Test.YtbkedppkdhfpoabGreatJoined7
namespace Go.Proofs.YtbkedppkdhfpoabGreat

/-- Where a function is like another part, that is the same function, of arguments that are the same. -/
def Good (P : List Pt) (k : Nat) : Prop := ∀ (p q : Pt), P[k]? = some p → P[p.like]? = some q → p.v ≠ 0 ∨ (q.v = 0 ∧ p.f = q.f ∧ p.args.length = q.args.length ∧ ∀ (i a b : Nat), p.args[i]? = some a → q.args[i]? = some b → hd P a = hd P b)

/-- What a joining leaves. -/
structure JO (P P' : List Pt) (ok : Bool) : Prop where
  sj : SameJ P P'
  wf : WFp P'
  hs : heads P' ≤ heads P
  mono : ∀ (i j : Nat), i < P.length → j < P.length → hd P i = hd P j → hd P' i = hd P' j
  links : ok = true → ∀ (k : Nat) (p p' : Pt), P[k]? = some p → P'[k]? = some p' → p'.like = p.like ∨ Good P' k
theorem JO.refl {P : List Pt} (h : WFp P) (ok : Bool) : JO P P ok := ⟨rfl, h, Nat.le_refl _, fun _ _ _ _ e => e, fun _ k p p' h1 h2 => by rw [h1] at h2; cases h2; exact Or.inl rfl⟩
theorem JO.good {P P' : List Pt} {ok : Bool} (h : JO P P' ok) (hw : WFp P) {k : Nat} {p p' : Pt} (h1 : P[k]? = some p) (h2 : P'[k]? = some p') (e : p'.like = p.like) (hg : Good P k) : Good P' k := by
  intro r s hr hss
  rw [h2] at hr; cases hr
  rw [e] at hss
  obtain ⟨s', h3, h4, h5, h6, _⟩ := h.sj.symm.at hss
  obtain ⟨p2, h7, h8, h9, h10, _⟩ := h.sj.symm.at h2
  rw [h1] at h7; cases h7
  rcases hg p s' h1 h3 with hg | ⟨g1, g2, g3, g4⟩
  · exact Or.inl (by rw [← h8]; exact hg)
  · refine Or.inr ⟨by rw [← h4]; exact g1, by rw [← h9, ← h5]; exact g2, by rw [← h10, ← h6]; exact g3, fun i a b ha hb => ?_⟩
    rw [← h10] at ha
    rw [← h6] at hb
    have hk := (List.getElem?_eq_some_iff.1 h1).1
    have hl := (List.getElem?_eq_some_iff.1 h3).1
    have la := hw.args k p h1 a (List.mem_of_getElem? ha)
    have lb := hw.args _ s' h3 b (List.mem_of_getElem? hb)
    exact h.mono a b (by omega) (by omega) (g4 i a b ha hb)
theorem JO.trans {P P' P'' : List Pt} {ok ok' : Bool} (h : JO P P' ok) (h' : JO P' P'' ok') (he : ok' = true → ok = true) : JO P P'' ok' := by
  refine ⟨h.sj.trans h'.sj, h'.wf, Nat.le_trans h'.hs h.hs, fun i j hi hj e => h'.mono i j (by rw [h.sj.len]; exact hi) (by rw [h.sj.len]; exact hj) (h.mono i j hi hj e), fun hk k p p'' h1 h2 => ?_⟩
  obtain ⟨p', h3, _⟩ := h.sj.at h1
  rcases h'.links hk k p' p'' h3 h2 with e | g
  · rcases h.links (he hk) k p p' h1 h3 with e2 | g
    · exact Or.inl (e.trans e2)
    · exact Or.inr (h'.good h.wf h3 h2 e g)
  · exact Or.inr g

/-- What parts are, where variables are what θ says. -/
def IsDen (θ : Int → T) (P : List Pt) (D : Nat → T) : Prop := ∀ (k : Nat) (p : Pt), P[k]? = some p → D k = if p.v = 0 then ⟨0, p.f, p.args.map D⟩ else θ p.v
theorem IsDen.same {θ : Int → T} {P P' : List Pt} {D : Nat → T} (h : IsDen θ P D) (hs : SameJ P P') : IsDen θ P' D := by
  intro k p hp
  obtain ⟨p', h1, h2, h3, h4, _⟩ := hs.symm.at hp
  rw [h k p' h1, h2, h3, h4]
/-- What is like another part is the same. -/
def Resp (P : List Pt) (D : Nat → T) : Prop := ∀ (k : Nat) (p : Pt), P[k]? = some p → D k = D p.like
theorem Resp.hd {P : List Pt} {D : Nat → T} (h : WFp P) (hr : Resp P D) : ∀ k, k < P.length → D k = D (hd P k) := by
  refine hd_ind h _ (fun k p hp e => by rw [hd_head h hp e]) (fun k p hp e ih => ?_)
  rw [hr k p hp, ih, hd_like h hp]

def JR (n : Nat) (P : List Pt) (i j : Nat) : Prop :=
  ∃ ok P', joinF n P i j = some (ok, P') ∧ JO P P' ok ∧ (ok = true → hd P' i = hd P' j) ∧ ∀ θ D, IsDen θ P D → Resp P D → D i = D j → ok = true ∧ Resp P' D

theorem eqR_ok {n : Nat} (ih : ∀ P i j, WFp P → i < P.length → j < P.length → heads P < n → JR n P i j) : ∀ (l m : List Nat) (P : List Pt), l.length = m.length → WFp P → heads P < n → (∀ a, a ∈ l → a < P.length) → (∀ a, a ∈ m → a < P.length) →
    ∃ ok P', eqR (joinF n) l m P = some (ok, P') ∧ JO P P' ok ∧ (ok = true → ∀ (i a b : Nat), l[i]? = some a → m[i]? = some b → hd P' a = hd P' b) ∧ ∀ θ D, IsDen θ P D → Resp P D → l.map D = m.map D → ok = true ∧ Resp P' D := by
  intro l
  induction l with
  | nil =>
    intro m P hl hw hh _ _
    cases m with
    | cons b m => simp at hl
    | nil => exact ⟨true, P, rfl, JO.refl hw _, fun _ i a b ha => by simp at ha, fun θ D _ hr _ => ⟨rfl, hr⟩⟩
  | cons a l ihl =>
    intro m P hl hw hh h1 h2
    cases m with
    | nil => simp at hl
    | cons b m =>
      obtain ⟨ok, P1, hj, hjo, hj1, hj2⟩ := ih P a b hw (h1 a List.mem_cons_self) (h2 b List.mem_cons_self) hh
      cases ok with
      | false =>
        refine ⟨false, P1, by rw [eqR, hj]; rfl, hjo, (fun h => by cases h), fun θ D hd hr he => ?_⟩
        simp only [List.map_cons, List.cons.injEq] at he
        cases (hj2 θ D hd hr he.1).1
      | true =>
        have hlen := hjo.sj.len
        obtain ⟨ok, P2, he, heo, he1, he2⟩ := ihl m P1 (by simpa using hl) hjo.wf (Nat.lt_of_le_of_lt hjo.hs hh) (fun x hx => by rw [hlen]; exact h1 x (List.mem_cons_of_mem _ hx)) (fun x hx => by rw [hlen]; exact h2 x (List.mem_cons_of_mem _ hx))
        refine ⟨ok, P2, by rw [eqR, hj]; exact he, hjo.trans heo (fun _ => rfl), fun hok i x y hx hy => ?_, fun θ D hd hr hm => ?_⟩
        · cases i with
          | zero =>
            simp only [List.getElem?_cons_zero, Option.some.injEq] at hx hy
            subst hx hy
            exact heo.mono _ _ (by rw [hlen]; exact h1 _ List.mem_cons_self) (by rw [hlen]; exact h2 _ List.mem_cons_self) (hj1 rfl)
          | succ i => exact he1 hok i x y (by simpa using hx) (by simpa using hy)
        · simp only [List.map_cons, List.cons.injEq] at hm
          exact he2 θ D (hd.same hjo.sj) (hj2 θ D hd hr hm.1).2 hm.2

theorem joinB_ok {n : Nat} (ih : ∀ P i j, WFp P → i < P.length → j < P.length → heads P < n → JR n P i j) {P : List Pt} {x y : Nat} {p q : Pt} (h : WFp P) (hx : P[x]? = some p) (hy : P[y]? = some q) (ex : p.like = x) (ey : q.like = y) (ne : x ≠ y) (hv : p.v ≤ q.v) (hh : heads P < n + 1) :
    ∃ ok P', joinB (joinF n) P x y p q = some (ok, P') ∧ JO P P' ok ∧ (ok = true → hd P' x = hd P' y) ∧ ∀ θ D, IsDen θ P D → Resp P D → D x = D y → ok = true ∧ Resp P' D := by
  have hxl := (List.getElem?_eq_some_iff.1 hx).1
  have hyl := (List.getElem?_eq_some_iff.1 hy).1
  have hsj := SameJ.set hy x
  have hwf := link_wf h hx hy ex ey ne hv
  have hhd := fun {k} (hk : k < P.length) => link_hd h hx hy ex ey ne hv hk
  have hhs := link_heads hy ey ne
  have hxy : hd (P.set y { q with like := x }) x = hd (P.set y { q with like := x }) y := by
    rw [hhd hxl, hhd hyl, hd_head h hx ex, hd_head h hy ey, if_neg ne, if_pos rfl]
  have hmono : ∀ (i j : Nat), i < P.length → j < P.length → hd P i = hd P j → hd (P.set y { q with like := x }) i = hd (P.set y { q with like := x }) j := fun i j hi hj e => by rw [hhd hi, hhd hj, e]
  have hlike : ∀ (k : Nat) (r r' : Pt), P[k]? = some r → (P.set y { q with like := x })[k]? = some r' → r'.like = r.like ∨ k = y := fun k r r' h1 h2 => by
    by_cases e : k = y
    · exact Or.inr e
    · rw [List.getElem?_set_ne (fun h => e h.symm), h1] at h2; cases h2; exact Or.inl rfl
  have hyq : (P.set y { q with like := x })[y]? = some { q with like := x } := List.getElem?_set_self hyl
  have hresp : ∀ D, Resp P D → D x = D y → Resp (P.set y { q with like := x }) D := fun D hr e k r hk => by
    by_cases e2 : k = y
    · subst e2; rw [hyq] at hk; cases hk; exact e.symm
    · rw [List.getElem?_set_ne (fun h => e2 h.symm)] at hk; exact hr k r hk
  rw [joinB]
  by_cases hq0 : q.v = 0
  · have hp0 : p.v = 0 := by have := h.nn x p hx; omega
    rw [if_pos hq0]
    have hnoG : ∀ ok : Bool, ok = false → JO P (P.set y { q with like := x }) ok := fun ok e => ⟨hsj, hwf, by omega, hmono, fun e2 => by rw [e] at e2; cases e2⟩
    by_cases hf : p.f = q.f
    · rw [if_pos hf, eqL]
      by_cases hl : p.args.length = q.args.length
      · rw [if_pos hl]
        obtain ⟨ok, P2, he, heo, he1, he2⟩ := eqR_ok ih p.args q.args _ hl hwf (by omega) (fun a ha => by rw [List.length_set]; have := h.args x p hx a ha; omega) (fun a ha => by rw [List.length_set]; have := h.args y q hy a ha; omega)
        refine ⟨ok, P2, he, ⟨hsj.trans heo.sj, heo.wf, by have := heo.hs; omega, fun i j hi hj e => heo.mono i j (by rw [List.length_set]; exact hi) (by rw [List.length_set]; exact hj) (hmono i j hi hj e), fun hok k r r2 h1 h2 => ?_⟩, fun _ => heo.mono x y (by rw [List.length_set]; exact hxl) (by rw [List.length_set]; exact hyl) hxy, fun θ D hd hr e => ?_⟩
        · obtain ⟨r1, h3, _⟩ := hsj.at h1
          rcases heo.links hok k r1 r2 h3 h2 with e | g
          · rcases hlike k r r1 h1 h3 with e2 | e2
            · exact Or.inl (e.trans e2)
            · subst e2
              rw [hyq] at h3; cases h3
              refine Or.inr ?_
              intro a b ha hb
              rw [h2] at ha; cases ha
              rw [e] at hb
              obtain ⟨b', g1, g2, g3, g4, _⟩ := (hsj.trans heo.sj).symm.at hb
              obtain ⟨a', g5, g6, g7, g8, _⟩ := (hsj.trans heo.sj).symm.at h2
              rw [hy] at g5; cases g5
              have hb3 : P[x]? = some b' := g1
              rw [hx] at hb3; cases hb3
              refine Or.inr ⟨by rw [← g2]; exact hp0, by rw [← g7, ← g3]; exact hf.symm, by rw [← g8, ← g4]; exact hl.symm, fun i u v hu hv => ?_⟩
              exact (he1 hok i v u (by rw [g4]; exact hv) (by rw [g8]; exact hu)).symm
          · exact Or.inr g
        · refine he2 θ D (hd.same hsj) (hresp D hr e) ?_
          rw [hd x p hx, hd y q hy, if_pos hp0, if_pos hq0] at e
          simp only [T.mk.injEq] at e
          exact e.2.2
      · rw [if_neg hl]
        refine ⟨false, _, rfl, hnoG _ rfl, (fun h => by cases h), fun θ D hd hr e => ?_⟩
        rw [hd x p hx, hd y q hy, if_pos hp0, if_pos hq0] at e
        simp only [T.mk.injEq] at e
        have := congrArg List.length e.2.2
        simp at this
        exact absurd this hl
    · rw [if_neg hf]
      refine ⟨false, _, rfl, hnoG _ rfl, (fun h => by cases h), fun θ D hd hr e => ?_⟩
      rw [hd x p hx, hd y q hy, if_pos hp0, if_pos hq0] at e
      simp only [T.mk.injEq] at e
      exact absurd e.2.1 hf
  · rw [if_neg hq0]
    refine ⟨true, _, rfl, ⟨hsj, hwf, by omega, hmono, fun _ k r r' h1 h2 => ?_⟩, fun _ => hxy, fun θ D hd hr e => ⟨rfl, hresp D hr e⟩⟩
    rcases hlike k r r' h1 h2 with e | e
    · exact Or.inl e
    · subst e
      refine Or.inr fun a b ha hb => Or.inl ?_
      rw [hyq] at ha; cases ha; exact hq0

theorem join_ok : ∀ (n : Nat) (P : List Pt) (i j : Nat), WFp P → i < P.length → j < P.length → heads P < n → JR n P i j := by
  intro n
  induction n with
  | zero => intro P i j _ _ _ h; omega
  | succ n ih =>
    intro P i j h hi hj hh
    have e1 := hd_eq h hi
    have e2 := hd_eq h hj
    obtain ⟨p, hp, ep⟩ := hd_self h hi
    obtain ⟨q, hq, eq⟩ := hd_self h hj
    have hdi := hd_hd h hi
    have hdj := hd_hd h hj
    have li := hd_lt h hi
    have lj := hd_lt h hj
    unfold JR
    by_cases e : hd P i = hd P j
    · refine ⟨true, P, by rw [joinF, e1, e2]; simp only [if_pos e], JO.refl h _, fun _ => e, fun θ D _ hr _ => ⟨rfl, hr⟩⟩
    · have hj1 : joinF (n + 1) P i j = if q.v < p.v then joinB (joinF n) P (hd P j) (hd P i) q p else joinB (joinF n) P (hd P i) (hd P j) p q := by
        rw [joinF, e1, e2]
        simp only [if_neg e, hp, hq]
      by_cases hv : q.v < p.v
      · obtain ⟨ok, P', h1, h2, h3, h4⟩ := joinB_ok ih h hq hp eq ep (fun e' => e e'.symm) (Int.le_of_lt hv) hh
        refine ⟨ok, P', by rw [hj1, if_pos hv]; exact h1, h2, fun hok => ?_, fun θ D hd hr he => h4 θ D hd hr ?_⟩
        · rw [h2.mono i _ hi li hdi.symm, h2.mono j _ hj lj hdj.symm]; exact (h3 hok).symm
        · rw [← Resp.hd h hr i hi, ← Resp.hd h hr j hj]; exact he.symm
      · obtain ⟨ok, P', h1, h2, h3, h4⟩ := joinB_ok ih h hp hq ep eq e (by omega) hh
        refine ⟨ok, P', by rw [hj1, if_neg hv]; exact h1, h2, fun hok => ?_, fun θ D hd hr he => h4 θ D hd hr ?_⟩
        · rw [h2.mono i _ hi li hdi.symm, h2.mono j _ hj lj hdj.symm]; exact h3 hok
        · rw [← Resp.hd h hr i hi, ← Resp.hd h hr j hj]; exact he
end Go.Proofs.YtbkedppkdhfpoabGreat

namespace Go.Proofs.YtbkedppkdhfpoabGreat

/-- What is not a part's size. -/
def stM (p : Pt) : Pt := { p with size := 0 }
def SameM (P P' : List Pt) : Prop := P.map stM = P'.map stM
theorem SameM.len {P P' : List Pt} (h : SameM P P') : P'.length = P.length := by
  have := congrArg List.length h; simpa using this.symm
theorem SameM.at {P P' : List Pt} (h : SameM P P') {k : Nat} {p : Pt} (hp : P[k]? = some p) : ∃ p', P'[k]? = some p' ∧ p'.v = p.v ∧ p'.f = p.f ∧ p'.args = p.args ∧ p'.like = p.like := by
  have h1 : (P.map stM)[k]? = (P'.map stM)[k]? := by rw [h]
  rw [List.getElem?_map, List.getElem?_map, hp] at h1
  cases hp' : P'[k]? with
  | none => rw [hp'] at h1; cases h1
  | some p' =>
    rw [hp'] at h1
    simp only [Option.map_some, Option.some.injEq, stM, Pt.mk.injEq] at h1
    exact ⟨p', rfl, h1.1.symm, h1.2.1.symm, h1.2.2.1.symm, h1.2.2.2.1.symm⟩
theorem SameM.refl (P : List Pt) : SameM P P := rfl
theorem SameM.trans {P P' P'' : List Pt} (h : SameM P P') (h' : SameM P' P'') : SameM P P'' := Eq.trans h h'
theorem SameM.symm {P P' : List Pt} (h : SameM P P') : SameM P' P := Eq.symm h
theorem SameM.set {P : List Pt} {y : Nat} {q : Pt} (hq : P[y]? = some q) (x : Int) : SameM P (P.set y { q with size := x }) := by
  refine List.ext_getElem? fun k => ?_
  rw [List.getElem?_map, List.getElem?_map]
  by_cases e : k = y
  · subst e
    have hk := (List.getElem?_eq_some_iff.1 hq).1
    rw [List.getElem?_set_self hk, hq]; rfl
  · rw [List.getElem?_set_ne (fun h => e h.symm)]
theorem SameM.none {P P' : List Pt} (h : SameM P P') {k : Nat} (hp : P[k]? = none) : P'[k]? = none := by
  rw [List.getElem?_eq_none_iff] at hp ⊢; rw [h.len]; exact hp
theorem SameM.headE {P P' : List Pt} (h : SameM P P') : ∀ n k, headF P' n k = headF P n k := by
  intro n
  induction n with
  | zero => intro k; rfl
  | succ n ih =>
    intro k
    cases hp : P[k]? with
    | none => rw [headF, headF, hp, h.none hp]
    | some p =>
      obtain ⟨p', h1, _, _, _, h2⟩ := h.at hp
      rw [headF_succ hp, headF_succ h1, h2, ih]
theorem madeL_congr {f g : Nat → Option T} (h : ∀ a, f a = g a) : ∀ l, madeL f l = madeL g l := by
  intro l
  induction l with
  | nil => rfl
  | cons a l ih => rw [madeL, madeL, h, ih]
theorem SameM.madeE {P P' : List Pt} (h : SameM P P') : ∀ n k, madeF P' n k = madeF P n k := by
  intro n
  induction n with
  | zero => intro k; rfl
  | succ n ih =>
    intro k
    rw [madeF, madeF, h.len, h.headE]
    cases headF P (P.length + 1) k with
    | none => rfl
    | some r =>
      cases hp : P[r]? with
      | none => simp only [h.none hp, hp]
      | some p =>
        obtain ⟨p', h1, h3, h4, h5, _⟩ := h.at hp
        simp only [h1, hp, h3, h4, h5, madeL_congr ih]
theorem SameM.headsE {P P' : List Pt} (h : SameM P P') : heads P' = heads P := by
  rw [heads, heads, h.len]
  refine List.countP_congr fun k _ => ?_
  rw [isHd, isHd]
  cases hp : P[k]? with
  | none => rw [h.none hp]
  | some p =>
    obtain ⟨p', h1, _, _, _, h2⟩ := h.at hp
    rw [h1]; simp only [h2]
theorem SameM.wf {P P' : List Pt} (h : SameM P P') (hw : WFp P) : WFp P' := by
  refine ⟨fun k r hr a ha => ?_, fun k r hr => ?_, fun k r s hr hss => ?_, fun k r hr => ?_, fun k r hr => ?_, fun j k r s hr hss e1 e2 => ?_, ?_⟩
  · obtain ⟨r', h1, _, _, h2, _⟩ := h.symm.at hr
    exact hw.args k r' h1 a (by rw [h2]; exact ha)
  · obtain ⟨r', h1, _, _, _, h2⟩ := h.symm.at hr
    rw [h.len, ← h2]; exact hw.like k r' h1
  · obtain ⟨r', h1, h2, _, _, h3⟩ := h.symm.at hr
    obtain ⟨s', h4, h5, _⟩ := h.symm.at hss
    rw [← h2, ← h5]; exact hw.vle k r' s' h1 (by rw [h3]; exact h4)
  · obtain ⟨r', h1, h2, _⟩ := h.symm.at hr
    rw [← h2]; exact hw.nn k r' h1
  · obtain ⟨r', h1, h2, h3, h4, _⟩ := h.symm.at hr
    rw [← h2, ← h3, ← h4]; exact hw.var k r' h1
  · obtain ⟨r', h1, h2, _⟩ := h.symm.at hr
    obtain ⟨s', h3, h4, _⟩ := h.symm.at hss
    exact hw.uniq j k r' s' h1 h3 (by rw [h2, h4]; exact e1) (by rw [h2]; exact e2)
  · obtain ⟨d, h1, h2⟩ := hw.dep
    refine ⟨d, fun k r hr => ?_, fun k hk => by rw [h.headsE, h.len]; exact h2 k (by rw [← h.len]; exact hk)⟩
    obtain ⟨r', h3, _, _, _, h4⟩ := h.symm.at hr
    rw [← h4]; exact h1 k r' h3
theorem SameM.hdE {P P' : List Pt} (h : SameM P P') (k : Nat) : hd P' k = hd P k := by
  rw [hd, hd, h.len, h.headE]

theorem madeL_mono {f g : Nat → Option T} (h : ∀ a t, f a = some t → g a = some t) : ∀ {l ts}, madeL f l = some ts → madeL g l = some ts := by
  intro l
  induction l with
  | nil => intro ts h; exact h
  | cons a l ih =>
    intro ts hm
    rw [madeL] at hm
    split at hm
    · cases hm
    · rename_i t ht
      split at hm
      · cases hm
      · rename_i ts' hts
        rw [madeL, h a t ht]
        simp only [ih hts]
        exact hm
theorem madeF_mono {P : List Pt} : ∀ {n m k : Nat} {t : T}, madeF P n k = some t → n ≤ m → madeF P m k = some t := by
  intro n
  induction n with
  | zero => intro m k t h; cases h
  | succ n ih =>
    intro m k t hm hle
    obtain ⟨n', h, p, ts, e, h1, h2, h3, rfl⟩ := madeF_some hm
    cases e
    obtain ⟨m, rfl⟩ : ∃ j, m = j + 1 := ⟨m - 1, by omega⟩
    rw [madeF, h1]
    simp only [h2, madeL_mono (fun a t ha => ih (m := m) ha (by omega)) h3]
theorem madeF_det {P : List Pt} {n m k : Nat} {t u : T} (h : madeF P n k = some t) (h' : madeF P m k = some u) : t = u := by
  have h1 := madeF_mono h (Nat.le_max_left n m)
  have h2 := madeF_mono h' (Nat.le_max_right n m)
  rw [h1] at h2; exact Option.some.inj h2
theorem made_hd {P : List Pt} (h : WFp P) {j k : Nat} (hj : j < P.length) (hk : k < P.length) (e : hd P j = hd P k) : ∀ n, madeF P n j = madeF P n k := by
  intro n
  cases n with
  | zero => rfl
  | succ n => rw [madeF, madeF, hd_eq h hj, hd_eq h hk, e]
theorem madeF_of {P : List Pt} (h : WFp P) {k n : Nat} {p : Pt} {ts : List T} (hp : P[k]? = some p) (e : p.like = k) (hts : madeL (madeF P n) p.args = some ts) : madeF P (n + 1) k = some ⟨p.v, p.f, ts⟩ := by
  have hk := (List.getElem?_eq_some_iff.1 hp).1
  rw [madeF, hd_eq h hk, hd_head h hp e]
  simp only [hp, hts]
theorem madeL_snoc {f : Nat → Option T} {a : Nat} {t : T} (ha : f a = some t) : ∀ {l ts}, madeL f l = some ts → madeL f (l ++ [a]) = some (ts ++ [t]) := by
  intro l
  induction l with
  | nil => intro ts h; cases h; rw [List.nil_append, madeL, ha]; rfl
  | cons b l ih =>
    intro ts hm
    rw [madeL] at hm
    split at hm
    · cases hm
    · rename_i u hu
      split at hm
      · cases hm
      · rename_i us hus
        cases hm
        rw [List.cons_append, madeL, hu]
        simp only [ih hus]; rfl

/-- Those whose size is not known. -/
def isZ (P : List Pt) (k : Nat) : Bool := match P[k]? with
  | none => false
  | some p => p.size == 0
def zeros (P : List Pt) : Nat := (List.range P.length).countP (isZ P)
def SizeInv (P : List Pt) : Prop := ∀ (k : Nat) (p : Pt), P[k]? = some p → p.size = 0 ∨ p.size = -1 ∨ (1 ≤ p.size ∧ p.size ≤ 121 ∧ ∃ n t, madeF P n k = some t ∧ p.size = min (t.sz : Int) 121)
def Rank (P : List Pt) (ρ : Nat → Nat) : Prop := (∀ (k : Nat) (p : Pt), P[k]? = some p → ρ k = ρ p.like) ∧ ∀ (k : Nat) (p : Pt) (a : Nat), P[k]? = some p → a ∈ p.args → ρ a < ρ k
theorem Rank.same {P P' : List Pt} {ρ : Nat → Nat} (h : Rank P ρ) (hs : SameM P P') : Rank P' ρ := by
  refine ⟨fun k p hp => ?_, fun k p a hp ha => ?_⟩
  · obtain ⟨p', h1, _, _, _, h2⟩ := hs.symm.at hp
    rw [h.1 k p' h1, h2]
  · obtain ⟨p', h1, _, _, h2, _⟩ := hs.symm.at hp
    exact h.2 k p' a h1 (by rw [h2]; exact ha)
theorem Rank.hd {P : List Pt} {ρ : Nat → Nat} (h : WFp P) (hr : Rank P ρ) : ∀ k, k < P.length → ρ k = ρ (hd P k) := by
  refine hd_ind h _ (fun k p hp e => by rw [hd_head h hp e]) (fun k p hp e ih => ?_)
  rw [hr.1 k p hp, ih, hd_like h hp]

def Done (P : List Pt) (k : Nat) (m : Int) : Prop := m = -1 ∨ (1 ≤ m ∧ m ≤ 121 ∧ ∃ n t, madeF P n k = some t ∧ m = min (t.sz : Int) 121)
def MR (n : Nat) (P : List Pt) (k : Nat) : Prop :=
  ∃ m P', measF n P k = some (m, P') ∧ SameM P P' ∧ SizeInv P' ∧ zeros P' ≤ zeros P ∧ Done P k m ∧ (∀ (j : Nat) (p p' : Pt), P[j]? = some p → P'[j]? = some p' → p.size ≠ 0 → p'.size = p.size) ∧
    ∀ ρ, Rank P ρ → (∀ (j : Nat) (p : Pt), P[j]? = some p → p.size = -1 → ρ k < ρ j) → m ≠ -1 ∧ ∀ (j : Nat) (p' : Pt), P'[j]? = some p' → p'.size = -1 → ∃ p, P[j]? = some p ∧ p.size = -1

theorem zeros_set {P : List Pt} {h : Nat} {p : Pt} {x : Int} (hp : P[h]? = some p) (h0 : p.size ≠ 0) (hx : x ≠ 0) : zeros (P.set h { p with size := x }) = zeros P := by
  have hl := (List.getElem?_eq_some_iff.1 hp).1
  rw [zeros, zeros, List.length_set]
  refine List.countP_congr fun k _ => ?_
  rw [isZ, isZ]
  by_cases e : k = h
  · subst e
    rw [List.getElem?_set_self hl, hp]; simp [h0, hx]
  · rw [List.getElem?_set_ne (fun h => e h.symm)]
theorem zeros_less {P : List Pt} {h : Nat} {p : Pt} {x : Int} (hp : P[h]? = some p) (h0 : p.size = 0) (hx : x ≠ 0) : zeros (P.set h { p with size := x }) + 1 = zeros P := by
  have hl := (List.getElem?_eq_some_iff.1 hp).1
  rw [zeros, zeros, List.length_set]
  refine countP_one hl (fun k hk hne => ?_) ?_ ?_
  · rw [isZ, isZ, List.getElem?_set_ne (fun h => hne h.symm)]
  · rw [isZ, hp]; simpa using h0
  · rw [isZ, List.getElem?_set_self hl]; simpa using hx
theorem szL_append (a b : List T) : T.sz.szL (a ++ b) = T.sz.szL a + T.sz.szL b := by
  induction a with
  | nil => rw [List.nil_append, T.szL_nil]; omega
  | cons t a ih => rw [List.cons_append, T.szL_cons, T.szL_cons, ih]; omega

theorem measL_ok {n : Nat} (ih : ∀ P k, WFp P → k < P.length → SizeInv P → zeros P < n → MR n P k) (h : Nat) : ∀ (l pre : List Nat) (ts : List T) (s : Int) (P : List Pt) (ph : Pt) (N0 : Nat), P[h]? = some ph → ph.size = -1 → ph.like = h → ph.args = pre ++ l → madeL (madeF P N0) pre = some ts →
    s = min (1 + (T.sz.szL ts : Int)) 121 → WFp P → SizeInv P → zeros P < n →
    ∃ m P', measL (measF n) h l s P = some (m, P') ∧ SameM P P' ∧ SizeInv P' ∧ zeros P' ≤ zeros P ∧ Done P h m ∧ (∀ (j : Nat) (p p' : Pt), j ≠ h → P[j]? = some p → P'[j]? = some p' → p.size ≠ 0 → p'.size = p.size) ∧
      ∀ ρ, Rank P ρ → (∀ (j : Nat) (p : Pt), P[j]? = some p → p.size = -1 → ρ h ≤ ρ j) → m ≠ -1 ∧ ∀ (j : Nat) (p' : Pt), P'[j]? = some p' → p'.size = -1 → j ≠ h ∧ ∃ p, P[j]? = some p ∧ p.size = -1 := by
  intro l
  induction l with
  | nil =>
    intro pre ts s P ph N0 hh hs hlk hargs hm hse hw hi hz
    rw [List.append_nil] at hargs
    rw [← hargs] at hm
    have hmade := madeF_of hw hh hlk hm
    have hl := (List.getElem?_eq_some_iff.1 hh).1
    have hsz : ((⟨ph.v, ph.f, ts⟩ : T).sz : Int) = 1 + T.sz.szL ts := by rw [T.sz_eq]; simp
    have hs1 : 1 ≤ s ∧ s ≤ 121 := by omega
    have hsm := SameM.set hh s
    refine ⟨s, _, by rw [measL, hh], hsm, fun k p hp => ?_, by rw [zeros_set hh (by omega) (by omega)]; exact Nat.le_refl _, Or.inr ⟨hs1.1, hs1.2, N0 + 1, _, hmade, by rw [hsz]; exact hse⟩, fun j p p' hj h1 h2 _ => ?_, fun ρ _ _ => ⟨by omega, fun j p' h1 h2 => ?_⟩⟩
    · by_cases e : k = h
      · subst e
        rw [List.getElem?_set_self hl] at hp; cases hp
        exact Or.inr (Or.inr ⟨hs1.1, hs1.2, N0 + 1, _, by rw [hsm.madeE]; exact hmade, by rw [hsz]; exact hse⟩)
      · rw [List.getElem?_set_ne (fun h => e h.symm)] at hp
        rcases hi k p hp with h1 | h1 | ⟨h1, h2, n', t, h3, h4⟩
        · exact Or.inl h1
        · exact Or.inr (Or.inl h1)
        · exact Or.inr (Or.inr ⟨h1, h2, n', t, by rw [hsm.madeE]; exact h3, h4⟩)
    · rw [List.getElem?_set_ne (fun h => hj h.symm), h1] at h2; cases h2; rfl
    · by_cases e : j = h
      · subst e
        rw [List.getElem?_set_self hl] at h1; cases h1
        exact absurd h2 (show ¬ s = -1 by omega)
      · rw [List.getElem?_set_ne (fun h => e h.symm)] at h1
        exact ⟨e, p', h1, h2⟩
  | cons a l ihl =>
    intro pre ts s P ph N0 hh hs hlk hargs hm hse hw hi hz
    have hl := (List.getElem?_eq_some_iff.1 hh).1
    have hah : a ∈ ph.args := by rw [hargs]; simp
    have hal : a < P.length := by have := hw.args h ph hh a hah; omega
    obtain ⟨m, P1, g1, g2, g3, g4, g5, g6, g7⟩ := ih P a hw hal hi hz
    rcases g5 with g5 | ⟨k1, k2, n1, t, k3, k4⟩
    · subst g5
      refine ⟨-1, P1, by rw [measL, g1]; rfl, g2, g3, g4, Or.inl rfl, fun j p p' _ => g6 j p p', fun ρ hρ hin => ?_⟩
      exact absurd rfl (g7 ρ hρ (fun j p h1 h2 => Nat.lt_of_lt_of_le (hρ.2 h ph a hh hah) (hin j p h1 h2))).1
    · obtain ⟨ph1, q1, q2, q3, q4, q5⟩ := g2.at hh
      have q6 := g6 h ph ph1 hh q1 (by omega)
      have hm1 : madeL (madeF P1 (max N0 n1)) (pre ++ [a]) = some (ts ++ [t]) :=
        madeL_snoc (by rw [g2.madeE]; exact madeF_mono k3 (Nat.le_max_right _ _)) (madeL_mono (fun b u hb => by rw [g2.madeE]; exact madeF_mono hb (Nat.le_max_left _ _)) hm)
      have hse1 : min (s + m) 121 = min (1 + (T.sz.szL (ts ++ [t]) : Int)) 121 := by
        rw [szL_append, T.szL_cons, T.szL_nil]
        omega
      obtain ⟨m2, P2, r1, r2, r3, r4, r5, r6, r7⟩ := ihl (pre ++ [a]) (ts ++ [t]) (min (s + m) 121) P1 ph1 (max N0 n1) q1 (q6.trans hs) (q5.trans hlk) (by rw [q4, hargs]; simp) hm1 hse1 (g2.wf hw) g3 (Nat.lt_of_le_of_lt g4 hz)
      refine ⟨m2, P2, ?_, g2.trans r2, r3, Nat.le_trans r4 g4, ?_, fun j p p2 hj h1 h2 h3 => ?_, fun ρ hρ hin => ?_⟩
      · rw [measL, g1]
        simp only [if_neg (show ¬ m = -1 by omega), if_pos (show 0 ≤ m ∧ m ≤ 121 by omega)]
        exact r1
      · rcases r5 with r5 | ⟨u1, u2, n2, t2, u3, u4⟩
        · exact Or.inl r5
        · exact Or.inr ⟨u1, u2, n2, t2, by rw [← g2.madeE]; exact u3, u4⟩
      · obtain ⟨p1, v1, _⟩ := g2.at h1
        have v2 := g6 j p p1 h1 v1 h3
        rw [r6 j p1 p2 hj v1 h2 (by rw [v2]; exact h3), v2]
      · obtain ⟨_, x2⟩ := g7 ρ hρ (fun j p h1 h2 => Nat.lt_of_lt_of_le (hρ.2 h ph a hh hah) (hin j p h1 h2))
        obtain ⟨y1, y2⟩ := r7 ρ (hρ.same g2) (fun j p1 h1 h2 => by
          obtain ⟨p, z1, z2⟩ := x2 j p1 h1 h2
          exact hin j p z1 z2)
        refine ⟨y1, fun j p2 h1 h2 => ?_⟩
        obtain ⟨z1, p1, z2, z3⟩ := y2 j p2 h1 h2
        exact ⟨z1, x2 j p1 z2 z3⟩

theorem meas_ok : ∀ (n : Nat) (P : List Pt) (k : Nat), WFp P → k < P.length → SizeInv P → zeros P < n → MR n P k := by
  intro n
  induction n with
  | zero => intro P k _ _ _ h; omega
  | succ n ih =>
    intro P k hw hk hi hz
    obtain ⟨p, hp, ep⟩ := hd_self hw hk
    have e1 := hd_eq hw hk
    have hl := hd_lt hw hk
    have hmk : ∀ N, madeF P N k = madeF P N (hd P k) := made_hd hw hk hl (hd_hd hw hk).symm
    unfold MR
    by_cases h0 : p.size = 0
    · have hsm := SameM.set hp (-1)
      have hp1 : (P.set (hd P k) { p with size := -1 })[hd P k]? = some { p with size := -1 } := List.getElem?_set_self hl
      obtain ⟨m, P', g1, g2, g3, g4, g5, g6, g7⟩ := measL_ok ih (hd P k) p.args [] [] 1 (P.set (hd P k) { p with size := -1 }) { p with size := -1 } 0 hp1 rfl ep rfl rfl (by rw [T.szL_nil]; omega) (hsm.wf hw) (fun j r hr => by
          by_cases e : j = hd P k
          · subst e; rw [hp1] at hr; cases hr; exact Or.inr (Or.inl rfl)
          · rw [List.getElem?_set_ne (fun h => e h.symm)] at hr
            rcases hi j r hr with h1 | h1 | ⟨h1, h2, n', t, h3, h4⟩
            · exact Or.inl h1
            · exact Or.inr (Or.inl h1)
            · exact Or.inr (Or.inr ⟨h1, h2, n', t, by rw [hsm.madeE]; exact h3, h4⟩)) (by have := zeros_less (x := -1) hp h0 (by omega); omega)
      have hz1 := zeros_less (x := -1) hp h0 (by omega)
      refine ⟨m, P', ?_, hsm.trans g2, g3, by omega, ?_, fun j r r' h1 h2 h3 => ?_, fun ρ hρ hin => ?_⟩
      · rw [measF, e1]
        simp only [hp, if_pos h0]
        exact g1
      · rcases g5 with g5 | ⟨u1, u2, n2, t2, u3, u4⟩
        · exact Or.inl g5
        · exact Or.inr ⟨u1, u2, n2, t2, by rw [hmk, ← hsm.madeE]; exact u3, u4⟩
      · have hj : j ≠ hd P k := fun e => by subst e; rw [hp] at h1; cases h1; exact h3 h0
        exact g6 j r r' hj (by rw [List.getElem?_set_ne (fun h => hj h.symm)]; exact h1) h2 h3
      · have hρk := Rank.hd hw hρ k hk
        obtain ⟨y1, y2⟩ := g7 ρ (hρ.same hsm) (fun j r h1 h2 => by
          by_cases e : j = hd P k
          · rw [e]; exact Nat.le_refl _
          · rw [List.getElem?_set_ne (fun h => e h.symm)] at h1
            have := hin j r h1 h2
            omega)
        refine ⟨y1, fun j r' h1 h2 => ?_⟩
        obtain ⟨z1, r, z2, z3⟩ := y2 j r' h1 h2
        rw [List.getElem?_set_ne (fun h => z1 h.symm)] at z2
        exact ⟨r, z2, z3⟩
    · refine ⟨p.size, P, by rw [measF, e1]; simp only [hp, if_neg h0], rfl, hi, Nat.le_refl _, ?_, fun j r r' h1 h2 _ => by rw [h1] at h2; cases h2; rfl, fun ρ hρ hin => ⟨fun e => ?_, fun j r h1 h2 => ⟨r, h1, h2⟩⟩⟩
      · rcases hi _ p hp with h1 | h1 | ⟨h1, h2, n', t, h3, h4⟩
        · exact absurd h1 h0
        · exact Or.inl h1
        · exact Or.inr ⟨h1, h2, n', t, by rw [hmk]; exact h3, h4⟩
      · have h1 := hin _ p hp e
        have h2 := Rank.hd hw hρ k hk
        omega
end Go.Proofs.YtbkedppkdhfpoabGreat

namespace Go.Proofs.YtbkedppkdhfpoabGreat

/-- Variables made what θ says. -/
def sub (θ : Int → T) : T → T
  | ⟨v, f, args⟩ => if v = 0 then ⟨0, f, subL args⟩ else θ v
  where
  subL : List T → List T
    | [] => []
    | t :: ts => sub θ t :: subL ts
theorem subL_map (θ : Int → T) (ts : List T) : sub.subL θ ts = ts.map (sub θ) := by
  induction ts with
  | nil => rfl
  | cons t ts ih => rw [sub.subL, ih]; rfl
theorem sub_fn {θ : Int → T} {t : T} (h : t.v = 0) : sub θ t = ⟨0, t.f, t.args.map (sub θ)⟩ := by
  cases t; rw [sub, if_pos h, subL_map]
theorem sub_var {θ : Int → T} {t : T} (h : t.v ≠ 0) : sub θ t = θ t.v := by
  cases t; rw [sub, if_neg h]

/-- A part stands for a term. -/
def Rep (P : List Pt) (vs : List (Int × Nat)) : T → Nat → Prop
  | ⟨v, f, args⟩, k => ∃ p, P[k]? = some p ∧ p.v = v ∧ p.f = f ∧ (v ≠ 0 → lookN vs v = some k) ∧ RepL args p.args
  where
  RepL : List T → List Nat → Prop
    | [], [] => True
    | t :: ts, a :: l => Rep P vs t a ∧ RepL ts l
    | _, _ => False
theorem Rep_iff {P : List Pt} {vs : List (Int × Nat)} {t : T} {k : Nat} : Rep P vs t k ↔ ∃ p, P[k]? = some p ∧ p.v = t.v ∧ p.f = t.f ∧ (t.v ≠ 0 → lookN vs t.v = some k) ∧ Rep.RepL P vs t.args p.args := by cases t; exact Iff.rfl
theorem RepL_at {P : List Pt} {vs : List (Int × Nat)} : ∀ {ts : List T} {l : List Nat}, Rep.RepL P vs ts l → ts.length = l.length ∧ ∀ (i : Nat) (t : T) (a : Nat), ts[i]? = some t → l[i]? = some a → Rep P vs t a := by
  intro ts
  induction ts with
  | nil =>
    intro l h
    cases l with
    | nil => exact ⟨rfl, fun i t a h => by simp at h⟩
    | cons a l => exact h.elim
  | cons t ts ih =>
    intro l h
    cases l with
    | nil => exact h.elim
    | cons a l =>
      obtain ⟨h1, h2⟩ := ih h.2
      refine ⟨by rw [List.length_cons, List.length_cons, h1], fun i x b hx hb => ?_⟩
      cases i with
      | zero =>
        simp only [List.getElem?_cons_zero, Option.some.injEq] at hx hb
        subst hx hb; exact h.1
      | succ i => exact h2 i x b (by simpa using hx) (by simpa using hb)
/-- A part stands for it still, where there are more. -/
theorem Rep_more {P P' : List Pt} {vs vs' : List (Int × Nat)} (h1 : ∀ (k : Nat) (p : Pt), P[k]? = some p → ∃ p', P'[k]? = some p' ∧ p'.v = p.v ∧ p'.f = p.f ∧ p'.args = p.args) (h2 : ∀ v n, lookN vs v = some n → lookN vs' v = some n) :
    ∀ (n : Nat), (∀ (t : T) (k : Nat), t.sz ≤ n → Rep P vs t k → Rep P' vs' t k) ∧ (∀ (ts : List T) (l : List Nat), T.sz.szL ts ≤ n → Rep.RepL P vs ts l → Rep.RepL P' vs' ts l) := by
  intro n
  induction n with
  | zero =>
    refine ⟨fun t k h => by have := t.sz_pos; omega, fun ts l h hr => ?_⟩
    cases ts with
    | nil => cases l <;> exact hr
    | cons t ts => have := t.sz_pos; rw [T.szL_cons] at h; omega
  | succ n ih =>
    have h3 : ∀ (t : T) (k : Nat), t.sz ≤ n + 1 → Rep P vs t k → Rep P' vs' t k := fun t k h hr => by
      have he := T.sz_eq t
      obtain ⟨p, g1, g2, g3, g4, g5⟩ := Rep_iff.1 hr
      obtain ⟨p', k1, k2, k3, k4⟩ := h1 k p g1
      exact Rep_iff.2 ⟨p', k1, k2.trans g2, k3.trans g3, fun hv => h2 _ _ (g4 hv), by rw [k4]; exact ih.2 t.args p.args (by omega) g5⟩
    refine ⟨h3, fun ts => ?_⟩
    induction ts with
    | nil => intro l _ hr; cases l <;> exact hr
    | cons t ts iht =>
      intro l h hr
      rw [T.szL_cons] at h
      cases l with
      | nil => exact hr.elim
      | cons a l => exact ⟨h3 t a (by omega) hr.1, iht l (by omega) hr.2⟩

/-- A variable stands in a term. -/
def occ (v : Int) : T → Prop
  | ⟨w, _, args⟩ => w = v ∨ occL args
  where
  occL : List T → Prop
    | [] => False
    | t :: ts => occ v t ∨ occL ts
theorem occ_iff {v : Int} {t : T} : occ v t ↔ t.v = v ∨ occ.occL v t.args := by cases t; exact Iff.rfl
theorem occL_mem {v : Int} {ts : List T} (h : occ.occL v ts) : ∃ (i : Nat) (t : T), ts[i]? = some t ∧ occ v t := by
  induction ts with
  | nil => exact h.elim
  | cons t ts ih =>
    rcases h with h | h
    · exact ⟨0, t, rfl, h⟩
    · obtain ⟨i, x, h1, h2⟩ := ih h
      exact ⟨i + 1, x, by simpa using h1, h2⟩

/-- Parts as they are added. -/
structure AInv (ar : List Int) (s : List Pt × List (Int × Nat)) : Prop where
  args : ∀ (k : Nat) (p : Pt), s.1[k]? = some p → ∀ a, a ∈ p.args → a < k
  self : ∀ (k : Nat) (p : Pt), s.1[k]? = some p → p.like = k ∧ p.size = 0
  keys : ∀ (v : Int) (n : Nat), lookN s.2 v = some n → v ≠ 0 ∧ ∃ p, s.1[n]? = some p ∧ p.v = v
  vars : ∀ (k : Nat) (p : Pt), s.1[k]? = some p → p.v ≠ 0 → lookN s.2 p.v = some k
  ok : ∀ (k : Nat) (p : Pt), s.1[k]? = some p → partErr ar p.v p.f p.args.length = 0
/-- What is added. -/
structure AO (ar : List Int) (s s' : List Pt × List (Int × Nat)) (oc : Int → Prop) : Prop where
  inv : AInv ar s'
  more : ∀ (k : Nat) (p : Pt), s.1[k]? = some p → s'.1[k]? = some p
  look : ∀ (v : Int) (n : Nat), lookN s.2 v = some n → lookN s'.2 v = some n
  from' : ∀ (v : Int) (n : Nat), lookN s'.2 v = some n → (∃ m, lookN s.2 v = some m) ∨ oc v
theorem AO.rep {ar : List Int} {s s' : List Pt × List (Int × Nat)} {oc : Int → Prop} (h : AO ar s s' oc) {t : T} {k : Nat} (hr : Rep s.1 s.2 t k) : Rep s'.1 s'.2 t k :=
  (Rep_more (fun k p hp => ⟨p, h.more k p hp, rfl, rfl, rfl⟩) h.look t.sz).1 t k (Nat.le_refl _) hr
theorem add_rep {ar : List Int} : ∀ (n : Nat), (∀ (t : T) (s : List Pt × List (Int × Nat)), t.sz ≤ n → okP ar t → AInv ar s → AO ar s (addT t s).2 (fun v => occ v t) ∧ Rep (addT t s).2.1 (addT t s).2.2 t (addT t s).1 ∧ (addT t s).1 < (addT t s).2.1.length) ∧
    (∀ (ts : List T) (s : List Pt × List (Int × Nat)), T.sz.szL ts ≤ n → okP.okL ar ts → AInv ar s → AO ar s (addT.addL ts s).2 (fun v => occ.occL v ts) ∧ Rep.RepL (addT.addL ts s).2.1 (addT.addL ts s).2.2 ts (addT.addL ts s).1 ∧ ∀ a, a ∈ (addT.addL ts s).1 → a < (addT.addL ts s).2.1.length) := by
  intro n
  induction n with
  | zero =>
    refine ⟨fun t s h => by have := t.sz_pos; omega, fun ts s h _ hi => ?_⟩
    cases ts with
    | nil => exact ⟨⟨hi, fun _ _ h => h, fun _ _ h => h, fun v n h => Or.inl ⟨n, h⟩⟩, trivial, fun a ha => by cases ha⟩
    | cons t ts => have := t.sz_pos; rw [T.szL_cons] at h; omega
  | succ n ih =>
    have h1 : ∀ (t : T) (s : List Pt × List (Int × Nat)), t.sz ≤ n + 1 → okP ar t → AInv ar s → AO ar s (addT t s).2 (fun v => occ v t) ∧ Rep (addT t s).2.1 (addT t s).2.2 t (addT t s).1 ∧ (addT t s).1 < (addT t s).2.1.length := fun t s h hok hi => by
      have he := T.sz_eq t
      have hpe := (okP_iff.1 hok).1
      cases hlk : lookN s.2 t.v with
      | some m =>
        rw [addT_known hlk]
        obtain ⟨hv, p, hp, hpv⟩ := hi.keys t.v m hlk
        have hm := (List.getElem?_eq_some_iff.1 hp).1
        obtain ⟨hf, ha⟩ := ok_var hok hv
        refine ⟨⟨hi, fun _ _ h => h, fun _ _ h => h, fun v n h => Or.inl ⟨n, h⟩⟩, Rep_iff.2 ⟨p, hp, hpv, ?_, fun _ => hlk, ?_⟩, hm⟩
        · have h9 := hi.ok m p hp
          rw [partErr_var (by rw [hpv]; exact hv), varErr] at h9
          split at h9
          · cases h9
          · split at h9
            · cases h9
            · omega
        · have h9 := hi.ok m p hp
          rw [partErr_var (by rw [hpv]; exact hv), varErr] at h9
          have : p.args = [] := by
            split at h9
            · cases h9
            · split at h9
              · cases h9
              · exact List.length_eq_zero_iff.1 (by omega)
          rw [ha, this]; trivial
      | none =>
        obtain ⟨g1, g2, g3⟩ := ih.2 t.args s (by omega) (okP_iff.1 hok).2 hi
        have hlen := addL_length t.args s
        rw [addT_new hlk]
        generalize hL : addT.addL t.args s = L at g1 g2 g3 hlen ⊢
        obtain ⟨l, P, vs⟩ := L
        simp only at g1 g2 g3 hlen ⊢
        have hnew : (P ++ [(⟨t.v, t.f, l, P.length, 0⟩ : Pt)])[P.length]? = some ⟨t.v, t.f, l, P.length, 0⟩ := by simp
        have hcase : ∀ (k : Nat) (p : Pt), (P ++ [(⟨t.v, t.f, l, P.length, 0⟩ : Pt)])[k]? = some p → P[k]? = some p ∨ (k = P.length ∧ p = ⟨t.v, t.f, l, P.length, 0⟩) := fun k p hp => by
          by_cases hk : k < P.length
          · rw [List.getElem?_append_left hk] at hp; exact Or.inl hp
          · by_cases hk2 : k = P.length
            · subst hk2; rw [hnew] at hp; cases hp; exact Or.inr ⟨rfl, rfl⟩
            · rw [List.getElem?_eq_none (by simp; omega)] at hp; cases hp
        have hmore : ∀ (k : Nat) (p : Pt), P[k]? = some p → (P ++ [(⟨t.v, t.f, l, P.length, 0⟩ : Pt)])[k]? = some p := fun k p hp => by
          rw [List.getElem?_append_left (List.getElem?_eq_some_iff.1 hp).1]; exact hp
        have hlkn : t.v ≠ 0 → ∀ m, lookN vs t.v ≠ some m := fun hv m hm => by
          rcases g1.from' _ _ hm with ⟨m', h9⟩ | h9
          · rw [hlk] at h9; cases h9
          · rw [(ok_var hok hv).2] at h9; exact h9
        have hlook : ∀ (v : Int) (m : Nat), lookN vs v = some m → lookN (if t.v = 0 then vs else (t.v, P.length) :: vs) v = some m := fun v m hm => by
          by_cases hv : t.v = 0
          · rw [if_pos hv]; exact hm
          · rw [if_neg hv, lookN, if_neg (fun e => by
              have e' : t.v = v := e
              rw [← e'] at hm; exact hlkn hv m hm)]; exact hm
        have hself : t.v ≠ 0 → lookN (if t.v = 0 then vs else (t.v, P.length) :: vs) t.v = some P.length := fun hv => by rw [if_neg hv, lookN, if_pos rfl]
        refine ⟨⟨⟨fun k p hp a ha => ?_, fun k p hp => ?_, fun v m hm => ?_, fun k p hp hv => ?_, fun k p hp => ?_⟩, fun k p hp => hmore k p (g1.more k p hp), fun v m hm => hlook v m (g1.look v m hm), fun v m hm => ?_⟩, ?_, by simp⟩
        · rcases hcase k p hp with h9 | ⟨rfl, rfl⟩
          · exact g1.inv.args k p h9 a ha
          · exact g3 a ha
        · rcases hcase k p hp with h9 | ⟨rfl, rfl⟩
          · exact g1.inv.self k p h9
          · exact ⟨rfl, rfl⟩
        · by_cases hv : t.v = 0
          · rw [if_pos hv] at hm
            obtain ⟨k1, p, k2, k3⟩ := g1.inv.keys v m hm
            exact ⟨k1, p, hmore m p k2, k3⟩
          · rw [if_neg hv, lookN] at hm
            by_cases e : t.v = v
            · rw [if_pos e] at hm
              cases hm
              exact ⟨by rw [← e]; exact hv, _, hnew, e⟩
            · rw [if_neg e] at hm
              obtain ⟨k1, p, k2, k3⟩ := g1.inv.keys v m hm
              exact ⟨k1, p, hmore m p k2, k3⟩
        · rcases hcase k p hp with h9 | ⟨rfl, rfl⟩
          · exact hlook _ _ (g1.inv.vars k p h9 hv)
          · exact hself hv
        · rcases hcase k p hp with h9 | ⟨rfl, rfl⟩
          · exact g1.inv.ok k p h9
          · show partErr ar t.v t.f l.length = 0
            rw [hlen]; exact hpe
        · by_cases hv : t.v = 0
          · rw [if_pos hv] at hm
            rcases g1.from' v m hm with h9 | h9
            · exact Or.inl h9
            · exact Or.inr (occ_iff.2 (Or.inr h9))
          · rw [if_neg hv, lookN] at hm
            by_cases e : t.v = v
            · exact Or.inr (occ_iff.2 (Or.inl e))
            · rw [if_neg e] at hm
              rcases g1.from' v m hm with h9 | h9
              · exact Or.inl h9
              · exact Or.inr (occ_iff.2 (Or.inr h9))
        · refine Rep_iff.2 ⟨_, hnew, rfl, rfl, hself, ?_⟩
          exact (Rep_more (fun k p hp => ⟨p, hmore k p hp, rfl, rfl, rfl⟩) hlook (T.sz.szL t.args)).2 t.args l (Nat.le_refl _) g2
    refine ⟨h1, fun ts => ?_⟩
    induction ts with
    | nil => intro s _ _ hi; exact ⟨⟨hi, fun _ _ h => h, fun _ _ h => h, fun v n h => Or.inl ⟨n, h⟩⟩, trivial, fun a ha => by cases ha⟩
    | cons t ts iht =>
      intro s h hok hi
      rw [T.szL_cons] at h
      obtain ⟨o1, o2⟩ := okL_cons.1 hok
      obtain ⟨a1, a2, a3⟩ := h1 t s (by omega) o1 hi
      obtain ⟨b1, b2, b3⟩ := iht (addT t s).2 (by omega) o2 a1.inv
      refine ⟨⟨b1.inv, fun k p hp => b1.more k p (a1.more k p hp), fun v m hm => b1.look v m (a1.look v m hm), fun v m hm => ?_⟩, ⟨b1.rep a2, b2⟩, fun a ha => ?_⟩
      · rcases b1.from' v m hm with ⟨m', h9⟩ | h9
        · rcases a1.from' v m' h9 with h8 | h8
          · exact Or.inl h8
          · exact Or.inr (Or.inl h8)
        · exact Or.inr (Or.inr h9)
      · rcases List.mem_cons.1 ha with rfl | ha
        · have h9 := List.getElem?_eq_getElem a3
          exact (List.getElem?_eq_some_iff.1 (b1.more _ _ h9)).1
        · exact b3 a ha
theorem AInv.nil (ar : List Int) : AInv ar ([], []) := ⟨(fun k p h => by simp at h), (fun k p h => by simp at h), (fun v n h => by cases h), (fun k p h => by simp at h), (fun k p h => by simp at h)⟩
theorem heads_self {P : List Pt} (h : ∀ (k : Nat) (p : Pt), P[k]? = some p → p.like = k) : heads P = P.length := by
  rw [heads]
  have : ∀ k, k ∈ List.range P.length → isHd P k = true := fun k hk => by
    have hl := List.mem_range.1 hk
    rw [isHd, List.getElem?_eq_getElem hl]
    simpa using h k _ (List.getElem?_eq_getElem hl)
  rw [List.countP_eq_length.2 this, List.length_range]
theorem AInv.wf {ar : List Int} {s : List Pt × List (Int × Nat)} (h : AInv ar s) : WFp s.1 := by
  have hv : ∀ (k : Nat) (p : Pt), s.1[k]? = some p → p.v ≠ 0 → p.args = [] ∧ p.f = 0 ∧ 1 ≤ p.v := fun k p hp hv => by
    have h9 := h.ok k p hp
    rw [partErr_var hv, varErr] at h9
    split at h9
    · cases h9
    · split at h9
      · cases h9
      · exact ⟨List.length_eq_zero_iff.1 (by omega), by omega, by omega⟩
  refine ⟨h.args, fun k p hp => ?_, fun k p q hp hq => ?_, fun k p hp => ?_, fun k p hp h0 => ⟨(hv k p hp h0).1, (hv k p hp h0).2.1⟩, fun j k p q hp hq e h0 => ?_, fun _ => 0, fun k p hp => ⟨fun _ => rfl, fun e => absurd (h.self k p hp).1 e⟩, fun k hk => ?_⟩
  · rw [(h.self k p hp).1]; exact (List.getElem?_eq_some_iff.1 hp).1
  · rw [(h.self k p hp).1, hp] at hq; cases hq; omega
  · by_cases h0 : p.v = 0
    · omega
    · have := (hv k p hp h0).2.2; omega
  · have h1 := h.vars j p hp h0
    have h2 := h.vars k q hq (by rw [← e]; exact h0)
    rw [e, h2] at h1; exact (Option.some.inj h1).symm
  · rw [heads_self (fun k p hp => (h.self k p hp).1)]; show 0 + _ ≤ _; omega
end Go.Proofs.YtbkedppkdhfpoabGreat

namespace Go.Proofs.YtbkedppkdhfpoabGreat

def denF (θ : Int → T) (P : List Pt) : Nat → Nat → T
  | 0, _ => ⟨0, 0, []⟩
  | n + 1, k => match P[k]? with
    | none => ⟨0, 0, []⟩
    | some p => if p.v = 0 then ⟨0, p.f, p.args.map (denF θ P n)⟩ else θ p.v
theorem den_ex (θ : Int → T) {P : List Pt} (h : ∀ (k : Nat) (p : Pt), P[k]? = some p → ∀ a, a ∈ p.args → a < k) : ∃ D, IsDen θ P D := by
  have key : ∀ n m k, k < n → k < m → denF θ P n k = denF θ P m k := by
    intro n
    induction n with
    | zero => intro m k h; omega
    | succ n ih =>
      intro m k h1 h2
      obtain ⟨m, rfl⟩ : ∃ j, m = j + 1 := ⟨m - 1, by omega⟩
      rw [denF, denF]
      cases hp : P[k]? with
      | none => rfl
      | some p =>
        simp only
        have : p.args.map (denF θ P n) = p.args.map (denF θ P m) := List.map_congr_left fun a ha => by
          have := h k p hp a ha
          exact ih m a (by omega) (by omega)
        rw [this]
  refine ⟨fun k => denF θ P (k + 1) k, fun k p hp => ?_⟩
  show denF θ P (k + 1) k = _
  rw [denF, hp]
  simp only
  have : p.args.map (denF θ P k) = p.args.map (fun k => denF θ P (k + 1) k) := List.map_congr_left fun a ha => by
    have := h k p hp a ha
    exact key k (a + 1) a (by omega) (by omega)
  rw [this]
theorem rep_den {θ : Int → T} {P : List Pt} {vs : List (Int × Nat)} {D : Nat → T} (hD : IsDen θ P D) : ∀ (n : Nat) (t : T) (k : Nat), t.sz ≤ n → Rep P vs t k → D k = sub θ t := by
  intro n
  induction n with
  | zero => intro t k h; have := t.sz_pos; omega
  | succ n ih =>
    intro t k h hr
    obtain ⟨p, g1, g2, g3, g4, g5⟩ := Rep_iff.1 hr
    rw [hD k p g1, g2, g3]
    by_cases hv : t.v = 0
    · rw [if_pos hv, sub_fn hv]
      obtain ⟨hl, ha⟩ := RepL_at g5
      have : p.args.map D = t.args.map (sub θ) := by
        refine List.ext_getElem? fun i => ?_
        rw [List.getElem?_map, List.getElem?_map]
        cases hi : t.args[i]? with
        | none =>
          rw [List.getElem?_eq_none_iff] at hi
          rw [List.getElem?_eq_none (by omega)]; rfl
        | some x =>
          have hil := (List.getElem?_eq_some_iff.1 hi).1
          have hpi := List.getElem?_eq_getElem (l := p.args) (i := i) (by omega)
          have hx := arg_sz (List.mem_of_getElem? hi)
          rw [hpi]
          simp only [Option.map_some]
          rw [ih x _ (by omega) (ha i x _ hi hpi)]
      rw [this]
    · rw [if_neg hv, sub_var hv]

theorem madeL_get {f : Nat → Option T} : ∀ {l : List Nat} {ts : List T}, madeL f l = some ts → l.length = ts.length ∧ ∀ (i a : Nat), l[i]? = some a → ∃ t, f a = some t ∧ ts[i]? = some t := by
  intro l
  induction l with
  | nil => intro ts h; cases h; exact ⟨rfl, fun i a h => by simp at h⟩
  | cons b l ih =>
    intro ts hm
    rw [madeL] at hm
    split at hm
    · cases hm
    · rename_i u hu
      split at hm
      · cases hm
      · rename_i us hus
        cases hm
        obtain ⟨h1, h2⟩ := ih hus
        refine ⟨by rw [List.length_cons, List.length_cons, h1], fun i a ha => ?_⟩
        cases i with
        | zero =>
          simp only [List.getElem?_cons_zero, Option.some.injEq] at ha
          subst ha
          exact ⟨u, hu, rfl⟩
        | succ i =>
          obtain ⟨t, h3, h4⟩ := h2 i a (by simpa using ha)
          exact ⟨t, h3, by simpa using h4⟩

theorem good_hd {P : List Pt} (h : WFp P) (hg : ∀ k, k < P.length → Good P k) : ∀ k, k < P.length → ∀ (p q : Pt), P[k]? = some p → P[hd P k]? = some q → p.v = 0 → q.v = 0 ∧ p.f = q.f ∧ p.args.length = q.args.length ∧ ∀ (i a b : Nat), p.args[i]? = some a → q.args[i]? = some b → hd P a = hd P b := by
  refine hd_ind h _ (fun k p hp e p' q hp' hq h0 => ?_) (fun k p hp e ih p' q hp' hq h0 => ?_)
  · rw [hd_head h hp e, hp'] at hq; cases hq
    exact ⟨h0, rfl, rfl, fun i a b ha hb => by rw [ha] at hb; cases hb; rfl⟩
  · rw [hp] at hp'; cases hp'
    have hl := h.like k p hp
    have hr := List.getElem?_eq_getElem hl
    have hk := (List.getElem?_eq_some_iff.1 hp).1
    rcases hg k hk p _ hp hr with g | ⟨g1, g2, g3, g4⟩
    · exact absurd h0 g
    · obtain ⟨i1, i2, i3, i4⟩ := ih _ q hr (by rw [hd_like h hp]; exact hq) g1
      refine ⟨i1, g2.trans i2, g3.trans i3, fun i a b ha hb => ?_⟩
      have hil := (List.getElem?_eq_some_iff.1 ha).1
      have hc := List.getElem?_eq_getElem (l := P[p.like].args) (i := i) (by omega)
      exact (g4 i a _ ha hc).trans (i4 i _ b hc hb)
/-- What a function has become is that function, of what its arguments have become. -/
theorem made_fn {P : List Pt} (h : WFp P) (hg : ∀ k, k < P.length → Good P k) {k n : Nat} {p : Pt} {u : T} (hp : P[k]? = some p) (h0 : p.v = 0) (hm : madeF P n k = some u) : ∃ m, n = m + 1 ∧ u.v = 0 ∧ u.f = p.f ∧ u.args.length = p.args.length ∧ ∀ (i a : Nat), p.args[i]? = some a → ∃ t, madeF P m a = some t ∧ u.args[i]? = some t := by
  have hk := (List.getElem?_eq_some_iff.1 hp).1
  obtain ⟨m, r, q, ts, e, h1, h2, h3, rfl⟩ := madeF_some hm
  have hr : r = hd P k := (hd_of h h1).symm
  subst hr
  obtain ⟨g1, g2, g3, g4⟩ := good_hd h hg k hk p q hp h2 h0
  obtain ⟨l1, l2⟩ := madeL_get h3
  refine ⟨m, e, g1, g2.symm, by simp only; omega, fun i a ha => ?_⟩
  have hil := (List.getElem?_eq_some_iff.1 ha).1
  have hb := List.getElem?_eq_getElem (l := q.args) (i := i) (by omega)
  obtain ⟨t, t1, t2⟩ := l2 i _ hb
  have e1 := g4 i a _ ha hb
  refine ⟨t, ?_, t2⟩
  have la := h.args k p hp a (List.mem_of_getElem? ha)
  have lb := h.args _ q h2 _ (List.mem_of_getElem? hb)
  have lq := (List.getElem?_eq_some_iff.1 h2).1
  rw [made_hd h (by omega) (by omega) e1]
  exact t1
theorem fine_arg {P : List Pt} (h : WFp P) (hg : ∀ k, k < P.length → Good P k) {B k a : Nat} {p : Pt} (hp : P[k]? = some p) (h0 : p.v = 0) (ha : a ∈ p.args) (hf : ∃ n u, madeF P n k = some u ∧ u.sz ≤ B) : ∃ n u, madeF P n a = some u ∧ u.sz ≤ B := by
  obtain ⟨n, u, hu, hB⟩ := hf
  obtain ⟨m, _, _, _, _, h4⟩ := made_fn h hg hp h0 hu
  obtain ⟨i, hi⟩ := List.mem_iff_getElem?.1 ha
  obtain ⟨t, t1, t2⟩ := h4 i a hi
  have := arg_sz (List.mem_of_getElem? t2)
  exact ⟨m, t, t1, by omega⟩
theorem fine_occ {P : List Pt} (h : WFp P) (hg : ∀ k, k < P.length → Good P k) {vs : List (Int × Nat)} {B : Nat} : ∀ (n : Nat) (t : T) (k : Nat), t.sz ≤ n → Rep P vs t k → (∃ n u, madeF P n k = some u ∧ u.sz ≤ B) → ∀ v m, v ≠ 0 → occ v t → lookN vs v = some m → ∃ n u, madeF P n m = some u ∧ u.sz ≤ B := by
  intro n
  induction n with
  | zero => intro t k h; have := t.sz_pos; omega
  | succ n ih =>
    intro t k hn hr hf v m hv ho hm
    obtain ⟨p, g1, g2, g3, g4, g5⟩ := Rep_iff.1 hr
    rcases occ_iff.1 ho with e | ho
    · have := g4 (by rw [e]; exact hv)
      rw [e, hm] at this
      cases this
      exact hf
    · obtain ⟨i, x, hx, hox⟩ := occL_mem ho
      obtain ⟨hl, ha⟩ := RepL_at g5
      have hil := (List.getElem?_eq_some_iff.1 hx).1
      have hpi := List.getElem?_eq_getElem (l := p.args) (i := i) (by omega)
      have hsz := arg_sz (List.mem_of_getElem? hx)
      by_cases h0 : p.v = 0
      · exact ih x _ (by omega) (ha i x _ hx hpi) (fine_arg h hg g1 h0 (List.mem_of_getElem? hpi) hf) v m hv hox hm
      · have h9 := (h.var k p g1 h0).1
        have h8 : t.args.length = 0 := by rw [hl, h9]; rfl
        omega
theorem made_rep {P : List Pt} (h : WFp P) (hg : ∀ k, k < P.length → Good P k) {vs : List (Int × Nat)} {σ : Int → T} (hσ : ∀ v m n u, lookN vs v = some m → madeF P n m = some u → σ v = u) : ∀ (N : Nat) (t : T) (k n : Nat) (u : T), t.sz ≤ N → Rep P vs t k → madeF P n k = some u → u = sub σ t := by
  intro N
  induction N with
  | zero => intro t k n u h; have := t.sz_pos; omega
  | succ N ih =>
    intro t k n u hn hr hu
    obtain ⟨p, g1, g2, g3, g4, g5⟩ := Rep_iff.1 hr
    by_cases hv : t.v = 0
    · rw [sub_fn hv]
      obtain ⟨m, e, u1, u2, u3, u4⟩ := made_fn h hg g1 (by rw [g2]; exact hv) hu
      obtain ⟨hl, ha⟩ := RepL_at g5
      have : u.args = t.args.map (sub σ) := by
        refine List.ext_getElem? fun i => ?_
        rw [List.getElem?_map]
        cases hi : t.args[i]? with
        | none =>
          rw [List.getElem?_eq_none_iff] at hi
          rw [List.getElem?_eq_none (by omega)]; rfl
        | some x =>
          have hil := (List.getElem?_eq_some_iff.1 hi).1
          have hpi := List.getElem?_eq_getElem (l := p.args) (i := i) (by omega)
          have hx := arg_sz (List.mem_of_getElem? hi)
          obtain ⟨y, y1, y2⟩ := u4 i _ hpi
          rw [y2]
          simp only [Option.map_some, Option.some.injEq]
          exact ih x _ m y (by omega) (ha i x _ hi hpi) y1
      obtain ⟨a, b, c⟩ := u
      simp only at u1 u2 this
      rw [u1, u2, this, g3]
    · rw [sub_var hv]
      exact (hσ _ _ n u (g4 hv) hu).symm
theorem made_den {θ : Int → T} {P : List Pt} {D : Nat → T} (h : WFp P) (hD : IsDen θ P D) (hr : Resp P D) : ∀ (n k : Nat) (u : T), madeF P n k = some u → sub θ u = D k := by
  intro n
  induction n with
  | zero => intro k u h; cases h
  | succ n ih =>
    intro k u hu
    obtain ⟨m, r, q, ts, e, h1, h2, h3, rfl⟩ := madeF_some hu
    cases e
    obtain ⟨_, p, _, hp⟩ := headF_some h1
    have hk := (List.getElem?_eq_some_iff.1 hp).1
    rw [hr.hd h k hk, hd_of h h1, hD r q h2]
    by_cases hv : q.v = 0
    · rw [if_pos hv, sub_fn (t := ⟨q.v, q.f, ts⟩) hv]
      obtain ⟨l1, l2⟩ := madeL_get h3
      have : ts.map (sub θ) = q.args.map D := by
        refine List.ext_getElem? fun i => ?_
        rw [List.getElem?_map, List.getElem?_map]
        cases hi : q.args[i]? with
        | none =>
          rw [List.getElem?_eq_none_iff] at hi
          rw [List.getElem?_eq_none (by omega)]; rfl
        | some a =>
          obtain ⟨t, t1, t2⟩ := l2 i a hi
          rw [t2]
          simp only [Option.map_some]
          rw [ih a t t1]
      simp only [this]
    · rw [if_neg hv, sub_var (t := ⟨q.v, q.f, ts⟩) hv]
theorem made_ok {ar : List Int} {P : List Pt} (ho : ∀ (k : Nat) (p : Pt), P[k]? = some p → partErr ar p.v p.f p.args.length = 0) : ∀ (n k : Nat) (u : T), madeF P n k = some u → okP ar u := by
  intro n
  induction n with
  | zero => intro k u h; cases h
  | succ n ih =>
    intro k u hu
    obtain ⟨m, r, q, ts, e, h1, h2, h3, rfl⟩ := madeF_some hu
    cases e
    obtain ⟨l1, l2⟩ := madeL_get h3
    refine okP_iff.2 ⟨?_, okL_mem.2 fun t ht => ?_⟩
    · show partErr ar q.v q.f ts.length = 0
      rw [← l1]; exact ho r q h2
    · obtain ⟨i, hi⟩ := List.mem_iff_getElem?.1 ht
      have hi' : ts[i]? = some t := hi
      have hil := (List.getElem?_eq_some_iff.1 hi').1
      have hb := List.getElem?_eq_getElem (l := q.args) (i := i) (by omega)
      obtain ⟨t', t1, t2⟩ := l2 i _ hb
      rw [hi'] at t2; cases t2
      exact ih _ t t1
theorem rank_den {θ : Int → T} {P : List Pt} {D : Nat → T} (h : WFp P) (hD : IsDen θ P D) (hr : Resp P D) : Rank P (fun k => (D k).sz) := by
  refine ⟨fun k p hp => by show (D k).sz = _; rw [hr k p hp], fun k p a hp ha => ?_⟩
  have hv : p.v = 0 := by
    by_cases e : p.v = 0
    · exact e
    · rw [(h.var k p hp e).1] at ha; cases ha
  show (D a).sz < (D k).sz
  rw [hD k p hp, if_pos hv]
  exact arg_sz (s := ⟨0, p.f, p.args.map D⟩) (List.mem_map_of_mem ha)

theorem eqR_mono {f g : List Pt → Nat → Nat → Option (Bool × List Pt)} (h : ∀ P a b x, f P a b = some x → g P a b = some x) : ∀ (l m : List Nat) (P : List Pt) (x : Bool × List Pt), eqR f l m P = some x → eqR g l m P = some x := by
  intro l
  induction l with
  | nil => intro m P x hx; cases m <;> exact hx
  | cons a l ih =>
    intro m P x hx
    cases m with
    | nil => exact hx
    | cons b m =>
      obtain ⟨y, h1, h2⟩ := eqR_cons hx
      rw [eqR, h P a b y h1]
      simp only
      by_cases e : y.1 = true
      · rw [if_pos e] at h2 ⊢; exact ih m y.2 x h2
      · rw [if_neg e] at h2 ⊢; exact h2
theorem joinB_mono {f g : List Pt → Nat → Nat → Option (Bool × List Pt)} (h : ∀ P a b x, f P a b = some x → g P a b = some x) {P : List Pt} {x y : Nat} {p q : Pt} {r : Bool × List Pt} (hr : joinB f P x y p q = some r) : joinB g P x y p q = some r := by
  rw [joinB] at hr ⊢
  by_cases h1 : q.v = 0
  · rw [if_pos h1] at hr ⊢
    by_cases h2 : p.f = q.f
    · rw [if_pos h2, eqL] at hr ⊢
      by_cases h3 : p.args.length = q.args.length
      · rw [if_pos h3] at hr ⊢; exact eqR_mono h _ _ _ _ hr
      · rw [if_neg h3] at hr ⊢; exact hr
    · rw [if_neg h2] at hr ⊢; exact hr
  · rw [if_neg h1] at hr ⊢; exact hr
theorem joinF_mono : ∀ {n m : Nat} {P : List Pt} {i j : Nat} {x : Bool × List Pt}, joinF n P i j = some x → n ≤ m → joinF m P i j = some x := by
  intro n
  induction n with
  | zero => intro m P i j x h; cases h
  | succ n ih =>
    intro m P i j x hx hm
    obtain ⟨n', a, b, e, h1, h2, h3⟩ := joinF_some hx
    cases e
    obtain ⟨m, rfl⟩ : ∃ k, m = k + 1 := ⟨m - 1, by omega⟩
    rw [joinF, h1, h2]
    simp only
    rcases h3 with ⟨e, rfl⟩ | ⟨e, p, q, hp, hq, h3⟩
    · rw [if_pos e]
    · rw [if_neg e, hp, hq]
      simp only
      by_cases hv : q.v < p.v
      · rw [if_pos hv] at h3 ⊢; exact joinB_mono (fun P a b x hx => ih hx (by omega)) h3
      · rw [if_neg hv] at h3 ⊢; exact joinB_mono (fun P a b x hx => ih hx (by omega)) h3
theorem measL_mono {f g : List Pt → Nat → Option (Int × List Pt)} (h : ∀ P a x, f P a = some x → g P a = some x) (r : Nat) : ∀ (l : List Nat) (s : Int) (P : List Pt) (x : Int × List Pt), measL f r l s P = some x → measL g r l s P = some x := by
  intro l
  induction l with
  | nil => intro s P x hx; exact hx
  | cons a l ih =>
    intro s P x hx
    rw [measL] at hx ⊢
    cases hy : f P a with
    | none => rw [hy] at hx; cases hx
    | some y =>
      rw [hy] at hx
      rw [h P a y hy]
      simp only at hx ⊢
      by_cases e : y.1 = -1
      · rw [if_pos e] at hx ⊢; exact hx
      · rw [if_neg e] at hx ⊢
        by_cases e2 : 0 ≤ y.1 ∧ y.1 ≤ 121
        · rw [if_pos e2] at hx ⊢; exact ih _ _ _ hx
        · rw [if_neg e2] at hx; cases hx
theorem measF_mono : ∀ {n m : Nat} {P : List Pt} {k : Nat} {x : Int × List Pt}, measF n P k = some x → n ≤ m → measF m P k = some x := by
  intro n
  induction n with
  | zero => intro m P k x h; cases h
  | succ n ih =>
    intro m P k x hx hm
    obtain ⟨n', r, p, e, h1, h2, h3⟩ := measF_some hx
    cases e
    obtain ⟨m, rfl⟩ : ∃ k, m = k + 1 := ⟨m - 1, by omega⟩
    rw [measF, h1]
    simp only [h2]
    by_cases e : p.size = 0
    · rw [if_pos e] at h3 ⊢; exact measL_mono (fun P a x hx => ih hx (by omega)) _ _ _ _ _ h3
    · rw [if_neg e] at h3 ⊢; exact h3

theorem made_fuel {P : List Pt} : ∀ (n k : Nat) (u : T), madeF P n k = some u → madeF P u.sz k = some u := by
  intro n
  induction n with
  | zero => intro k u h; cases h
  | succ n ih =>
    intro k u hu
    obtain ⟨m, r, q, ts, e, h1, h2, h3, rfl⟩ := madeF_some hu
    cases e
    rw [show (⟨q.v, q.f, ts⟩ : T).sz = T.sz.szL ts + 1 from by rw [T.sz_eq]; simp only; omega]
    rw [madeF, h1]
    have h4 : madeL (madeF P (T.sz.szL ts)) q.args = some ts := by
      have key : ∀ (l : List Nat) (us : List T) (M : Nat), madeL (madeF P n) l = some us → T.sz.szL us ≤ M → madeL (madeF P M) l = some us := by
        intro l
        induction l with
        | nil => intro us M h _; exact h
        | cons a l ihl =>
          intro us M hm hM
          rw [madeL] at hm
          split at hm
          · cases hm
          · rename_i t ht
            split at hm
            · cases hm
            · rename_i ts' hts
              cases hm
              rw [T.szL_cons] at hM
              rw [madeL, madeF_mono (ih a t ht) (show t.sz ≤ M by omega)]
              simp only [ihl ts' M hts (by omega)]
      exact key q.args ts _ h3 (Nat.le_refl _)
    simp only [h2, h4]

/-- What comes out of the variables. -/
theorem outF_ok {P : List Pt} (h : WFp P) {vn : Int → Nat} {M : Nat} : ∀ (l : List Int), (∀ v, v ∈ l → vn v < P.length ∧ ∃ u, madeF P M (vn v) = some u) → ∃ bs, outF P M vn l = some bs ∧ (bs.map Prod.fst).Sublist l ∧
    ∀ v, v ∈ l → ∀ n u, madeF P n (vn v) = some u → (hd P (vn v) ≠ vn v → (v, u) ∈ bs) ∧ (hd P (vn v) = vn v → l.Nodup → v ∉ bs.map Prod.fst) ∧ ∀ v u, (v, u) ∈ bs → v ∈ l ∧ ∃ n, madeF P n (vn v) = some u := by
  intro l
  induction l with
  | nil => intro _; exact ⟨[], rfl, List.Sublist.refl _, fun v hv => by cases hv⟩
  | cons v l ih =>
    intro hl
    obtain ⟨bs, h1, h2, h3⟩ := ih (fun x hx => hl x (List.mem_cons_of_mem _ hx))
    obtain ⟨hv, u1, hu1⟩ := hl v List.mem_cons_self
    have e1 := hd_eq h hv
    have hin : ∀ w u, (w, u) ∈ bs → w ∈ l ∧ ∃ n, madeF P n (vn w) = some u := fun w u hw => by
      have hwl : w ∈ l := h2.subset (List.mem_map_of_mem (f := Prod.fst) hw)
      obtain ⟨_, u', hu⟩ := hl w (List.mem_cons_of_mem _ hwl)
      exact (h3 w hwl M u' hu).2.2 w u hw
    by_cases e : hd P (vn v) = vn v
    · refine ⟨bs, by rw [outF, e1]; simp only [if_pos e]; exact h1, List.Sublist.cons v h2, fun w hw n u hu => ⟨fun hne => ?_, fun he hnd => ?_, fun x y hxy => ⟨List.mem_cons_of_mem _ (hin x y hxy).1, (hin x y hxy).2⟩⟩⟩
      · rcases List.mem_cons.1 hw with rfl | hw
        · exact absurd e hne
        · exact (h3 w hw n u hu).1 hne
      · rw [List.nodup_cons] at hnd
        rcases List.mem_cons.1 hw with rfl | hw
        · exact fun hm => hnd.1 (h2.subset hm)
        · exact (h3 w hw n u hu).2.1 he hnd.2
    · refine ⟨(v, u1) :: bs, ?_, by rw [List.map_cons]; exact List.Sublist.cons_cons v h2, fun w hw n u hu => ⟨fun hne => ?_, fun he hnd => ?_, fun x y hxy => ?_⟩⟩
      · rw [outF, e1]
        simp only [if_neg e, hu1, h1]
      · rcases List.mem_cons.1 hw with rfl | hw
        · rw [madeF_det hu hu1]; exact List.mem_cons_self
        · exact List.mem_cons_of_mem _ ((h3 w hw n u hu).1 hne)
      · rw [List.nodup_cons] at hnd
        rcases List.mem_cons.1 hw with rfl | hw
        · exact absurd he e
        · rw [List.map_cons, List.mem_cons]
          rintro (h9 | h9)
          · have h9' : w = v := h9
            rw [h9'] at hw; exact hnd.1 hw
          · exact (h3 w hw n u hu).2.1 he hnd.2 h9
      · rcases List.mem_cons.1 hxy with h9 | h9
        · cases h9; exact ⟨List.mem_cons_self, M, hu1⟩
        · exact ⟨List.mem_cons_of_mem _ (hin x y h9).1, (hin x y h9).2⟩
end Go.Proofs.YtbkedppkdhfpoabGreat
