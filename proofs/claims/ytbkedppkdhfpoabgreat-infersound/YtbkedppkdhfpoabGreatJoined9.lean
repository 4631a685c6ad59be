/- Terms and the parts that are added for them. What parts have become, and what variables make of it. The unifier answers, and right: what makes both the same, made of no more than it must be. What a part is to another one: greater, the same, or neither; and what need not be asked. No word of the program's memory here. -/
import Derived.Test.YtbkedppkdhfpoabGreatJoined8
namespace Go.Proofs.YtbkedppkdhfpoabGreat
def sub (θ : Int → T) : T → T
  | ⟨v, f, args⟩ => if v = 0 then ⟨0, f, subL args⟩ else θ v
  where
  subL : List T → List T
    | [] => []
    | t :: ts => sub θ t :: subL ts
theorem subL_map (θ : Int → T) (ts : List T) : sub.subL θ ts = ts.map (sub θ) := by
  induction ts with
  | nil => rfl
  | cons t ts ih => rw [sub.subL, ih]; rfl
theorem sub_fn {θ : Int → T} {t : T} (h : t.v = 0) : sub θ t = ⟨0, t.f, t.args.map (sub θ)⟩ := by
  cases t; rw [sub, if_pos h, subL_map]
theorem sub_var {θ : Int → T} {t : T} (h : t.v ≠ 0) : sub θ t = θ t.v := by
  cases t; rw [sub, if_neg h]
def Rep (P : List Pt) (vs : List (Int × Nat)) : T → Nat → Prop
  | ⟨v, f, args⟩, k => ∃ p, P[k]? = some p ∧ p.v = v ∧ p.f = f ∧ (v ≠ 0 → lookN vs v = some k) ∧ RepL args p.args
  where
  RepL : List T → List Nat → Prop
    | [], [] => True
    | t :: ts, a :: l => Rep P vs t a ∧ RepL ts l
    | _, _ => False
theorem Rep_iff {P : List Pt} {vs : List (Int × Nat)} {t : T} {k : Nat} : Rep P vs t k ↔ ∃ p, P[k]? = some p ∧ p.v = t.v ∧ p.f = t.f ∧ (t.v ≠ 0 → lookN vs t.v = some k) ∧ Rep.RepL P vs t.args p.args := by cases t; exact Iff.rfl
theorem RepL_at {P : List Pt} {vs : List (Int × Nat)} : ∀ {ts : List T} {l : List Nat}, Rep.RepL P vs ts l → ts.length = l.length ∧ ∀ (i : Nat) (t : T) (a : Nat), ts[i]? = some t → l[i]? = some a → Rep P vs t a := by
  intro ts
  induction ts with
  | nil =>
    intro l h
    cases l with
    | nil => exact ⟨rfl, fun i t a h => by simp at h⟩
    | cons a l => exact h.elim
  | cons t ts ih =>
    intro l h
    cases l with
    | nil => exact h.elim
    | cons a l =>
      obtain ⟨h1, h2⟩ := ih h.2
      refine ⟨by rw [List.length_cons, List.length_cons, h1], fun i x b hx hb => ?_⟩
      cases i with
      | zero =>
        simp only [List.getElem?_cons_zero, Option.some.injEq] at hx hb
        subst hx hb; exact h.1
      | succ i => exact h2 i x b (by simpa using hx) (by simpa using hb)
theorem Rep_more {P P' : List Pt} {vs vs' : List (Int × Nat)} (h1 : ∀ (k : Nat) (p : Pt), P[k]? = some p → ∃ p', P'[k]? = some p' ∧ p'.v = p.v ∧ p'.f = p.f ∧ p'.args = p.args) (h2 : ∀ v n, lookN vs v = some n → lookN vs' v = some n) :
    ∀ (n : Nat), (∀ (t : T) (k : Nat), t.sz ≤ n → Rep P vs t k → Rep P' vs' t k) ∧ (∀ (ts : List T) (l : List Nat), T.sz.szL ts ≤ n → Rep.RepL P vs ts l → Rep.RepL P' vs' ts l) := by
  intro n
  induction n with
  | zero =>
    refine ⟨fun t k h => by have := t.sz_pos; omega, fun ts l h hr => ?_⟩
    cases ts with
    | nil => cases l <;> exact hr
    | cons t ts => have := t.sz_pos; rw [T.szL_cons] at h; omega
  | succ n ih =>
    have h3 : ∀ (t : T) (k : Nat), t.sz ≤ n + 1 → Rep P vs t k → Rep P' vs' t k := fun t k h hr => by
      have he := T.sz_eq t
      obtain ⟨p, g1, g2, g3, g4, g5⟩ := Rep_iff.1 hr
      obtain ⟨p', k1, k2, k3, k4⟩ := h1 k p g1
      exact Rep_iff.2 ⟨p', k1, k2.trans g2, k3.trans g3, fun hv => h2 _ _ (g4 hv), by rw [k4]; exact ih.2 t.args p.args (by omega) g5⟩
    refine ⟨h3, fun ts => ?_⟩
    induction ts with
    | nil => intro l _ hr; cases l <;> exact hr
    | cons t ts iht =>
      intro l h hr
      rw [T.szL_cons] at h
      cases l with
      | nil => exact hr.elim
      | cons a l => exact ⟨h3 t a (by omega) hr.1, iht l (by omega) hr.2⟩
def occ (v : Int) : T → Prop
  | ⟨w, _, args⟩ => w = v ∨ occL args
  where
  occL : List T → Prop
    | [] => False
    | t :: ts => occ v t ∨ occL ts
theorem occ_iff {v : Int} {t : T} : occ v t ↔ t.v = v ∨ occ.occL v t.args := by cases t; exact Iff.rfl
theorem occL_mem {v : Int} {ts : List T} (h : occ.occL v ts) : ∃ (i : Nat) (t : T), ts[i]? = some t ∧ occ v t := by
  induction ts with
  | nil => exact h.elim
  | cons t ts ih =>
    rcases h with h | h
    · exact ⟨0, t, rfl, h⟩
    · obtain ⟨i, x, h1, h2⟩ := ih h
      exact ⟨i + 1, x, by simpa using h1, h2⟩
structure AInv (ar : List Int) (s : List Pt × List (Int × Nat)) : Prop where
  args : ∀ (k : Nat) (p : Pt), s.1[k]? = some p → ∀ a, a ∈ p.args → a < k
  self : ∀ (k : Nat) (p : Pt), s.1[k]? = some p → p.like = k ∧ p.size = 0
  keys : ∀ (v : Int) (n : Nat), lookN s.2 v = some n → v ≠ 0 ∧ ∃ p, s.1[n]? = some p ∧ p.v = v
  vars : ∀ (k : Nat) (p : Pt), s.1[k]? = some p → p.v ≠ 0 → lookN s.2 p.v = some k
  ok : ∀ (k : Nat) (p : Pt), s.1[k]? = some p → partErr ar p.v p.f p.args.length = 0
structure AO (ar : List Int) (s s' : List Pt × List (Int × Nat)) (oc : Int → Prop) : Prop where
  inv : AInv ar s'
  more : ∀ (k : Nat) (p : Pt), s.1[k]? = some p → s'.1[k]? = some p
  look : ∀ (v : Int) (n : Nat), lookN s.2 v = some n → lookN s'.2 v = some n
  from' : ∀ (v : Int) (n : Nat), lookN s'.2 v = some n → (∃ m, lookN s.2 v = some m) ∨ oc v
theorem AO.rep {ar : List Int} {s s' : List Pt × List (Int × Nat)} {oc : Int → Prop} (h : AO ar s s' oc) {t : T} {k : Nat} (hr : Rep s.1 s.2 t k) : Rep s'.1 s'.2 t k :=
  (Rep_more (fun k p hp => ⟨p, h.more k p hp, rfl, rfl, rfl⟩) h.look t.sz).1 t k (Nat.le_refl _) hr
theorem add_rep {ar : List Int} : ∀ (n : Nat), (∀ (t : T) (s : List Pt × List (Int × Nat)), t.sz ≤ n → okP ar t → AInv ar s → AO ar s (addT t s).2 (fun v => occ v t) ∧ Rep (addT t s).2.1 (addT t s).2.2 t (addT t s).1 ∧ (addT t s).1 < (addT t s).2.1.length) ∧
    (∀ (ts : List T) (s : List Pt × List (Int × Nat)), T.sz.szL ts ≤ n → okP.okL ar ts → AInv ar s → AO ar s (addT.addL ts s).2 (fun v => occ.occL v ts) ∧ Rep.RepL (addT.addL ts s).2.1 (addT.addL ts s).2.2 ts (addT.addL ts s).1 ∧ ∀ a, a ∈ (addT.addL ts s).1 → a < (addT.addL ts s).2.1.length) := by
  intro n
  induction n with
  | zero =>
    refine ⟨fun t s h => by have := t.sz_pos; omega, fun ts s h _ hi => ?_⟩
    cases ts with
    | nil => exact ⟨⟨hi, fun _ _ h => h, fun _ _ h => h, fun v n h => Or.inl ⟨n, h⟩⟩, trivial, fun a ha => by cases ha⟩
    | cons t ts => have := t.sz_pos; rw [T.szL_cons] at h; omega
  | succ n ih =>
    have h1 : ∀ (t : T) (s : List Pt × List (Int × Nat)), t.sz ≤ n + 1 → okP ar t → AInv ar s → AO ar s (addT t s).2 (fun v => occ v t) ∧ Rep (addT t s).2.1 (addT t s).2.2 t (addT t s).1 ∧ (addT t s).1 < (addT t s).2.1.length := fun t s h hok hi => by
      have he := T.sz_eq t
      have hpe := (okP_iff.1 hok).1
      cases hlk : lookN s.2 t.v with
      | some m =>
        rw [addT_known hlk]
        obtain ⟨hv, p, hp, hpv⟩ := hi.keys t.v m hlk
        have hm := (List.getElem?_eq_some_iff.1 hp).1
        obtain ⟨hf, ha⟩ := ok_var hok hv
        refine ⟨⟨hi, fun _ _ h => h, fun _ _ h => h, fun v n h => Or.inl ⟨n, h⟩⟩, Rep_iff.2 ⟨p, hp, hpv, ?_, fun _ => hlk, ?_⟩, hm⟩
        · have h9 := hi.ok m p hp
          rw [partErr_var (by rw [hpv]; exact hv), varErr] at h9
          split at h9
          · cases h9
          · split at h9
            · cases h9
            · omega
        · have h9 := hi.ok m p hp
          rw [partErr_var (by rw [hpv]; exact hv), varErr] at h9
          have : p.args = [] := by
            split at h9
            · cases h9
            · split at h9
              · cases h9
              · exact List.length_eq_zero_iff.1 (by omega)
          rw [ha, this]; trivial
      | none =>
        obtain ⟨g1, g2, g3⟩ := ih.2 t.args s (by omega) (okP_iff.1 hok).2 hi
        have hlen := addL_length t.args s
        rw [addT_new hlk]
        generalize hL : addT.addL t.args s = L at g1 g2 g3 hlen ⊢
        obtain ⟨l, P, vs⟩ := L
        simp only at g1 g2 g3 hlen ⊢
        have hnew : (P ++ [(⟨t.v, t.f, l, P.length, 0⟩ : Pt)])[P.length]? = some ⟨t.v, t.f, l, P.length, 0⟩ := by simp
        have hcase : ∀ (k : Nat) (p : Pt), (P ++ [(⟨t.v, t.f, l, P.length, 0⟩ : Pt)])[k]? = some p → P[k]? = some p ∨ (k = P.length ∧ p = ⟨t.v, t.f, l, P.length, 0⟩) := fun k p hp => by
          by_cases hk : k < P.length
          · rw [List.getElem?_append_left hk] at hp; exact Or.inl hp
          · by_cases hk2 : k = P.length
            · subst hk2; rw [hnew] at hp; cases hp; exact Or.inr ⟨rfl, rfl⟩
            · rw [List.getElem?_eq_none (by simp; omega)] at hp; cases hp
        have hmore : ∀ (k : Nat) (p : Pt), P[k]? = some p → (P ++ [(⟨t.v, t.f, l, P.length, 0⟩ : Pt)])[k]? = some p := fun k p hp => by
          rw [List.getElem?_append_left (List.getElem?_eq_some_iff.1 hp).1]; exact hp
        have hlkn : t.v ≠ 0 → ∀ m, lookN vs t.v ≠ some m := fun hv m hm => by
          rcases g1.from' _ _ hm with ⟨m', h9⟩ | h9
          · rw [hlk] at h9; cases h9
          · rw [(ok_var hok hv).2] at h9; exact h9
        have hlook : ∀ (v : Int) (m : Nat), lookN vs v = some m → lookN (if t.v = 0 then vs else (t.v, P.length) :: vs) v = some m := fun v m hm => by
          by_cases hv : t.v = 0
          · rw [if_pos hv]; exact hm
          · rw [if_neg hv, lookN, if_neg (fun e => by
              have e' : t.v = v := e
              rw [← e'] at hm; exact hlkn hv m hm)]; exact hm
        have hself : t.v ≠ 0 → lookN (if t.v = 0 then vs else (t.v, P.length) :: vs) t.v = some P.length := fun hv => by rw [if_neg hv, lookN, if_pos rfl]
        refine ⟨⟨⟨fun k p hp a ha => ?_, fun k p hp => ?_, fun v m hm => ?_, fun k p hp hv => ?_, fun k p hp => ?_⟩, fun k p hp => hmore k p (g1.more k p hp), fun v m hm => hlook v m (g1.look v m hm), fun v m hm => ?_⟩, ?_, by simp⟩
        · rcases hcase k p hp with h9 | ⟨rfl, rfl⟩
          · exact g1.inv.args k p h9 a ha
          · exact g3 a ha
        · rcases hcase k p hp with h9 | ⟨rfl, rfl⟩
          · exact g1.inv.self k p h9
          · exact ⟨rfl, rfl⟩
        · by_cases hv : t.v = 0
          · rw [if_pos hv] at hm
            obtain ⟨k1, p, k2, k3⟩ := g1.inv.keys v m hm
            exact ⟨k1, p, hmore m p k2, k3⟩
          · rw [if_neg hv, lookN] at hm
            by_cases e : t.v = v
            · rw [if_pos e] at hm
              cases hm
              exact ⟨by rw [← e]; exact hv, _, hnew, e⟩
            · rw [if_neg e] at hm
              obtain ⟨k1, p, k2, k3⟩ := g1.inv.keys v m hm
              exact ⟨k1, p, hmore m p k2, k3⟩
        · rcases hcase k p hp with h9 | ⟨rfl, rfl⟩
          · exact hlook _ _ (g1.inv.vars k p h9 hv)
          · exact hself hv
        · rcases hcase k p hp with h9 | ⟨rfl, rfl⟩
          · exact g1.inv.ok k p h9
          · show partErr ar t.v t.f l.length = 0
            rw [hlen]; exact hpe
        · by_cases hv : t.v = 0
          · rw [if_pos hv] at hm
            rcases g1.from' v m hm with h9 | h9
            · exact Or.inl h9
            · exact Or.inr (occ_iff.2 (Or.inr h9))
          · rw [if_neg hv, lookN] at hm
            by_cases e : t.v = v
            · exact Or.inr (occ_iff.2 (Or.inl e))
            · rw [if_neg e] at hm
              rcases g1.from' v m hm with h9 | h9
              · exact Or.inl h9
              · exact Or.inr (occ_iff.2 (Or.inr h9))
        · refine Rep_iff.2 ⟨_, hnew, rfl, rfl, hself, ?_⟩
          exact (Rep_more (fun k p hp => ⟨p, hmore k p hp, rfl, rfl, rfl⟩) hlook (T.sz.szL t.args)).2 t.args l (Nat.le_refl _) g2
    refine ⟨h1, fun ts => ?_⟩
    induction ts with
    | nil => intro s _ _ hi; exact ⟨⟨hi, fun _ _ h => h, fun _ _ h => h, fun v n h => Or.inl ⟨n, h⟩⟩, trivial, fun a ha => by cases ha⟩
    | cons t ts iht =>
      intro s h hok hi
      rw [T.szL_cons] at h
      obtain ⟨o1, o2⟩ := okL_cons.1 hok
      obtain ⟨a1, a2, a3⟩ := h1 t s (by omega) o1 hi
      obtain ⟨b1, b2, b3⟩ := iht (addT t s).2 (by omega) o2 a1.inv
      refine ⟨⟨b1.inv, fun k p hp => b1.more k p (a1.more k p hp), fun v m hm => b1.look v m (a1.look v m hm), fun v m hm => ?_⟩, ⟨b1.rep a2, b2⟩, fun a ha => ?_⟩
      · rcases b1.from' v m hm with ⟨m', h9⟩ | h9
        · rcases a1.from' v m' h9 with h8 | h8
          · exact Or.inl h8
          · exact Or.inr (Or.inl h8)
        · exact Or.inr (Or.inr h9)
      · rcases List.mem_cons.1 ha with rfl | ha
        · have h9 := List.getElem?_eq_getElem a3
          exact (List.getElem?_eq_some_iff.1 (b1.more _ _ h9)).1
        · exact b3 a ha
theorem AInv.nil (ar : List Int) : AInv ar ([], []) := ⟨(fun k p h => by simp at h), (fun k p h => by simp at h), (fun v n h => by cases h), (fun k p h => by simp at h), (fun k p h => by simp at h)⟩
theorem heads_self {P : List Pt} (h : ∀ (k : Nat) (p : Pt), P[k]? = some p → p.like = k) : heads P = P.length := by
  rw [heads]
  have : ∀ k, k ∈ List.range P.length → isHd P k = true := fun k hk => by
    have hl := List.mem_range.1 hk
    rw [isHd, List.getElem?_eq_getElem hl]
    simpa using h k _ (List.getElem?_eq_getElem hl)
  rw [List.countP_eq_length.2 this, List.length_range]
theorem AInv.wf {ar : List Int} {s : List Pt × List (Int × Nat)} (h : AInv ar s) : WFp s.1 := by
  have hv : ∀ (k : Nat) (p : Pt), s.1[k]? = some p → p.v ≠ 0 → p.args = [] ∧ p.f = 0 ∧ 1 ≤ p.v := fun k p hp hv => by
    have h9 := h.ok k p hp
    rw [partErr_var hv, varErr] at h9
    split at h9
    · cases h9
    · split at h9
      · cases h9
      · exact ⟨List.length_eq_zero_iff.1 (by omega), by omega, by omega⟩
  refine ⟨h.args, fun k p hp => ?_, fun k p q hp hq => ?_, fun k p hp => ?_, fun k p hp h0 => ⟨(hv k p hp h0).1, (hv k p hp h0).2.1⟩, fun j k p q hp hq e h0 => ?_, fun _ => 0, fun k p hp => ⟨fun _ => rfl, fun e => absurd (h.self k p hp).1 e⟩, fun k hk => ?_⟩
  · rw [(h.self k p hp).1]; exact (List.getElem?_eq_some_iff.1 hp).1
  · rw [(h.self k p hp).1, hp] at hq; cases hq; omega
  · by_cases h0 : p.v = 0
    · omega
    · have := (hv k p hp h0).2.2; omega
  · have h1 := h.vars j p hp h0
    have h2 := h.vars k q hq (by rw [← e]; exact h0)
    rw [e, h2] at h1; exact (Option.some.inj h1).symm
  · rw [heads_self (fun k p hp => (h.self k p hp).1)]; show 0 + _ ≤ _; omega
end Go.Proofs.YtbkedppkdhfpoabGreat

namespace Go.Proofs.YtbkedppkdhfpoabGreat
def denF (θ : Int → T) (P : List Pt) : Nat → Nat → T
  | 0, _ => ⟨0, 0, []⟩
  | n + 1, k => match P[k]? with
    | none => ⟨0, 0, []⟩
    | some p => if p.v = 0 then ⟨0, p.f, p.args.map (denF θ P n)⟩ else θ p.v
theorem den_ex (θ : Int → T) {P : List Pt} (h : ∀ (k : Nat) (p : Pt), P[k]? = some p → ∀ a, a ∈ p.args → a < k) : ∃ D, IsDen θ P D := by
  have key : ∀ n m k, k < n → k < m → denF θ P n k = denF θ P m k := by
    intro n
    induction n with
    | zero => intro m k h; omega
    | succ n ih =>
      intro m k h1 h2
      obtain ⟨m, rfl⟩ : ∃ j, m = j + 1 := ⟨m - 1, by omega⟩
      rw [denF, denF]
      cases hp : P[k]? with
      | none => rfl
      | some p =>
        simp only
        have : p.args.map (denF θ P n) = p.args.map (denF θ P m) := List.map_congr_left fun a ha => by
          have := h k p hp a ha
          exact ih m a (by omega) (by omega)
        rw [this]
  refine ⟨fun k => denF θ P (k + 1) k, fun k p hp => ?_⟩
  show denF θ P (k + 1) k = _
  rw [denF, hp]
  simp only
  have : p.args.map (denF θ P k) = p.args.map (fun k => denF θ P (k + 1) k) := List.map_congr_left fun a ha => by
    have := h k p hp a ha
    exact key k (a + 1) a (by omega) (by omega)
  rw [this]
theorem rep_den {θ : Int → T} {P : List Pt} {vs : List (Int × Nat)} {D : Nat → T} (hD : IsDen θ P D) : ∀ (n : Nat) (t : T) (k : Nat), t.sz ≤ n → Rep P vs t k → D k = sub θ t := by
  intro n
  induction n with
  | zero => intro t k h; have := t.sz_pos; omega
  | succ n ih =>
    intro t k h hr
    obtain ⟨p, g1, g2, g3, g4, g5⟩ := Rep_iff.1 hr
    rw [hD k p g1, g2, g3]
    by_cases hv : t.v = 0
    · rw [if_pos hv, sub_fn hv]
      obtain ⟨hl, ha⟩ := RepL_at g5
      have : p.args.map D = t.args.map (sub θ) := by
        refine List.ext_getElem? fun i => ?_
        rw [List.getElem?_map, List.getElem?_map]
        cases hi : t.args[i]? with
        | none =>
          rw [List.getElem?_eq_none_iff] at hi
          rw [List.getElem?_eq_none (by omega)]; rfl
        | some x =>
          have hil := (List.getElem?_eq_some_iff.1 hi).1
          have hpi := List.getElem?_eq_getElem (l := p.args) (i := i) (by omega)
          have hx := arg_sz (List.mem_of_getElem? hi)
          rw [hpi]
          simp only [Option.map_some]
          rw [ih x _ (by omega) (ha i x _ hi hpi)]
      rw [this]
    · rw [if_neg hv, sub_var hv]
theorem madeL_get {f : Nat → Option T} : ∀ {l : List Nat} {ts : List T}, madeL f l = some ts → l.length = ts.length ∧ ∀ (i a : Nat), l[i]? = some a → ∃ t, f a = some t ∧ ts[i]? = some t := by
  intro l
  induction l with
  | nil => intro ts h; cases h; exact ⟨rfl, fun i a h => by simp at h⟩
  | cons b l ih =>
    intro ts hm
    rw [madeL] at hm
    split at hm
    · cases hm
    · rename_i u hu
      split at hm
      · cases hm
      · rename_i us hus
        cases hm
        obtain ⟨h1, h2⟩ := ih hus
        refine ⟨by rw [List.length_cons, List.length_cons, h1], fun i a ha => ?_⟩
        cases i with
        | zero =>
          simp only [List.getElem?_cons_zero, Option.some.injEq] at ha
          subst ha
          exact ⟨u, hu, rfl⟩
        | succ i =>
          obtain ⟨t, h3, h4⟩ := h2 i a (by simpa using ha)
          exact ⟨t, h3, by simpa using h4⟩
theorem good_hd {P : List Pt} (h : WFp P) (hg : ∀ k, k < P.length → Good P k) : ∀ k, k < P.length → ∀ (p q : Pt), P[k]? = some p → P[hd P k]? = some q → p.v = 0 → q.v = 0 ∧ p.f = q.f ∧ p.args.length = q.args.length ∧ ∀ (i a b : Nat), p.args[i]? = some a → q.args[i]? = some b → hd P a = hd P b := by
  refine hd_ind h _ (fun k p hp e p' q hp' hq h0 => ?_) (fun k p hp e ih p' q hp' hq h0 => ?_)
  · rw [hd_head h hp e, hp'] at hq; cases hq
    exact ⟨h0, rfl, rfl, fun i a b ha hb => by rw [ha] at hb; cases hb; rfl⟩
  · rw [hp] at hp'; cases hp'
    have hl := h.like k p hp
    have hr := List.getElem?_eq_getElem hl
    have hk := (List.getElem?_eq_some_iff.1 hp).1
    rcases hg k hk p _ hp hr with g | ⟨g1, g2, g3, g4⟩
    · exact absurd h0 g
    · obtain ⟨i1, i2, i3, i4⟩ := ih _ q hr (by rw [hd_like h hp]; exact hq) g1
      refine ⟨i1, g2.trans i2, g3.trans i3, fun i a b ha hb => ?_⟩
      have hil := (List.getElem?_eq_some_iff.1 ha).1
      have hc := List.getElem?_eq_getElem (l := P[p.like].args) (i := i) (by omega)
      exact (g4 i a _ ha hc).trans (i4 i _ b hc hb)
theorem made_fn {P : List Pt} (h : WFp P) (hg : ∀ k, k < P.length → Good P k) {k n : Nat} {p : Pt} {u : T} (hp : P[k]? = some p) (h0 : p.v = 0) (hm : madeF P n k = some u) : ∃ m, n = m + 1 ∧ u.v = 0 ∧ u.f = p.f ∧ u.args.length = p.args.length ∧ ∀ (i a : Nat), p.args[i]? = some a → ∃ t, madeF P m a = some t ∧ u.args[i]? = some t := by
  have hk := (List.getElem?_eq_some_iff.1 hp).1
  obtain ⟨m, r, q, ts, e, h1, h2, h3, rfl⟩ := madeF_some hm
  have hr : r = hd P k := (hd_of h h1).symm
  subst hr
  obtain ⟨g1, g2, g3, g4⟩ := good_hd h hg k hk p q hp h2 h0
  obtain ⟨l1, l2⟩ := madeL_get h3
  refine ⟨m, e, g1, g2.symm, by simp only; omega, fun i a ha => ?_⟩
  have hil := (List.getElem?_eq_some_iff.1 ha).1
  have hb := List.getElem?_eq_getElem (l := q.args) (i := i) (by omega)
  obtain ⟨t, t1, t2⟩ := l2 i _ hb
  have e1 := g4 i a _ ha hb
  refine ⟨t, ?_, t2⟩
  have la := h.args k p hp a (List.mem_of_getElem? ha)
  have lb := h.args _ q h2 _ (List.mem_of_getElem? hb)
  have lq := (List.getElem?_eq_some_iff.1 h2).1
  rw [made_hd h (by omega) (by omega) e1]
  exact t1
theorem fine_arg {P : List Pt} (h : WFp P) (hg : ∀ k, k < P.length → Good P k) {B k a : Nat} {p : Pt} (hp : P[k]? = some p) (h0 : p.v = 0) (ha : a ∈ p.args) (hf : ∃ n u, madeF P n k = some u ∧ u.sz ≤ B) : ∃ n u, madeF P n a = some u ∧ u.sz ≤ B := by
  obtain ⟨n, u, hu, hB⟩ := hf
  obtain ⟨m, _, _, _, _, h4⟩ := made_fn h hg hp h0 hu
  obtain ⟨i, hi⟩ := List.mem_iff_getElem?.1 ha
  obtain ⟨t, t1, t2⟩ := h4 i a hi
  have := arg_sz (List.mem_of_getElem? t2)
  exact ⟨m, t, t1, by omega⟩
theorem fine_occ {P : List Pt} (h : WFp P) (hg : ∀ k, k < P.length → Good P k) {vs : List (Int × Nat)} {B : Nat} : ∀ (n : Nat) (t : T) (k : Nat), t.sz ≤ n → Rep P vs t k → (∃ n u, madeF P n k = some u ∧ u.sz ≤ B) → ∀ v m, v ≠ 0 → occ v t → lookN vs v = some m → ∃ n u, madeF P n m = some u ∧ u.sz ≤ B := by
  intro n
  induction n with
  | zero => intro t k h; have := t.sz_pos; omega
  | succ n ih =>
    intro t k hn hr hf v m hv ho hm
    obtain ⟨p, g1, g2, g3, g4, g5⟩ := Rep_iff.1 hr
    rcases occ_iff.1 ho with e | ho
    · have := g4 (by rw [e]; exact hv)
      rw [e, hm] at this
      cases this
      exact hf
    · obtain ⟨i, x, hx, hox⟩ := occL_mem ho
      obtain ⟨hl, ha⟩ := RepL_at g5
      have hil := (List.getElem?_eq_some_iff.1 hx).1
      have hpi := List.getElem?_eq_getElem (l := p.args) (i := i) (by omega)
      have hsz := arg_sz (List.mem_of_getElem? hx)
      by_cases h0 : p.v = 0
      · exact ih x _ (by omega) (ha i x _ hx hpi) (fine_arg h hg g1 h0 (List.mem_of_getElem? hpi) hf) v m hv hox hm
      · have h9 := (h.var k p g1 h0).1
        have h8 : t.args.length = 0 := by rw [hl, h9]; rfl
        omega
theorem made_rep {P : List Pt} (h : WFp P) (hg : ∀ k, k < P.length → Good P k) {vs : List (Int × Nat)} {σ : Int → T} (hσ : ∀ v m n u, lookN vs v = some m → madeF P n m = some u → σ v = u) : ∀ (N : Nat) (t : T) (k n : Nat) (u : T), t.sz ≤ N → Rep P vs t k → madeF P n k = some u → u = sub σ t := by
  intro N
  induction N with
  | zero => intro t k n u h; have := t.sz_pos; omega
  | succ N ih =>
    intro t k n u hn hr hu
    obtain ⟨p, g1, g2, g3, g4, g5⟩ := Rep_iff.1 hr
    by_cases hv : t.v = 0
    · rw [sub_fn hv]
      obtain ⟨m, e, u1, u2, u3, u4⟩ := made_fn h hg g1 (by rw [g2]; exact hv) hu
      obtain ⟨hl, ha⟩ := RepL_at g5
      have : u.args = t.args.map (sub σ) := by
        refine List.ext_getElem? fun i => ?_
        rw [List.getElem?_map]
        cases hi : t.args[i]? with
        | none =>
          rw [List.getElem?_eq_none_iff] at hi
          rw [List.getElem?_eq_none (by omega)]; rfl
        | some x =>
          have hil := (List.getElem?_eq_some_iff.1 hi).1
          have hpi := List.getElem?_eq_getElem (l := p.args) (i := i) (by omega)
          have hx := arg_sz (List.mem_of_getElem? hi)
          obtain ⟨y, y1, y2⟩ := u4 i _ hpi
          rw [y2]
          simp only [Option.map_some, Option.some.injEq]
          exact ih x _ m y (by omega) (ha i x _ hi hpi) y1
      obtain ⟨a, b, c⟩ := u
      simp only at u1 u2 this
      rw [u1, u2, this, g3]
    · rw [sub_var hv]
      exact (hσ _ _ n u (g4 hv) hu).symm
theorem made_den {θ : Int → T} {P : List Pt} {D : Nat → T} (h : WFp P) (hD : IsDen θ P D) (hr : Resp P D) : ∀ (n k : Nat) (u : T), madeF P n k = some u → sub θ u = D k := by
  intro n
  induction n with
  | zero => intro k u h; cases h
  | succ n ih =>
    intro k u hu
    obtain ⟨m, r, q, ts, e, h1, h2, h3, rfl⟩ := madeF_some hu
    cases e
    obtain ⟨_, p, _, hp⟩ := headF_some h1
    have hk := (List.getElem?_eq_some_iff.1 hp).1
    rw [hr.hd h k hk, hd_of h h1, hD r q h2]
    by_cases hv : q.v = 0
    · rw [if_pos hv, sub_fn (t := ⟨q.v, q.f, ts⟩) hv]
      obtain ⟨l1, l2⟩ := madeL_get h3
      have : ts.map (sub θ) = q.args.map D := by
        refine List.ext_getElem? fun i => ?_
        rw [List.getElem?_map, List.getElem?_map]
        cases hi : q.args[i]? with
        | none =>
          rw [List.getElem?_eq_none_iff] at hi
          rw [List.getElem?_eq_none (by omega)]; rfl
        | some a =>
          obtain ⟨t, t1, t2⟩ := l2 i a hi
          rw [t2]
          simp only [Option.map_some]
          rw [ih a t t1]
      simp only [this]
    · rw [if_neg hv, sub_var (t := ⟨q.v, q.f, ts⟩) hv]
theorem made_ok {ar : List Int} {P : List Pt} (ho : ∀ (k : Nat) (p : Pt), P[k]? = some p → partErr ar p.v p.f p.args.length = 0) : ∀ (n k : Nat) (u : T), madeF P n k = some u → okP ar u := by
  intro n
  induction n with
  | zero => intro k u h; cases h
  | succ n ih =>
    intro k u hu
    obtain ⟨m, r, q, ts, e, h1, h2, h3, rfl⟩ := madeF_some hu
    cases e
    obtain ⟨l1, l2⟩ := madeL_get h3
    refine okP_iff.2 ⟨?_, okL_mem.2 fun t ht => ?_⟩
    · show partErr ar q.v q.f ts.length = 0
      rw [← l1]; exact ho r q h2
    · obtain ⟨i, hi⟩ := List.mem_iff_getElem?.1 ht
      have hi' : ts[i]? = some t := hi
      have hil := (List.getElem?_eq_some_iff.1 hi').1
      have hb := List.getElem?_eq_getElem (l := q.args) (i := i) (by omega)
      obtain ⟨t', t1, t2⟩ := l2 i _ hb
      rw [hi'] at t2; cases t2
      exact ih _ t t1
theorem rank_den {θ : Int → T} {P : List Pt} {D : Nat → T} (h : WFp P) (hD : IsDen θ P D) (hr : Resp P D) : Rank P (fun k => (D k).sz) := by
  refine ⟨fun k p hp => by show (D k).sz = _; rw [hr k p hp], fun k p a hp ha => ?_⟩
  have hv : p.v = 0 := by
    by_cases e : p.v = 0
    · exact e
    · rw [(h.var k p hp e).1] at ha; cases ha
  show (D a).sz < (D k).sz
  rw [hD k p hp, if_pos hv]
  exact arg_sz (s := ⟨0, p.f, p.args.map D⟩) (List.mem_map_of_mem ha)
theorem eqR_mono {f g : List Pt → Nat → Nat → Option (Bool × List Pt)} (h : ∀ P a b x, f P a b = some x → g P a b = some x) : ∀ (l m : List Nat) (P : List Pt) (x : Bool × List Pt), eqR f l m P = some x → eqR g l m P = some x := by
  intro l
  induction l with
  | nil => intro m P x hx; cases m <;> exact hx
  | cons a l ih =>
    intro m P x hx
    cases m with
    | nil => exact hx
    | cons b m =>
      obtain ⟨y, h1, h2⟩ := eqR_cons hx
      rw [eqR, h P a b y h1]
      simp only
      by_cases e : y.1 = true
      · rw [if_pos e] at h2 ⊢; exact ih m y.2 x h2
      · rw [if_neg e] at h2 ⊢; exact h2
theorem joinB_mono {f g : List Pt → Nat → Nat → Option (Bool × List Pt)} (h : ∀ P a b x, f P a b = some x → g P a b = some x) {P : List Pt} {x y : Nat} {p q : Pt} {r : Bool × List Pt} (hr : joinB f P x y p q = some r) : joinB g P x y p q = some r := by
  rw [joinB] at hr ⊢
  by_cases h1 : q.v = 0
  · rw [if_pos h1] at hr ⊢
    by_cases h2 : p.f = q.f
    · rw [if_pos h2, eqL] at hr ⊢
      by_cases h3 : p.args.length = q.args.length
      · rw [if_pos h3] at hr ⊢; exact eqR_mono h _ _ _ _ hr
      · rw [if_neg h3] at hr ⊢; exact hr
    · rw [if_neg h2] at hr ⊢; exact hr
  · rw [if_neg h1] at hr ⊢; exact hr
theorem joinF_mono : ∀ {n m : Nat} {P : List Pt} {i j : Nat} {x : Bool × List Pt}, joinF n P i j = some x → n ≤ m → joinF m P i j = some x := by
  intro n
  induction n with
  | zero => intro m P i j x h; cases h
  | succ n ih =>
    intro m P i j x hx hm
    obtain ⟨n', a, b, e, h1, h2, h3⟩ := joinF_some hx
    cases e
    obtain ⟨m, rfl⟩ : ∃ k, m = k + 1 := ⟨m - 1, by omega⟩
    rw [joinF, h1, h2]
    simp only
    rcases h3 with ⟨e, rfl⟩ | ⟨e, p, q, hp, hq, h3⟩
    · rw [if_pos e]
    · rw [if_neg e, hp, hq]
      simp only
      by_cases hv : q.v < p.v
      · rw [if_pos hv] at h3 ⊢; exact joinB_mono (fun P a b x hx => ih hx (by omega)) h3
      · rw [if_neg hv] at h3 ⊢; exact joinB_mono (fun P a b x hx => ih hx (by omega)) h3
theorem measL_mono {f g : List Pt → Nat → Option (Int × List Pt)} (h : ∀ P a x, f P a = some x → g P a = some x) (r : Nat) : ∀ (l : List Nat) (s : Int) (P : List Pt) (x : Int × List Pt), measL f r l s P = some x → measL g r l s P = some x := by
  intro l
  induction l with
  | nil => intro s P x hx; exact hx
  | cons a l ih =>
    intro s P x hx
    rw [measL] at hx ⊢
    cases hy : f P a with
    | none => rw [hy] at hx; cases hx
    | some y =>
      rw [hy] at hx
      rw [h P a y hy]
      simp only at hx ⊢
      by_cases e : y.1 = -1
      · rw [if_pos e] at hx ⊢; exact hx
      · rw [if_neg e] at hx ⊢
        by_cases e2 : 0 ≤ y.1 ∧ y.1 ≤ 121
        · rw [if_pos e2] at hx ⊢; exact ih _ _ _ hx
        · rw [if_neg e2] at hx; cases hx
theorem measF_mono : ∀ {n m : Nat} {P : List Pt} {k : Nat} {x : Int × List Pt}, measF n P k = some x → n ≤ m → measF m P k = some x := by
  intro n
  induction n with
  | zero => intro m P k x h; cases h
  | succ n ih =>
    intro m P k x hx hm
    obtain ⟨n', r, p, e, h1, h2, h3⟩ := measF_some hx
    cases e
    obtain ⟨m, rfl⟩ : ∃ k, m = k + 1 := ⟨m - 1, by omega⟩
    rw [measF, h1]
    simp only [h2]
    by_cases e : p.size = 0
    · rw [if_pos e] at h3 ⊢; exact measL_mono (fun P a x hx => ih hx (by omega)) _ _ _ _ _ h3
    · rw [if_neg e] at h3 ⊢; exact h3
theorem made_fuel {P : List Pt} : ∀ (n k : Nat) (u : T), madeF P n k = some u → madeF P u.sz k = some u := by
  intro n
  induction n with
  | zero => intro k u h; cases h
  | succ n ih =>
    intro k u hu
    obtain ⟨m, r, q, ts, e, h1, h2, h3, rfl⟩ := madeF_some hu
    cases e
    rw [show (⟨q.v, q.f, ts⟩ : T).sz = T.sz.szL ts + 1 from by rw [T.sz_eq]; simp only; omega]
    rw [madeF, h1]
    have h4 : madeL (madeF P (T.sz.szL ts)) q.args = some ts := by
      have key : ∀ (l : List Nat) (us : List T) (M : Nat), madeL (madeF P n) l = some us → T.sz.szL us ≤ M → madeL (madeF P M) l = some us := by
        intro l
        induction l with
        | nil => intro us M h _; exact h
        | cons a l ihl =>
          intro us M hm hM
          rw [madeL] at hm
          split at hm
          · cases hm
          · rename_i t ht
            split at hm
            · cases hm
            · rename_i ts' hts
              cases hm
              rw [T.szL_cons] at hM
              rw [madeL, madeF_mono (ih a t ht) (show t.sz ≤ M by omega)]
              simp only [ihl ts' M hts (by omega)]
      exact key q.args ts _ h3 (Nat.le_refl _)
    simp only [h2, h4]
theorem outF_ok {P : List Pt} (h : WFp P) {vn : Int → Nat} {M : Nat} : ∀ (l : List Int), (∀ v, v ∈ l → vn v < P.length ∧ ∃ u, madeF P M (vn v) = some u) → ∃ bs, outF P M vn l = some bs ∧ (bs.map Prod.fst).Sublist l ∧
    ∀ v, v ∈ l → ∀ n u, madeF P n (vn v) = some u → (hd P (vn v) ≠ vn v → (v, u) ∈ bs) ∧ (hd P (vn v) = vn v → l.Nodup → v ∉ bs.map Prod.fst) ∧ ∀ v u, (v, u) ∈ bs → v ∈ l ∧ ∃ n, madeF P n (vn v) = some u := by
  intro l
  induction l with
  | nil => intro _; exact ⟨[], rfl, List.Sublist.refl _, fun v hv => by cases hv⟩
  | cons v l ih =>
    intro hl
    obtain ⟨bs, h1, h2, h3⟩ := ih (fun x hx => hl x (List.mem_cons_of_mem _ hx))
    obtain ⟨hv, u1, hu1⟩ := hl v List.mem_cons_self
    have e1 := hd_eq h hv
    have hin : ∀ w u, (w, u) ∈ bs → w ∈ l ∧ ∃ n, madeF P n (vn w) = some u := fun w u hw => by
      have hwl : w ∈ l := h2.subset (List.mem_map_of_mem (f := Prod.fst) hw)
      obtain ⟨_, u', hu⟩ := hl w (List.mem_cons_of_mem _ hwl)
      exact (h3 w hwl M u' hu).2.2 w u hw
    by_cases e : hd P (vn v) = vn v
    · refine ⟨bs, by rw [outF, e1]; simp only [if_pos e]; exact h1, List.Sublist.cons v h2, fun w hw n u hu => ⟨fun hne => ?_, fun he hnd => ?_, fun x y hxy => ⟨List.mem_cons_of_mem _ (hin x y hxy).1, (hin x y hxy).2⟩⟩⟩
      · rcases List.mem_cons.1 hw with rfl | hw
        · exact absurd e hne
        · exact (h3 w hw n u hu).1 hne
      · rw [List.nodup_cons] at hnd
        rcases List.mem_cons.1 hw with rfl | hw
        · exact fun hm => hnd.1 (h2.subset hm)
        · exact (h3 w hw n u hu).2.1 he hnd.2
    · refine ⟨(v, u1) :: bs, ?_, by rw [List.map_cons]; exact List.Sublist.cons_cons v h2, fun w hw n u hu => ⟨fun hne => ?_, fun he hnd => ?_, fun x y hxy => ?_⟩⟩
      · rw [outF, e1]
        simp only [if_neg e, hu1, h1]
      · rcases List.mem_cons.1 hw with rfl | hw
        · rw [madeF_det hu hu1]; exact List.mem_cons_self
        · exact List.mem_cons_of_mem _ ((h3 w hw n u hu).1 hne)
      · rw [List.nodup_cons] at hnd
        rcases List.mem_cons.1 hw with rfl | hw
        · exact absurd he e
        · rw [List.map_cons, List.mem_cons]
          rintro (h9 | h9)
          · have h9' : w = v := h9
            rw [h9'] at hw; exact hnd.1 hw
          · exact (h3 w hw n u hu).2.1 he hnd.2 h9
      · rcases List.mem_cons.1 hxy with h9 | h9
        · cases h9; exact ⟨List.mem_cons_self, M, hu1⟩
        · exact ⟨List.mem_cons_of_mem _ (hin x y h9).1, (hin x y h9).2⟩
end Go.Proofs.YtbkedppkdhfpoabGreat

namespace Go.Proofs.YtbkedppkdhfpoabGreat
def byB (bs : List (Int × T)) (v : Int) : T := (putIn bs v).getD ⟨v, 0, []⟩
theorem apply_sub {ar : List Int} {bs : List (Int × T)} : ∀ (n : Nat) (t : T), t.sz ≤ n → okP ar t → applyT bs t = sub (byB bs) t := by
  intro n
  induction n with
  | zero => intro t h; have := t.sz_pos; omega
  | succ n ih =>
    intro t h ht
    by_cases hv : t.v = 0
    · rw [applyT_fn hv, sub_fn hv]
      have : t.args.map (applyT bs) = t.args.map (sub (byB bs)) := List.map_congr_left fun a ha => by
        have := arg_sz ha
        exact ih a (by omega) (okArg ht ha)
      rw [this]
    · rw [sub_var hv, byB]
      cases hp : putIn bs t.v with
      | some u => rw [applyT_some hp]; rfl
      | none =>
        rw [applyT_none hp, (ok_var ht hv).1, (ok_var ht hv).2]; rfl
theorem occL_of {v : Int} {a : T} {l : List T} (ha : a ∈ l) (hv : occ v a) : occ.occL v l := by
  induction l with
  | nil => cases ha
  | cons b l ihl =>
    rcases List.mem_cons.1 ha with rfl | ha
    · exact Or.inl hv
    · exact Or.inr (ihl ha)
theorem sub_congr {θ σ : Int → T} : ∀ (n : Nat) (t : T), t.sz ≤ n → (∀ v, v ≠ 0 → occ v t → θ v = σ v) → sub θ t = sub σ t := by
  intro n
  induction n with
  | zero => intro t h; have := t.sz_pos; omega
  | succ n ih =>
    intro t ht h
    by_cases hv : t.v = 0
    · rw [sub_fn hv, sub_fn hv]
      have : t.args.map (sub θ) = t.args.map (sub σ) := List.map_congr_left fun a ha => by
        have := arg_sz ha
        exact ih a (by omega) fun v h0 hv => h v h0 (occ_iff.2 (Or.inr (occL_of ha hv)))
      rw [this]
    · rw [sub_var hv, sub_var hv]; exact h _ hv (occ_iff.2 (Or.inl rfl))
structure Mgu (σ : Int → T) (s t : T) : Prop where
  same : sub σ s = sub σ t
  most : ∀ θ : Int → T, sub θ s = sub θ t → ∀ v, v ≠ 0 → θ v = sub θ (σ v)
  least : ∀ v, v ≠ 0 → (σ v).v ≠ 0 → (σ v).v ≤ v
  vars : ∀ v, v ≠ 0 → ¬ occ v s → ¬ occ v t → σ v = ⟨v, 0, []⟩
structure BsOk (ar : List Int) (bs : List (Int × T)) : Prop where
  rise : (bs.map Prod.fst).Pairwise (· < ·)
  each : ∀ v u, (v, u) ∈ bs → (1 ≤ v ∧ v ≤ 1000) ∧ okP ar u ∧ u.sz ≤ 120 ∧ u ≠ ⟨v, 0, []⟩
theorem lookB_of {bs : List (Int × T)} (hr : (bs.map Prod.fst).Pairwise (· < ·)) {v : Int} {u : T} (h : (v, u) ∈ bs) : lookB bs v = some u := by
  induction bs with
  | nil => cases h
  | cons b bs ih =>
    obtain ⟨w, x⟩ := b
    rw [List.map_cons, List.pairwise_cons] at hr
    rw [lookB]
    rcases List.mem_cons.1 h with h | h
    · cases h; rw [if_pos rfl]
    · have : w < v := hr.1 v (List.mem_map_of_mem (f := Prod.fst) h)
      rw [if_neg (by omega)]; exact ih hr.2 h
theorem lookB_not {bs : List (Int × T)} {v : Int} (h : v ∉ bs.map Prod.fst) : lookB bs v = none := by
  induction bs with
  | nil => rfl
  | cons b bs ih =>
    obtain ⟨w, x⟩ := b
    rw [List.map_cons, List.mem_cons] at h
    rw [lookB, if_neg (fun e => h (Or.inl e.symm))]
    exact ih (fun h' => h (Or.inr h'))
theorem unify_all {ar : List Int} {s t : T} (hs : okP ar s) (ht : okP ar t) (hs1 : s.sz ≤ 120) (ht1 : t.sz ≤ 120) : ∃ r, unifyF 1000 s t = some r ∧ ((r = ([], false, 0) ∧ ∀ θ : Int → T, sub θ s ≠ sub θ t) ∨
    ∃ σ : Int → T, Mgu σ s t ∧ ((r = ([], false, 2) ∧ 120 < (sub σ s).sz) ∨ ∃ bs, r = (bs, true, 0) ∧ (sub σ s).sz ≤ 120 ∧ BsOk ar bs ∧ ∀ v, v ≠ 0 → byB bs v = σ v)) := by
  obtain ⟨a1, a2, a3⟩ := (add_rep s.sz).1 s ([], []) (Nat.le_refl _) hs (AInv.nil ar)
  obtain ⟨b1, b2, b3⟩ := (add_rep t.sz).1 t (addT s ([], [])).2 (Nat.le_refl _) ht a1.inv
  have ks := (add_keys (ar := ar) s.sz).1 s ([], []) (Nat.le_refl _) hs ⟨List.nodup_nil, fun x hx => by cases hx⟩
  have kt := (add_keys (ar := ar) t.sz).1 t _ (Nat.le_refl _) ht ks
  have a4 := b1.rep a2
  have a5 : (addT s ([], [])).1 < (addT t (addT s ([], [])).2).2.1.length := (List.getElem?_eq_some_iff.1 (b1.more _ _ (List.getElem?_eq_getElem a3))).1
  have hfrom : ∀ v m, lookN (addT t (addT s ([], [])).2).2.2 v = some m → occ v s ∨ occ v t := fun v m hm => by
    rcases b1.from' v m hm with ⟨m', h9⟩ | h9
    · rcases a1.from' v m' h9 with ⟨m'', h8⟩ | h8
      · cases h8
      · exact Or.inl h8
    · exact Or.inr h9
  have hI := b1.inv
  have hsz1 := ((add_size s.sz).1 s ([], []) (Nat.le_refl _)).1
  have hsz2 := ((add_size t.sz).1 t (addT s ([], [])).2 (Nat.le_refl _)).1
  have hsz : (addT t (addT s ([], [])).2).2.1.length ≤ 240 := by
    have : ([] : List Pt).length = 0 := rfl
    simp only [this] at hsz1
    omega
  clear b1 a1 a2 a3 ks hsz1 hsz2
  unfold unifyF
  generalize (addT t (addT s ([], [])).2).1 = tj at b2 b3 ⊢
  generalize (addT t (addT s ([], [])).2).2 = S at a4 a5 b2 b3 hI hfrom kt hsz ⊢
  generalize (addT s ([], [])).1 = ti at a4 a5 ⊢
  obtain ⟨P, vs⟩ := S
  simp only at a4 a5 b2 b3 hI hfrom kt hsz ⊢
  have hw := hI.wf
  simp only at hw
  have hhl : heads P ≤ 240 := by
    have : heads P ≤ (List.range P.length).length := List.countP_le_length
    rw [List.length_range] at this; omega
  obtain ⟨ok, P2, j1, j2, j3, j4⟩ := join_ok (heads P + 1) P ti tj hw a5 b3 (by omega)
  have hresp0 : ∀ D, Resp P D := fun D k p hp => by rw [(hI.self k p hp).1]
  have hcomp : ∀ θ : Int → T, sub θ s = sub θ t → ∃ D, IsDen θ P D ∧ D ti = D tj ∧ ok = true ∧ Resp P2 D := fun θ he => by
    obtain ⟨D, hD⟩ := den_ex θ hw.args
    have e1 := rep_den hD s.sz s ti (Nat.le_refl _) a4
    have e2 := rep_den hD t.sz t tj (Nat.le_refl _) b2
    have e3 : D ti = D tj := by rw [e1, e2, he]
    exact ⟨D, hD, e3, j4 θ D hD (hresp0 D) e3⟩
  cases ok with
  | false =>
    refine ⟨([], false, 0), by rw [joinF_mono j1 (show heads P + 1 ≤ 1000 by omega)]; rfl, Or.inl ⟨rfl, fun θ he => ?_⟩⟩
    obtain ⟨D, _, _, h9, _⟩ := hcomp θ he
    cases h9
  | true =>
    have hlen := j2.sj.len
    have hgood : ∀ k, k < P2.length → Good P2 k := fun k hk => by
      have hk' : k < P.length := by omega
      have hp := List.getElem?_eq_getElem hk'
      have hp2 := List.getElem?_eq_getElem hk
      rcases j2.links rfl k _ _ hp hp2 with e | g
      · intro x y hx hy
        rw [hp2] at hx; cases hx
        rw [e, (hI.self k _ hp).1, hp2] at hy
        cases hy
        by_cases h0 : P2[k].v = 0
        · exact Or.inr ⟨h0, rfl, rfl, fun i a b ha hb => by rw [ha] at hb; cases hb; rfl⟩
        · exact Or.inl h0
      · exact g
    have hsz0 : ∀ (k : Nat) (p : Pt), P2[k]? = some p → p.size = 0 := fun k p hp => by
      obtain ⟨p', h1, _, _, _, h2⟩ := j2.sj.symm.at hp
      rw [← h2]; exact (hI.self k p' h1).2
    have hzl : zeros P2 ≤ 240 := by
      have : zeros P2 ≤ (List.range P2.length).length := List.countP_le_length
      rw [List.length_range] at this; omega
    obtain ⟨m, P3, m1, m2, m3, m4, m5, m6, m7⟩ := meas_ok (zeros P2 + 1) P2 ti j2.wf (by omega) (fun k p hp => Or.inl (hsz0 k p hp)) (by omega)
    rcases m5 with m5 | ⟨m51, m52, n0, u0, m53, m54⟩
    · refine ⟨([], false, 0), ?_, Or.inl ⟨rfl, fun θ he => ?_⟩⟩
      · rw [joinF_mono j1 (show heads P + 1 ≤ 1000 by omega)]
        simp only [if_true, measF_mono m1 (show zeros P2 + 1 ≤ 1000 by omega), if_pos m5]
      · obtain ⟨D, hD, hDe, _, hr⟩ := hcomp θ he
        exact (m7 _ (rank_den j2.wf (hD.same j2.sj) hr) (fun j p hp hm => by rw [hsz0 j p hp] at hm; cases hm)).1 m5
    · have hR1 : Rep P2 vs s ti := (Rep_more (fun k p hp => by obtain ⟨p', h1, h2, h3, h4, _⟩ := j2.sj.at hp; exact ⟨p', h1, h2, h3, h4⟩) (fun v n hn => hn) s.sz).1 s ti (Nat.le_refl _) a4
      have hR2 : Rep P2 vs t tj := (Rep_more (fun k p hp => by obtain ⟨p', h1, h2, h3, h4, _⟩ := j2.sj.at hp; exact ⟨p', h1, h2, h3, h4⟩) (fun v n hn => hn) t.sz).1 t tj (Nat.le_refl _) b2
      have hmj : madeF P2 n0 tj = some u0 := by rw [← made_hd j2.wf (by omega) (by omega) (j3 rfl)]; exact m53
      have hfine : ∀ v m, lookN vs v = some m → ∃ n u, madeF P2 n m = some u ∧ u.sz ≤ u0.sz := fun v m hm => by
        have hv := (hI.keys v m hm).1
        rcases hfrom v m hm with ho | ho
        · exact fine_occ j2.wf hgood s.sz s ti (Nat.le_refl _) hR1 ⟨n0, u0, m53, Nat.le_refl _⟩ v m hv ho hm
        · exact fine_occ j2.wf hgood t.sz t tj (Nat.le_refl _) hR2 ⟨n0, u0, hmj, Nat.le_refl _⟩ v m hv ho hm
      have hok2 : ∀ (k : Nat) (p : Pt), P2[k]? = some p → partErr ar p.v p.f p.args.length = 0 := fun k p hp => by
        obtain ⟨p', h1, h2, h3, h4, _⟩ := j2.sj.symm.at hp
        rw [← h2, ← h3, ← h4]; exact hI.ok k p' h1
      -- what variables are
      have hσex : ∃ σ : Int → T, (∀ v m n u, lookN vs v = some m → madeF P2 n m = some u → σ v = u) ∧ ∀ v, lookN vs v = none → σ v = ⟨v, 0, []⟩ := by
        have hall : ∀ v : Int, ∃ u : T, (∀ m n u', lookN vs v = some m → madeF P2 n m = some u' → u = u') ∧ (lookN vs v = none → u = ⟨v, 0, []⟩) := fun v => by
          cases hlk : lookN vs v with
          | none => exact ⟨⟨v, 0, []⟩, (fun m n u' h => by cases h), fun _ => rfl⟩
          | some m =>
            obtain ⟨n, u, hu, _⟩ := hfine v m hlk
            exact ⟨u, fun m' n' u' h1 h2 => by cases h1; exact madeF_det hu h2, (fun h => by cases h)⟩
        obtain ⟨f, hf⟩ := Classical.axiomOfChoice hall
        exact ⟨f, fun v => (hf v).1, fun v => (hf v).2⟩
      obtain ⟨σ, hσ, hσ0⟩ := hσex
      have hsub1 : u0 = sub σ s := made_rep j2.wf hgood hσ s.sz s ti n0 u0 (Nat.le_refl _) hR1 m53
      have hsub2 : u0 = sub σ t := made_rep j2.wf hgood hσ t.sz t tj n0 u0 (Nat.le_refl _) hR2 hmj
      -- the number of a variable's part
      have hpart : ∀ v m, lookN vs v = some m → ∃ p, P2[m]? = some p ∧ p.v = v ∧ p.v ≠ 0 := fun v m hm => by
        obtain ⟨h1, p, h2, h3⟩ := hI.keys v m hm
        obtain ⟨p', h4, h5, _⟩ := j2.sj.at h2
        exact ⟨p', h4, h5.trans h3, by rw [h5, h3]; exact h1⟩
      have hmgu : Mgu σ s t := by
        refine ⟨hsub1.symm.trans hsub2, fun θ he v hv => ?_, fun v hv h0 => ?_, fun v hv h1 h2 => ?_⟩
        · obtain ⟨D, hD, _, _, hr⟩ := hcomp θ he
          cases hlk : lookN vs v with
          | none => rw [hσ0 v hlk, sub_var (t := ⟨v, 0, []⟩) hv]
          | some m =>
            obtain ⟨n, u, hu, _⟩ := hfine v m hlk
            rw [hσ v m n u hlk hu, made_den j2.wf (hD.same j2.sj) hr n m u hu]
            obtain ⟨p, hp, hpv, hp0⟩ := hpart v m hlk
            rw [hD.same j2.sj m p hp, if_neg hp0, hpv]
        · cases hlk : lookN vs v with
          | none => rw [hσ0 v hlk]; exact Int.le_refl _
          | some m =>
            obtain ⟨n, u, hu, _⟩ := hfine v m hlk
            rw [hσ v m n u hlk hu]
            obtain ⟨p, hp, hpv, hp0⟩ := hpart v m hlk
            obtain ⟨n', r, q, ts, _, k1, k2, _, rfl⟩ := madeF_some hu
            have hml := (List.getElem?_eq_some_iff.1 hp).1
            have := hd_vle j2.wf m hml p q hp (by rw [hd_of j2.wf k1]; exact k2)
            show q.v ≤ v
            omega
        · refine hσ0 v ?_
          cases hlk : lookN vs v with
          | none => rfl
          | some m => rcases hfrom v m hlk with h9 | h9
                      · exact absurd h9 h1
                      · exact absurd h9 h2
      by_cases hgr : 120 < m
      · refine ⟨([], false, 2), ?_, Or.inr ⟨σ, hmgu, Or.inl ⟨rfl, by rw [← hsub1]; omega⟩⟩⟩
        rw [joinF_mono j1 (show heads P + 1 ≤ 1000 by omega)]
        simp only [if_true, measF_mono m1 (show zeros P2 + 1 ≤ 1000 by omega), if_neg (show ¬ m = -1 by omega), if_pos hgr]
      · have hu0 : u0.sz ≤ 120 := by omega
        have hkey : ∀ v, v ∈ (vs.map Prod.fst).mergeSort (fun x y => decide (x ≤ y)) ↔ ∃ m, lookN vs v = some m := fun v => by
          rw [List.mem_mergeSort, lookN_isSome, Option.isSome_iff_exists]
        have hnd : ((vs.map Prod.fst).mergeSort (fun x y => decide (x ≤ y))).Nodup := (List.mergeSort_perm _ _).nodup_iff.2 kt.1
        have hsort : ((vs.map Prod.fst).mergeSort (fun x y => decide (x ≤ y))).Pairwise (· < ·) := by
          have h1 := List.pairwise_mergeSort (le := fun (x y : Int) => decide (x ≤ y)) (fun a b c hab hbc => by simp only [decide_eq_true_eq] at hab hbc ⊢; omega) (fun a b => by simp only [Bool.or_eq_true, decide_eq_true_eq]; omega) (vs.map Prod.fst)
          refine (h1.and hnd).imp ?_
          rintro a b ⟨h2, h3⟩
          simp only [decide_eq_true_eq] at h2
          have h4 : a ≠ b := h3
          omega
        have w3 := m2.wf j2.wf
        obtain ⟨bs, o1, o2, o3⟩ := outF_ok w3 (M := 1000) (vn := fun v => (lookN vs v).getD 0) ((vs.map Prod.fst).mergeSort (fun x y => decide (x ≤ y))) (fun v hv => by
          obtain ⟨m', hm'⟩ := (hkey v).1 hv
          obtain ⟨n, u, hu, hul⟩ := hfine v m' hm'
          obtain ⟨p, hp, _⟩ := hpart v m' hm'
          rw [hm']
          exact ⟨by rw [m2.len]; exact (List.getElem?_eq_some_iff.1 hp).1, u, by rw [m2.madeE]; exact madeF_mono (made_fuel n _ u hu) (by omega)⟩)
        have hrise : (bs.map Prod.fst).Pairwise (· < ·) := hsort.sublist o2
        have hmemb : ∀ v u, (v, u) ∈ bs → ∃ m' n, lookN vs v = some m' ∧ madeF P2 n m' = some u ∧ hd P2 m' ≠ m' := fun v u hvu => by
          have hv : v ∈ (vs.map Prod.fst).mergeSort (fun x y => decide (x ≤ y)) := o2.subset (List.mem_map_of_mem (f := Prod.fst) hvu)
          obtain ⟨m', hm'⟩ := (hkey v).1 hv
          obtain ⟨n, u', hu, _⟩ := hfine v m' hm'
          have h9 := o3 v hv n u' (by rw [hm', m2.madeE]; exact hu)
          obtain ⟨_, n2, hn2⟩ := h9.2.2 v u hvu
          rw [hm', m2.madeE] at hn2
          refine ⟨m', n2, hm', hn2, fun e => ?_⟩
          refine h9.2.1 ?_ hnd (List.mem_map_of_mem (f := Prod.fst) hvu)
          rw [hm', m2.hdE]; exact e
        have hby : ∀ v, v ≠ 0 → byB bs v = σ v := fun v hv => by
          cases hlk : lookN vs v with
          | none =>
            rw [hσ0 v hlk, byB]
            have : v ∉ bs.map Prod.fst := fun hm => by
              obtain ⟨m', h9⟩ := (hkey v).1 (o2.subset hm)
              rw [hlk] at h9; cases h9
            have hpn : putIn bs v = none := by
              rw [putIn, lookB_not this]; split <;> rfl
            rw [hpn]; rfl
          | some m' =>
            obtain ⟨n, u, hu, _⟩ := hfine v m' hlk
            obtain ⟨p, hp, hpv, hp0⟩ := hpart v m' hlk
            have hvm : v ∈ vs.map Prod.fst := (lookN_isSome vs v).2 (by rw [hlk]; rfl)
            have hv1 : 0 < v := by have := (kt.2 v hvm).1; omega
            rw [hσ v m' n u hlk hu, byB, putIn, if_pos hv1]
            have h9 := o3 v ((hkey v).2 ⟨m', hlk⟩) n u (by rw [hlk, m2.madeE]; exact hu)
            by_cases e : hd P2 m' = m'
            · have h8 := h9.2.1 (by rw [hlk, m2.hdE]; exact e) hnd
              rw [lookB_not h8]
              obtain ⟨n', r, q, ts, _, k1, k2, k3, rfl⟩ := madeF_some hu
              have hr : r = m' := by rw [← hd_of j2.wf k1]; exact e
              subst hr
              rw [hp] at k2; cases k2
              have hva := j2.wf.var r p hp hp0
              rw [hva.1] at k3
              cases k3
              rw [hva.2, hpv]; rfl
            · have h8 := h9.1 (by rw [hlk, m2.hdE]; exact e)
              rw [lookB_of hrise h8]; rfl
        refine ⟨(bs, true, 0), ?_, Or.inr ⟨σ, hmgu, Or.inr ⟨bs, rfl, by rw [← hsub1]; exact hu0, ⟨hrise, fun v u hvu => ?_⟩, hby⟩⟩⟩
        · rw [joinF_mono j1 (show heads P + 1 ≤ 1000 by omega)]
          simp only [if_true, measF_mono m1 (show zeros P2 + 1 ≤ 1000 by omega), if_neg (show ¬ m = -1 by omega), if_neg hgr, o1]
        · obtain ⟨m', n, k1, k2, k3⟩ := hmemb v u hvu
          obtain ⟨n2, u2, k4, k5⟩ := hfine v m' k1
          have e := madeF_det k2 k4
          subst e
          have hvm : v ∈ vs.map Prod.fst := (lookN_isSome vs v).2 (by rw [k1]; rfl)
          have h0 := (hI.keys v m' k1).1
          have h1 := kt.2 v hvm
          refine ⟨by omega, made_ok hok2 n m' u k2, by omega, fun e => ?_⟩
          obtain ⟨p, hp, hpv, hp0⟩ := hpart v m' k1
          obtain ⟨n', r, q, ts, _, g1, g2, g3, g4⟩ := madeF_some k2
          rw [e] at g4
          simp only [T.mk.injEq] at g4
          have hrm := j2.wf.uniq r m' q p g2 hp (by rw [hpv]; exact g4.1.symm) (by rw [← g4.1]; exact h0)
          exact k3 (by rw [hd_of j2.wf g1]; exact hrm)
end Go.Proofs.YtbkedppkdhfpoabGreat

namespace Go.Proofs.YtbkedppkdhfpoabGreat
def cmpS (s t : T) : Int := if gt s t then 1 else if sameT s t then 2 else 3
theorem cmpS_range (s t : T) : cmpS s t = 1 ∨ cmpS s t = 2 ∨ cmpS s t = 3 := by
  rw [cmpS]; split
  · exact Or.inl rfl
  · split
    · exact Or.inr (Or.inl rfl)
    · exact Or.inr (Or.inr rfl)
theorem cmpS_one {s t : T} : cmpS s t = 1 ↔ gt s t = true := by
  rw [cmpS]
  by_cases h : gt s t = true
  · rw [if_pos h]; simp [h]
  · rw [if_neg h]
    constructor
    · intro h'; split at h' <;> cases h'
    · intro h'; exact absurd h' h
theorem cmpS_three {s t : T} : cmpS s t ≠ 3 ↔ gt s t = true ∨ s = t := by
  rw [cmpS]
  by_cases h : gt s t = true
  · rw [if_pos h]; simp [h]
  · rw [if_neg h]
    by_cases h2 : sameT s t = true
    · rw [if_pos h2]; simp [sameT_iff.1 h2]
    · rw [if_neg h2]
      constructor
      · intro h'; exact absurd rfl h'
      · rintro (h' | h')
        · exact absurd h' h
        · exact absurd (sameT_iff.2 h') h2
theorem cmpS_two {ar : List Int} {s t : T} (hs : okP ar s) : cmpS s t = 2 ↔ s = t := by
  constructor
  · intro h
    rw [cmpS] at h
    split at h
    · cases h
    · split at h
      · rename_i h2; exact sameT_iff.1 h2
      · cases h
  · rintro rfl
    rw [cmpS, gt_irr hs, sameT_refl]; rfl
theorem cmpS_is3 {ar : List Int} {s t : T} (hs : okP ar s) (h : cmpS s t = 3) : s ≠ t ∧ gt s t = false := by
  refine ⟨fun e => ?_, ?_⟩
  · rw [(cmpS_two hs).2 e] at h; cases h
  · cases hgt : gt s t with
    | false => rfl
    | true => rw [cmpS_one.2 hgt] at h; cases h
theorem cmpS_no {s t : T} (h : s ≠ t) : cmpS s t = if gt s t then 1 else 3 := by
  rw [cmpS, if_neg (fun h' => h (sameT_iff.1 h'))]
theorem cmp_var {ar : List Int} {s t : T} (hs : okP ar s) (ht : okP ar t) (h0 : s.v ≠ 0) : cmpS s t = if s.v = t.v then 2 else 3 := by
  rw [cmpS, gt_ofvar h0]
  obtain ⟨f1, a1⟩ := ok_var hs h0
  by_cases h : s.v = t.v
  · obtain ⟨f2, a2⟩ := ok_var ht (by rw [← h]; exact h0)
    have e : s = t := by
      obtain ⟨v, f, a⟩ := s
      obtain ⟨v', f', a'⟩ := t
      simp only at f1 a1 f2 a2 h
      rw [f1, a1, f2, a2, h]
    rw [if_pos h, e, sameT_refl]; rfl
  · rw [if_neg h]
    have : sameT s t = false := sameT_ne.2 (fun e => h (by rw [e]))
    rw [this]; rfl
theorem cmp_byArg {ar : List Int} {s t : T} (hs : okP ar s) (ht : okP ar t) (h0 : s.v = 0) (h : t.v ≠ 0 ∨ s.f < t.f) : cmpS s t = if s.args.any (fun a => cmpS a t != 3) then 1 else 3 := by
  have hne : s ≠ t := fun e => by
    rcases h with h | h
    · rw [← e] at h; exact h h0
    · rw [e] at h; exact Int.lt_irrefl _ h
  have hiff : gt s t = s.args.any (fun a => cmpS a t != 3) := by
    rw [Bool.eq_iff_iff, gt_iff hs ht, List.any_eq_true]
    constructor
    · rintro (⟨_, a, ha, h1⟩ | ⟨_, h1, h2, _⟩)
      · exact ⟨a, ha, by simpa using cmpS_three.2 h1⟩
      · rcases h with h | h
        · exact absurd h1 h
        · omega
    · rintro ⟨a, ha, h1⟩
      exact Or.inl ⟨h0, a, ha, cmpS_three.1 (by simpa using h1)⟩
  rw [cmpS_no hne, hiff]
theorem cmp_above {ar : List Int} {s t : T} (hs : okP ar s) (ht : okP ar t) (h0 : s.v = 0) (h1 : t.v = 0) (h : t.f < s.f) : cmpS s t = if t.args.any (fun c => cmpS s c != 1) then 3 else 1 := by
  have hne : s ≠ t := fun e => by rw [e] at h; exact Int.lt_irrefl _ h
  have hiff : gt s t = !t.args.any (fun c => cmpS s c != 1) := by
    rw [Bool.eq_iff_iff, Bool.not_eq_true', List.any_eq_false]
    constructor
    · intro hg c hc
      have h2 := gt_trans hs ht (okArg ht hc) hg (gt_arg ht hc)
      simp [cmpS_one.2 h2]
    · intro hall
      refine (gt_iff hs ht).2 (Or.inr ⟨h0, h1, by omega, fun c hc => ?_, Or.inl h⟩)
      have := hall c hc
      exact cmpS_one.1 (by simpa using this)
  rw [cmpS_no hne, hiff]
  cases t.args.any (fun c => cmpS s c != 1) <;> rfl
theorem mem_drop {xs : List T} {k i : Nat} {a : T} (h : xs[i]? = some a) (hk : k ≤ i) : a ∈ xs.drop k := by
  refine List.mem_of_getElem? (i := i - k) ?_
  rw [List.getElem?_drop, show k + (i - k) = i by omega]; exact h
theorem cmp_more {ar : List Int} {s t a c : T} {k : Nat} (hs : okP ar s) (ht : okP ar t) (h0 : s.v = 0) (h1 : t.v = 0) (hf : s.f = t.f) (ha : s.args[k]? = some a) (hc : t.args[k]? = some c) (hpre : ∀ i, i < k → s.args[i]? = t.args[i]?) (hg : gt a c = true) :
    cmpS s t = if (t.args.drop (k + 1)).any (fun c => cmpS s c != 1) then 3 else 1 := by
  have hma := List.mem_of_getElem? ha
  have hmc := List.mem_of_getElem? hc
  have hac : a ≠ c := fun e => by rw [e, gt_irr (okArg ht hmc)] at hg; cases hg
  have hne : s ≠ t := fun e => by subst e; rw [ha] at hc; exact hac (Option.some.inj hc)
  have hiff : gt s t = !(t.args.drop (k + 1)).any (fun c => cmpS s c != 1) := by
    rw [Bool.eq_iff_iff, Bool.not_eq_true', List.any_eq_false]
    constructor
    · intro hg' x hx
      have hx' := List.mem_of_mem_drop hx
      have h2 := gt_trans hs ht (okArg ht hx') hg' (gt_arg ht hx')
      simp [cmpS_one.2 h2]
    · intro hall
      refine (gt_iff hs ht).2 (Or.inr ⟨h0, h1, by omega, fun x hx => ?_, Or.inr ⟨hf, firstN_iff.2 ⟨k, a, c, ha, hc, hac, hg, hpre⟩⟩⟩)
      obtain ⟨i, hi, e⟩ := List.getElem_of_mem hx
      have hxi : t.args[i]? = some x := by rw [List.getElem?_eq_getElem hi, e]
      rcases Nat.lt_or_ge i k with h | h
      · have h2 : s.args[i]? = some x := (hpre i h).trans hxi
        exact gt_arg hs (List.mem_of_getElem? h2)
      · rcases Nat.eq_or_lt_of_le h with h | h
        · subst h
          obtain rfl : c = x := by rw [hc] at hxi; exact Option.some.inj hxi
          exact gt_trans hs (okArg hs hma) (okArg ht hmc) (gt_arg hs hma) hg
        · have := hall x (mem_drop hxi h)
          exact cmpS_one.1 (by simpa using this)
  rw [cmpS_no hne, hiff]
  cases (t.args.drop (k + 1)).any (fun c => cmpS s c != 1) <;> rfl
theorem cmp_less {ar : List Int} {s t a c : T} {k : Nat} (hs : okP ar s) (ht : okP ar t) (h0 : s.v = 0) (hf : s.f = t.f) (ha : s.args[k]? = some a) (hc : t.args[k]? = some c) (hpre : ∀ i, i < k → s.args[i]? = t.args[i]?) (hac : a ≠ c) (hg : gt a c = false) :
    cmpS s t = if (s.args.drop (k + 1)).any (fun a => cmpS a t != 3) then 1 else 3 := by
  have hma := List.mem_of_getElem? ha
  have hmc := List.mem_of_getElem? hc
  have hne : s ≠ t := fun e => by subst e; rw [ha] at hc; exact hac (Option.some.inj hc)
  have hiff : gt s t = (s.args.drop (k + 1)).any (fun a => cmpS a t != 3) := by
    rw [Bool.eq_iff_iff, List.any_eq_true]
    constructor
    · intro hg'
      rcases (gt_iff hs ht).1 hg' with ⟨_, x, hx, h1⟩ | ⟨_, _, _, _, h1⟩
      · obtain ⟨i, hi, e⟩ := List.getElem_of_mem hx
        have hxi : s.args[i]? = some x := by rw [List.getElem?_eq_getElem hi, e]
        rcases Nat.lt_or_ge i k with h | h
        · have h2 : x ∈ t.args := List.mem_of_getElem? ((hpre i h).symm.trans hxi)
          have h3 := gt_arg ht h2
          rcases h1 with h1 | h1
          · rw [gt_asym ht (okArg ht h2) h3] at h1; cases h1
          · rw [h1, gt_irr ht] at h3; cases h3
        · rcases Nat.eq_or_lt_of_le h with h | h
          · subst h
            obtain rfl : a = x := by rw [ha] at hxi; exact Option.some.inj hxi
            have h3 : gt a c = true := by
              rcases h1 with h1 | h1
              · exact gt_trans (okArg hs hma) ht (okArg ht hmc) h1 (gt_arg ht hmc)
              · rw [h1]; exact gt_arg ht hmc
            rw [hg] at h3; cases h3
          · exact ⟨x, mem_drop hxi h, by simpa using cmpS_three.2 h1⟩
      · rcases h1 with h1 | ⟨_, h1⟩
        · omega
        · obtain ⟨j, x, y, hx, hy, hxy, hgxy, hall⟩ := firstN_iff.1 h1
          rcases Nat.lt_trichotomy j k with h | h | h
          · have := (hpre j h).symm.trans hx
            rw [hy] at this
            exact absurd (Option.some.inj this).symm hxy
          · subst h
            rw [ha] at hx; rw [hc] at hy
            obtain rfl := Option.some.inj hx
            obtain rfl := Option.some.inj hy
            rw [hg] at hgxy; cases hgxy
          · have := hall k h
            rw [ha, hc] at this
            exact absurd (Option.some.inj this) hac
    · rintro ⟨x, hx, h1⟩
      exact (gt_iff hs ht).2 (Or.inl ⟨h0, x, List.mem_of_mem_drop hx, cmpS_three.1 (by simpa using h1)⟩)
  rw [cmpS_no hne, hiff]
theorem cmp_same {ar : List Int} {s t : T} (hs : okP ar s) (h0 : s.v = 0) (h1 : t.v = 0) (hf : s.f = t.f) (hall : s.args = t.args) : cmpS s t = 2 := by
  rw [cmpS_two hs]
  obtain ⟨v, f, a⟩ := s
  obtain ⟨v', f', a'⟩ := t
  simp only at h0 h1 hf hall
  rw [h0, h1, hf, hall]
end Go.Proofs.YtbkedppkdhfpoabGreat
