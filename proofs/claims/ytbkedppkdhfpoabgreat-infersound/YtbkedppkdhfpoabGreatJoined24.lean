/- What comes of inferences holds where the clauses hold. No word of the program's memory here. What comes of an inference holds where those hold of which it came; and nothing comes beside an error. What must be in any case of models: it is. InferSound: the statement's own walk. The arguments of the statements, read: signatures, terms, places. -/
import Derived.ChangeOld
import Derived.Deep.RegionHeld3
import Derived.Deep.Slices
import Derived.Deep.Strs
import Derived.OpenShut
import Derived.ProofKit
import Derived.Test.YtbkedppkdhfpoabGreatJoined23
namespace Go.Proofs.YtbkedppkdhfpoabGreat
abbrev Rg (n : Int) (f : Int → Int) : Prop := ∀ v, 0 ≤ f v ∧ f v < n
theorem pull {ar : List Int} {n : Int} {ls : List (List Int)} {bs : List (Int × T)} (hm : MOk ar n ls) (hb : BsOk ar bs) {f : Int → Int} (hf : Rg n f) : ∃ g, Rg n g ∧ ∀ t : T, valT n ls f (sub (byB bs) t) = valT n ls g t := by
  have h1 := hm.lo
  refine ⟨fun v => if v = 0 then 0 else valT n ls f (byB bs v), fun v => ?_, fun t => ?_⟩
  · by_cases hv : v = 0
    · simp only [if_pos hv]; omega
    · simp only [if_neg hv]
      rw [byB]
      cases hp : putIn bs v with
      | none =>
        show 0 ≤ valT n ls f ⟨v, 0, []⟩ ∧ valT n ls f ⟨v, 0, []⟩ < n
        rw [valT_eq, if_pos hv]; exact hf v
      | some u =>
        exact (val_range hm _ u (Nat.le_refl _) (hb.each v u (putIn_mem hp).1).2.1 (fun x _ _ => hf x.v)).1
  · rw [val_sub _ t (Nat.le_refl _)]
    exact val_congr _ t (Nat.le_refl _) fun x _ hx => by simp only [if_neg hx]
theorem cl_pull {n : Int} {ls : List (List Int)} {θ : Int → T} {f g : Int → Int} (h : ∀ t : T, valT n ls f (sub θ t) = valT n ls g t) (c : List Lit) : clHolds n ls f (mapC (sub θ) c) = clHolds n ls g c := by
  rw [clHolds, clHolds, mapC, List.any_map]
  congr 1
  funext x
  show litHolds n ls f (x.1, sub θ x.2.1, sub θ x.2.2) = _
  rw [litHolds, litHolds, h, h]
theorem app_map {ar : List Int} {bs : List (Int × T)} : ∀ {c : List Lit}, appE ar bs c = 0 → c.map (appL ar bs) = mapC (sub (byB bs)) c := by
  intro c
  induction c with
  | nil => intro _; rfl
  | cons x c ih =>
    intro h
    rw [appE] at h
    by_cases h1 : litE ar bs x = 0
    · rw [if_pos h1] at h
      rw [litE] at h1
      by_cases h2 : (applySpec ar bs x.2.1).2 = 0
      · rw [if_pos h2] at h1
        have a1 := apply_ok h2
        have a2 := apply_ok h1
        show appL ar bs x :: c.map (appL ar bs) = (x.1, sub (byB bs) x.2.1, sub (byB bs) x.2.2) :: mapC (sub (byB bs)) c
        rw [ih h, appL, a1.2.2.1, a2.2.2.1, apply_sub _ _ (Nat.le_refl _) a1.2.1.2, apply_sub _ _ (Nat.le_refl _) a2.2.1.2]
      · rw [if_neg h2] at h1; exact absurd h1 h2
    · rw [if_neg h1] at h; exact absurd h h1
theorem applied_sem {ar : List Int} {n : Int} {ls : List (List Int)} {bs : List (Int × T)} {c : List Lit} (hm : MOk ar n ls) (hb : BsOk ar bs) (h : (appliedS ar bs c).2 = 0)
    (hs : ∀ g, Rg n g → (∀ s t : T, sub (byB bs) s = sub (byB bs) t → valT n ls g s = valT n ls g t) → clHolds n ls g c = true) : Sem n ls (appliedS ar bs c).1 := by
  have hn : 0 < n := by have := hm.lo; omega
  rw [appliedS] at h ⊢
  by_cases h1 : appE ar bs c = 0
  · rw [if_pos h1] at h ⊢
    rw [tidyS] at h ⊢
    by_cases h2 : clausesErr ar [needS [] (c.map (appL ar bs))] = 0
    · rw [if_pos h2]
      refine sem_tidy hn (clauses_ok h2).2.2 fun f hf => ?_
      obtain ⟨g, hg, he⟩ := pull hm hb hf
      rw [cl_need, app_map h1, cl_pull he, hs g hg (fun s t hst => by rw [← he, ← he, hst])]
      simp
    · rw [if_neg h2] at h; exact absurd h h2
  · rw [if_neg h1] at h; exact absurd h h1
theorem uniE_same {ar : List Int} {s t : T} (h : (uniE ar s t).2 = 0) : BsOk ar (uniE ar s t).1 ∧ sub (byB (uniE ar s t).1) s = sub (byB (uniE ar s t).1) t := by
  rw [uniE] at h
  simp only at h
  by_cases h1 : (unifyS ar s t).2.2 = 0
  · rw [if_pos h1] at h
    by_cases h2 : (unifyS ar s t).2.1 = true
    · obtain ⟨σ, bs, hM, hU, _, hB, hσ, _⟩ := uni_some h1 h2
      have e : (uniE ar s t).1 = bs := by rw [uniE, hU]
      rw [e]
      refine ⟨hB, ?_⟩
      rw [sub_congr _ s (Nat.le_refl _) (fun v h0 _ => hσ v h0), sub_congr _ t (Nat.le_refl _) (fun v h0 _ => hσ v h0), hM.same]
    · rw [if_neg h2] at h; exact absurd h (by decide)
  · rw [if_neg h1] at h; exact absurd h h1
theorem any_at {n : Int} {ls : List (List Int)} {f : Int → Int} {c : List Lit} : clHolds n ls f c = true ↔ ∃ (j : Nat) (z : Lit), c[j]? = some z ∧ litHolds n ls f z = true := by
  rw [clHolds, List.any_eq_true]
  constructor
  · rintro ⟨z, hz, h⟩
    obtain ⟨j, hj⟩ := List.getElem?_of_mem hz
    exact ⟨j, z, hj, h⟩
  · rintro ⟨j, z, hj, h⟩
    exact ⟨z, List.mem_of_getElem? hj, h⟩
theorem holds_erase {n : Int} {ls : List (List Int)} {f : Int → Int} {c : List Lit} {k j : Nat} {z : Lit} (hj : c[j]? = some z) (hne : j ≠ k) (h : litHolds n ls f z = true) : clHolds n ls f (c.eraseIdx k) = true := by
  rw [clHolds, List.any_eq_true]
  exact ⟨z, List.mem_eraseIdx_iff_getElem?.2 ⟨j, hne, hj⟩, h⟩
theorem holds_l {n : Int} {ls : List (List Int)} {f : Int → Int} {c d : List Lit} : clHolds n ls f (c ++ d) = (clHolds n ls f c || clHolds n ls f d) := by rw [clHolds, clHolds, clHolds, List.any_append]
theorem sides_yes {n : Int} {ls : List (List Int)} {f : Int → Int} {x : Lit} (tu : Bool) (hx : x.1 = true) : litHolds n ls f x = true ↔ valT n ls f (side1 x tu) = valT n ls f (side2 x tu) := by
  rw [litHolds, hx, side1, side2]
  cases tu
  · simp
  · simp only [if_true]
    constructor
    · intro h
      have h9 : valT n ls f x.2.1 = valT n ls f x.2.2 := by simpa using h
      exact h9.symm
    · intro h
      have h9 : valT n ls f x.2.1 = valT n ls f x.2.2 := h.symm
      simpa using h9
theorem same_sem {ar : List Int} {n : Int} {ls : List (List Int)} {c : List Lit} {k : Nat} {x : Lit} (hm : MOk ar n ls) (hx : c[k]? = some x) (hno : x.1 = false) (hc : Sem n ls c) (h : (infSame ar c k x).2 = 0) : Sem n ls (infSame ar c k x).1 := by
  rw [infSame] at h ⊢
  by_cases h1 : (uniE ar x.2.1 x.2.2).2 = 0
  · rw [if_pos h1] at h ⊢
    obtain ⟨hB, hS⟩ := uniE_same h1
    refine applied_sem hm hB h fun g hg he => ?_
    obtain ⟨j, z, hj, hz⟩ := any_at.1 (hc g hg)
    by_cases hjk : j = k
    · rw [hjk, hx] at hj
      obtain rfl := Option.some.inj hj
      rw [litHolds, hno, he _ _ hS] at hz
      simp at hz
    · exact holds_erase hj hjk hz
  · rw [if_neg h1] at h; exact absurd h h1
theorem factor_sem {ar : List Int} {n : Int} {ls : List (List Int)} {c : List Lit} {k m : Nat} {x y : Lit} (lt rt : Bool) (hm : MOk ar n ls) (hx : c[k]? = some x) (hy : c[m]? = some y) (hkm : k ≠ m) (hx1 : x.1 = true) (hy1 : y.1 = true) (hc : Sem n ls c)
    (h : (infFactor ar c k (side1 x lt) (side2 x lt) (side1 y rt) (side2 y rt)).2 = 0) : Sem n ls (infFactor ar c k (side1 x lt) (side2 x lt) (side1 y rt) (side2 y rt)).1 := by
  rw [infFactor] at h ⊢
  by_cases h1 : (uniE ar (side1 x lt) (side1 y rt)).2 = 0
  · rw [if_pos h1] at h ⊢
    obtain ⟨hB, hS⟩ := uniE_same h1
    by_cases h2 : fallS ar (uniE ar (side1 x lt) (side1 y rt)).1 (side1 x lt) (side2 x lt) = 0
    · rw [if_pos h2] at h ⊢
      refine applied_sem hm hB h fun g hg he => ?_
      obtain ⟨j, z, hj, hz⟩ := any_at.1 (hc g hg)
      rw [holds_l]
      by_cases hjk : j = k
      · rw [hjk, hx] at hj
        obtain rfl := Option.some.inj hj
        have e1 := (sides_yes lt hx1).1 hz
        have e2 := he _ _ hS
        by_cases e3 : valT n ls g (side2 x lt) = valT n ls g (side2 y rt)
        · rw [holds_erase hy (fun e => hkm e.symm) ((sides_yes rt hy1).2 (by rw [← e2, e1, e3]))]; rfl
        · have : clHolds n ls g [(false, side2 x lt, side2 y rt)] = true := by
            simp [clHolds, litHolds, e3]
          rw [this]; simp
      · rw [holds_erase hj hjk hz]; rfl
    · rw [if_neg h2] at h; exact absurd h h2
  · rw [if_neg h1] at h; exact absurd h h1
theorem row_set {n : Int} {ls : List (List Int)} {f : Int → Int} {a b : T} (h : valT n ls f b = valT n ls f a) : ∀ (ts : List T) (i : Nat) (r : Int), ts[i]? = some a → valT.rowL n ls f (ts.set i b) r = valT.rowL n ls f ts r := by
  intro ts
  induction ts with
  | nil => intro i r hi; simp at hi
  | cons t ts ih =>
    intro i r hi
    cases i with
    | zero =>
      rw [List.getElem?_cons_zero] at hi
      obtain rfl := Option.some.inj hi
      show valT.rowL n ls f ts (r * n + valT n ls f b) = valT.rowL n ls f ts (r * n + valT n ls f t)
      rw [h]
    | succ i =>
      rw [List.getElem?_cons_succ] at hi
      show valT.rowL n ls f (ts.set i b) (r * n + valT n ls f t) = valT.rowL n ls f ts (r * n + valT n ls f t)
      exact ih i _ hi
theorem val_put {n : Int} {ls : List (List Int)} {f : Int → Int} {r q : T} (h : valT n ls f r = valT n ls f q) : ∀ (p : List Int) (t : T), atT t p = some q → valT n ls f (putT r t p) = valT n ls f t := by
  intro p
  induction p with
  | nil => intro t ht; obtain rfl := Option.some.inj ht; exact h
  | cons i p ih =>
    intro t ht
    rw [atT] at ht
    by_cases hi : 0 ≤ i ∧ i < t.args.length
    · rw [if_pos hi] at ht
      cases hc : t.args[i.toNat]? with
      | none => rw [hc] at ht; cases ht
      | some c =>
        rw [hc] at ht
        rw [putT_at hc, valT_eq, valT_eq n ls f t]
        simp only
        by_cases hv : t.v ≠ 0
        · rw [if_pos hv, if_pos hv]
        · rw [if_neg hv, if_neg hv, row_set (ih c ht) _ _ _ hc]
    · rw [if_neg hi] at ht; cases ht
theorem put_sem {ar : List Int} {n : Int} {ls : List (List Int)} {c d : List Lit} {k m : Nat} {x y : Lit} {place : List Int} {p : T} (lt rt : Bool) (hm : MOk ar n ls) (hx : c[k]? = some x) (hy : d[m]? = some y) (hx1 : x.1 = true) (hp : atT (side1 y rt) place = some p) (hc : Sem n ls c) (hd : Sem n ls d)
    (h : (infPut ar c d k m rt place p (side1 x lt) (side2 x lt) (side1 y rt) (side2 y rt)).2 = 0) : Sem n ls (infPut ar c d k m rt place p (side1 x lt) (side2 x lt) (side1 y rt) (side2 y rt)).1 := by
  rw [infPut] at h ⊢
  by_cases h1 : (uniE ar p (side1 x lt)).2 = 0
  · rw [if_pos h1] at h ⊢
    obtain ⟨hB, hS⟩ := uniE_same h1
    by_cases h2 : fallS ar (uniE ar p (side1 x lt)).1 (side1 x lt) (side2 x lt) = 0
    · rw [if_pos h2] at h ⊢
      by_cases h3 : fallS ar (uniE ar p (side1 x lt)).1 (side1 y rt) (side2 y rt) = 0
      · rw [if_pos h3] at h ⊢
        by_cases h4 : (putSpec ar (side1 y rt) place (side2 x lt)).2 = 0
        · rw [if_pos h4] at h ⊢
          have e4 : (putSpec ar (side1 y rt) place (side2 x lt)).1 = putT (side2 x lt) (side1 y rt) place := by
            rw [putSpec] at h4 ⊢
            by_cases h5 : allErr ar [side1 y rt, side2 x lt] = 0
            · rw [if_pos h5, hp] at h4 ⊢
              simp only at h4 ⊢
              split at h4
              · cases h4
              · rename_i h6; rw [if_neg h6]
            · rw [if_neg h5] at h4; exact absurd h4 h5
          rw [e4] at h ⊢
          refine applied_sem hm hB h fun g hg he => ?_
          obtain ⟨j, z, hj, hz⟩ := any_at.1 (hc g hg)
          rw [holds_l]
          by_cases hjk : j = k
          · rw [hjk, hx] at hj
            obtain rfl := Option.some.inj hj
            have e1 := (sides_yes lt hx1).1 hz
            have e2 := he _ _ hS
            have e5 := val_put (show valT n ls g (side2 x lt) = valT n ls g p by rw [e2, e1]) place _ hp
            have : clHolds n ls g (withF d m rt (putT (side2 x lt) (side1 y rt) place)) = true := by
              obtain ⟨i, z, hi, hz⟩ := any_at.1 (hd g hg)
              rw [withF_at rt _ hy]
              refine any_at.2 ?_
              by_cases him : i = m
              · rw [him, hy] at hi
                obtain rfl := Option.some.inj hi
                refine ⟨m, _, List.getElem?_set_self (List.getElem?_eq_some_iff.1 hy).1, ?_⟩
                rw [litHolds] at hz
                cases rt
                · rw [if_neg (by simp), litHolds]
                  simp only
                  rw [e5]; exact hz
                · rw [if_pos rfl, litHolds]
                  simp only
                  rw [e5]; exact hz
              · exact ⟨i, z, by rw [List.getElem?_set_ne (fun e => him e.symm)]; exact hi, hz⟩
            rw [this]; simp
          · rw [holds_erase hj hjk hz]; rfl
        · rw [if_neg h4] at h; exact absurd h h4
      · rw [if_neg h3] at h; exact absurd h h3
    · rw [if_neg h2] at h; exact absurd h h2
  · rw [if_neg h1] at h; exact absurd h h1
theorem greatC_le : ∀ (c : List Lit) (m : Int), m ≤ greatC c m := by
  intro c
  induction c with
  | nil => intro m; exact Int.le_refl m
  | cons x c ih =>
    intro m
    have := ih (max (max m (greatT x.2.1)) (greatT x.2.2))
    rw [greatC]; omega
theorem apart_sem {ar : List Int} {n : Int} {ls : List (List Int)} {c d : List Lit} (hm : MOk ar n ls) (hlo : LitsOk ar d) (hd : Sem n ls d) (h : (apartS c d).2 = 0) : Sem n ls (apartS c d).1 := by
  rw [apartS] at h ⊢
  split at h
  · cases h
  · rename_i h1
    rw [if_neg h1]
    simp only
    by_cases h2 : greatC c 0 = 0
    · rw [if_pos h2]; exact hd
    · rw [if_neg h2]
      have h0 := greatC_le c 0
      refine sem_sub (θ := upV (greatC c 0)) (by have := hm.lo; omega) hd fun f hf v hv => ?_
      have := clVars_range hlo v hv
      rw [upV, valT_eq, if_pos (by simp only; omega)]
      exact hf _
end Go.Proofs.YtbkedppkdhfpoabGreat

namespace Go.Proofs.YtbkedppkdhfpoabGreat
open Go.RowKit
theorem holds_sem2 {ar : List Int} {n : Int} {ts : List (List Int)} {c : List Lit} (h2 : (holdsS ar n ts c).2 = 0) : MOk ar n ts ∧ ((holdsS ar n ts c).1 = true ↔ Sem n ts c) := by
  rw [holdsS] at h2 ⊢
  by_cases h1 : modelErr ar n ts = 0
  · have hm := MOk.of h1
    rw [if_pos h1] at h2 ⊢
    by_cases h3 : clausesErr ar [c] = 0
    · rw [if_pos h3] at h2 ⊢
      by_cases h4 : (clVars c).length ≤ 8
      · rw [if_pos h4]
        exact ⟨hm, sem_iff (by have := hm.lo; omega)⟩
      · rw [if_neg h4] at h2; cases h2
    · rw [if_neg h3] at h2; exact absurd h2 h3
  · rw [if_neg h1] at h2; exact absurd h2 h1
theorem infer_sem2 {ar : List Int} {n : Int} {ls : List (List Int)} {cs : List (List Lit)} {i : Inf} (hm : MOk ar n ls) (hc : Sem n ls (clAt cs i.left)) (hdd : i.kind = 3 → Sem n ls (clAt cs i.right)) (h : (inferS ar cs i).2 = 0) : Sem n ls (inferS ar cs i).1 := by
  rw [inferS] at h ⊢
  by_cases h1 : clausesErr ar cs = 0
  · rw [if_pos h1] at h ⊢
    obtain ⟨hsig, hlen, hall⟩ := clauses_all h1
    by_cases h2 : infErr ar cs i = 0
    · rw [if_pos h2] at h ⊢
      by_cases h3 : fitS (clAt cs i.left) (clAt cs i.right) i = true
      · rw [if_pos h3] at h ⊢
        have hk : (i.kind = 1 ∨ i.kind = 2 ∨ i.kind = 3) ∧ thereS ar cs i = true := by
          rw [infErr] at h2
          split at h2
          · cases h2
          · rename_i hk
            split at h2
            · rename_i ht; exact ⟨by omega, ht⟩
            · cases h2
        obtain ⟨hkk, ht⟩ := hk
        rw [thereS] at ht
        simp only [Bool.and_eq_true] at ht
        obtain ⟨⟨ht1, ht2⟩, ht3⟩ := ht
        obtain ⟨nl, hnl, enl, hcl⟩ := hasN_at [] ht1
        obtain ⟨k, hkl, ekl, hxl⟩ := hasN_at zeroL ht2
        rcases hkk with hk | hk | hk
        · rw [if_neg (by omega)] at h ⊢
          rw [comeS, if_pos hk] at h ⊢
          rw [fitS, if_pos hk] at h3
          rw [ekl] at h ⊢
          exact same_sem hm hxl (by simpa using h3) hc h
        · rw [if_neg (by omega)] at h ⊢
          rw [comeS, if_neg (by omega), if_pos hk] at h ⊢
          rw [fitS, if_neg (by omega), if_pos hk] at h3
          rw [if_neg (by omega), if_pos hk] at ht3
          obtain ⟨m, hml, eml, hyl⟩ := hasN_at zeroL ht3
          simp only [Bool.and_eq_true, bne_iff_ne] at h3
          rw [ekl] at h ⊢
          exact factor_sem i.lt i.rt hm hxl hyl (by intro e; exact h3.2 (by omega)) h3.1.1 h3.1.2 hc h
        · rw [if_pos hk] at h ⊢
          rw [if_neg (by omega), if_neg (by omega)] at ht3
          simp only [Bool.and_eq_true, beq_iff_eq] at ht3
          obtain ⟨⟨ht4, ht5⟩, ht6⟩ := ht3
          obtain ⟨nr, hnr, enr, hdr⟩ := hasN_at [] ht4
          obtain ⟨m, hml, eml, hyl⟩ := hasN_at zeroL ht5
          by_cases h4 : (apartS (clAt cs i.left) (clAt cs i.right)).2 = 0
          · rw [if_pos h4] at h ⊢
            have hdm := List.mem_of_getElem? hdr
            have hd := hdd hk
            have hA := apart_sem hm (hall _ hdm).2 hd h4
            rw [fitS, if_neg (by omega), if_neg (by omega)] at h3
            simp only [Bool.and_eq_true] at h3
            rw [comeS, if_neg (by omega), if_neg (by omega)] at h ⊢
            have hat : ∃ q, atT (side1 (litAt (clAt cs i.right) i.ra) i.rt) i.place = some q := by
              rw [atSpec] at ht6
              split at ht6
              · cases hq : atT (side1 (litAt (clAt cs i.right) i.ra) i.rt) i.place with
                | some q => exact ⟨q, rfl⟩
                | none => rw [hq] at ht6; cases ht6
              · rename_i h9; exact absurd ht6 h9
            obtain ⟨q, hq⟩ := hat
            have hym : litAt (clAt cs i.right) i.ra ∈ clAt cs i.right := List.mem_of_getElem? hyl
            have hlo := (hall _ hdm).2 _ hym
            have hside : okP ar (side1 (litAt (clAt cs i.right) i.ra) i.rt) := by
              rw [side1]; split
              · exact hlo.2.2
              · exact hlo.1.2
            have hD : ∃ y q', (apartS (clAt cs i.left) (clAt cs i.right)).1[m]? = some y ∧ atT (side1 y i.rt) i.place = some q' := by
              rw [apartS] at h4 ⊢
              split at h4
              · cases h4
              · rename_i h8
                rw [if_neg h8]
                simp only
                by_cases h7 : greatC (clAt cs i.left) 0 = 0
                · rw [if_pos h7]; exact ⟨_, q, hyl, hq⟩
                · rw [if_neg h7]
                  refine ⟨((litAt (clAt cs i.right) i.ra).1, raisedT (greatC (clAt cs i.left) 0) (litAt (clAt cs i.right) i.ra).2.1, raisedT (greatC (clAt cs i.left) 0) (litAt (clAt cs i.right) i.ra).2.2), raisedT (greatC (clAt cs i.left) 0) q, by rw [raisedC, List.getElem?_map, hyl]; rfl, ?_⟩
                  rw [(side_map (raisedT _) i.rt).1]
                  exact raised_at _ _ hq hside
            obtain ⟨y, q', hy', hq'⟩ := hD
            have e9 : litAt (apartS (clAt cs i.left) (clAt cs i.right)).1 i.ra = y := by
              show List.getD _ _ _ = _
              rw [List.getD_eq_getElem?_getD, eml, hy']; rfl
            have e8 : partS (side1 y i.rt) i.place = q' := by rw [partS, hq']; rfl
            rw [e9, e8, ekl, eml] at h ⊢
            exact put_sem i.lt i.rt hm hxl hy' h3.1 hq' hc hA h
          · rw [if_neg h4] at h; exact absurd h h4
      · rw [if_neg h3] at h; cases h
    · rw [if_neg h2] at h; exact absurd h h2
  · rw [if_neg h1] at h; exact absurd h h1
theorem ite_err {p : Prop} [Decidable p] {a : List Lit × Int} {e : Int} (ha : a.2 ≠ 0 → a.1 = []) : (if p then a else ([], e)).2 ≠ 0 → (if p then a else ([], e)).1 = [] := by
  split
  · exact ha
  · exact fun _ => rfl
theorem tidy_err {ar : List Int} {c : List Lit} : (tidyS ar c).2 ≠ 0 → (tidyS ar c).1 = [] := by
  rw [tidyS]
  exact ite_err (fun h => absurd rfl h)
theorem applied_err {ar : List Int} {bs : List (Int × T)} {c : List Lit} : (appliedS ar bs c).2 ≠ 0 → (appliedS ar bs c).1 = [] := by
  rw [appliedS]
  exact ite_err tidy_err
theorem come_err {ar : List Int} {c d : List Lit} {i : Inf} : (comeS ar c d i).2 ≠ 0 → (comeS ar c d i).1 = [] := by
  rw [comeS]
  split
  · rw [infSame]; exact ite_err applied_err
  · split
    · rw [infFactor]; exact ite_err (ite_err applied_err)
    · rw [infPut]; exact ite_err (ite_err (ite_err (ite_err applied_err)))
theorem infer_err {ar : List Int} {cs : List (List Lit)} {i : Inf} : (inferS ar cs i).2 ≠ 0 → (inferS ar cs i).1 = [] := by
  rw [inferS]
  refine ite_err (ite_err (ite_err ?_))
  split
  · exact ite_err come_err
  · exact come_err
theorem infer_holds {ar : List Int} {n : Int} {ts : List (List Int)} {cs : List (List Lit)} {i : Inf} (h : (inferS ar cs i).2 = 0) (hl : holdsS ar n ts (clAt cs i.left) = (true, 0)) (hr : i.kind = 3 → holdsS ar n ts (clAt cs i.right) = (true, 0)) :
    (holdsS ar n ts (inferS ar cs i).1).2 = 0 → (holdsS ar n ts (inferS ar cs i).1).1 = true := by
  intro h0
  have h1 := holds_sem2 (ar := ar) (n := n) (ts := ts) (c := clAt cs i.left) (by rw [hl])
  have h2 := infer_sem2 h1.1 (h1.2.1 (by rw [hl])) (fun hk => (holds_sem2 (ar := ar) (n := n) (ts := ts) (c := clAt cs i.right) (by rw [hr hk])).2.1 (by rw [hr hk])) h
  exact (holds_sem2 h0).2.2 h2
end Go.Proofs.YtbkedppkdhfpoabGreat

namespace Go.Proofs.YtbkedppkdhfpoabGreat
open Go.RowKit
def mv1 : T := ⟨1, 0, []⟩
def mF1 : T := ⟨0, 1, [mv1]⟩
def md1 : List (List Int) := [[0], [1, 0]]
def mc1 : List Lit := [(false, mF1, mv1)]
theorem md_e : modelErr [0, 1] 2 md1 = 0 := by rfl
theorem md_t : allErr [0, 1] [mF1] = 0 := by rfl
theorem md_c : clausesErr [0, 1] [mc1] = 0 := by rfl
theorem md_v : varsT mF1 = [1] := by
  rw [varsT, show allVars mF1 = [1] from rfl, List.mergeSort_singleton]; rfl
theorem md_v1 : varsT mv1 = [1] := by
  rw [varsT, show allVars mv1 = [1] from rfl, List.mergeSort_singleton]; rfl
theorem md_w : clVars mc1 = [1] := by
  refine rising_ext (clVars_up mc1) (List.pairwise_singleton _ _) (fun x => ?_)
  rw [clVars_mem, mc1, clNums, clNums, md_v, md_v1]
  simp
theorem md_value : valueS [0, 1] 2 md1 mF1 [1] = (0, 0) := by
  rw [valueS, if_pos md_e, if_pos md_t, md_v]
  rfl
theorem md_holds : holdsS [0, 1] 2 md1 mc1 = (true, 0) := by
  rw [holdsS, if_pos md_e, if_pos md_c, md_w]
  rfl
theorem Tabs_new {w : World} {b1 b2 : Nat} (e : TypeId) (h1 : Ints w [0] (some ⟨b1, 0, none⟩)) (h2 : Ints w [1, 0] (some ⟨b2, 0, none⟩)) : TabsP (w.alloc (.cells #[.slice (some ⟨b1, 0, none⟩) 1 1, .slice (some ⟨b2, 0, none⟩) 2 2] e)) md1 (some ⟨w.heap.size, 0, none⟩) :=
  ⟨w.heap.size, 0, some ⟨b1, 0, none⟩, 1, rfl, cell_new 0 rfl, Ints_alloc _ h1, w.heap.size, 1, some ⟨b2, 0, none⟩, 2, rfl, cell_new 1 rfl, Ints_alloc _ h2, trivial⟩
theorem Lits_new {w : World} {b : Nat} (e : TypeId) (hi : InL w [mv1] (some ⟨b, 0, none⟩)) : LitsP (w.alloc (.cells #[.bool false, .int .i64 0, .int .i64 1, .slice (some ⟨b, 0, none⟩) 1 1, .int .i64 1, .int .i64 0, .slice none 0 0] e)) mc1 (some ⟨w.heap.size, 0, none⟩) :=
  ⟨w.heap.size, 0, some ⟨b, 0, none⟩, 1, none, 0, rfl, cell_new 0 rfl, cell_new 1 rfl, cell_new 2 rfl, cell_new 3 rfl, cell_new 4 rfl, cell_new 5 rfl, cell_new 6 rfl, InP_alloc _ hi, InP_nil, trivial⟩
theorem Value_begun (n1 nt nv b : Nat) (w : World) (hg : Ints w [0, 1] (some ⟨n1, 0, none⟩)) (ht : TabsP w md1 (some ⟨b, 0, none⟩)) (hin : InL w [mv1] (some ⟨nt, 0, none⟩)) (hv : Ints w [1] (some ⟨nv, 0, none⟩)) :
    Calls Tryz.prog 65 #[.agg #[.slice (some ⟨n1, 0, none⟩) 2 2], .agg #[.int .i64 2, .slice (some ⟨b, 0, none⟩) 2 2], .agg #[.int .i64 0, .int .i64 1, .slice (some ⟨nt, 0, none⟩) 1 1], .slice (some ⟨nv, 0, none⟩) 1 1] w fun e w' => e = .returned (.tuple #[.int .i64 0, .int .i64 0]) ∧ Below w.heap.size w w' := by
  have h := Value_any [0, 1] (some ⟨n1, 0, none⟩) 2 2 md1 (some ⟨b, 0, none⟩) 2 mF1 (some ⟨nt, 0, none⟩) 1 [1] (some ⟨nv, 0, none⟩) 1 w hg ht hin hv (by decide)
  rw [md_value] at h
  exact h
theorem Holds_begun (n1 nc b : Nat) (w : World) (hg : Ints w [0, 1] (some ⟨n1, 0, none⟩)) (ht : TabsP w md1 (some ⟨b, 0, none⟩)) (hc : LitsP w mc1 (some ⟨nc, 0, none⟩)) :
    Calls Tryz.prog 23 #[.agg #[.slice (some ⟨n1, 0, none⟩) 2 2], .agg #[.int .i64 2, .slice (some ⟨b, 0, none⟩) 2 2], .slice (some ⟨nc, 0, none⟩) 1 1] w fun e w' => e = .returned (.tuple #[.bool true, .int .i64 0]) ∧ Below w.heap.size w w' := by
  have h := Holds_any [0, 1] (some ⟨n1, 0, none⟩) 2 2 md1 (some ⟨b, 0, none⟩) 2 mc1 (some ⟨nc, 0, none⟩) 1 w hg ht hc (by decide)
  rw [md_holds] at h
  exact h
theorem MCheck_begun (n1 b : Nat) (w : World) (hg : Ints w [0, 1] (some ⟨n1, 0, none⟩)) (ht : TabsP w md1 (some ⟨b, 0, none⟩)) :
    Calls Tryz.prog 66 #[.agg #[.slice (some ⟨n1, 0, none⟩) 2 2], .agg #[.int .i64 2, .slice (some ⟨b, 0, none⟩) 2 2]] w fun e w' => e = .returned (.int .i64 0) ∧ Below w.heap.size w w' := by
  have h := mCheck_any [0, 1] (some ⟨n1, 0, none⟩) 2 2 md1 (some ⟨b, 0, none⟩) 2 w hg ht
  rw [md_e] at h
  exact h
theorem one_ints {w : World} {x : Int} (e : TypeId) : Ints (w.alloc (.cells #[.int .i64 x] e)) [x] (some ⟨w.heap.size, 0, none⟩) := Or.inr ⟨_, 0, rfl, fun i hi => by
  have : i = 0 := by simp at hi; omega
  subst this; exact cell_new 0 rfl⟩
theorem one_intsN {w : World} {x : Int} {n : Nat} (e : TypeId) (hn : n = w.heap.size) : Ints (w.alloc (.cells #[.int .i64 x] e)) [x] (some ⟨n, 0, none⟩) := by rw [hn]; exact one_ints e
theorem Ints_drew {w : World} {zs : List Int} {a : Option Addr} (h : Ints w zs a) : Ints w.drew zs a := h
attribute [local go_sem ↓] Go.wp_at_zero Go.wp_at_succ
set_option maxRecDepth 100000 in
set_option maxHeartbeats 2000000 in
theorem modelBegun_any (w : World) : Calls Tryz.prog 22 #[] w fun e w' => e = .returned (.bool true) ∧ Below w.heap.size w w' := by
  obtain ⟨WA, hWA⟩ : ∃ WA, WA = (((w.alloc (.cells #[.int .i64 0] 3)).alloc (.cells #[.int .i64 1, .int .i64 0] 3)).alloc (.cells #[.slice (some ⟨w.heap.size, 0, none⟩) 1 1, .slice (some ⟨w.heap.size + 1, 0, none⟩) 2 2] 22)).alloc (.cells #[.int .i64 2, .slice (some ⟨w.heap.size + 1 + 1, 0, none⟩) 2 2] 43) := ⟨_, rfl⟩
  have hzA : WA.heap.size = w.heap.size + 4 := by rw [hWA]; simp
  have hbA : Below w.heap.size w WA := by rw [hWA]; exact (below3 _ _ _ _).alloc (by simp; omega) _
  have hT : TabsP WA md1 (some ⟨w.heap.size + 1 + 1, 0, none⟩) := by
    have e1 : (((w.alloc (.cells #[.int .i64 0] 3)).alloc (.cells #[.int .i64 1, .int .i64 0] 3))).heap.size = w.heap.size + 1 + 1 := by simp
    rw [hWA, ← e1]
    refine TabsP_below (below1 _ _) (Tabs_new 22 ?_ ?_)
    · exact Ints_alloc _ (Or.inr ⟨_, 0, rfl, fun i hi => by
        have : i = 0 := by simp at hi; omega
        subst this; exact cell_new 0 rfl⟩)
    · exact Or.inr ⟨_, 0, rfl, fun i hi => by
        have h2 : i < 2 := by simpa using hi
        rcases i with _ | _ | i
        · exact cell_new 0 (by simp)
        · exact cell_new 1 (by simp)
        · omega⟩
  have c0 : WA.cell? ⟨w.heap.size + 1 + 1 + 1, 0, none⟩ = some (.int .i64 2) := by rw [hWA]; exact cell_new 0 (by simp)
  have c1 : WA.cell? ⟨w.heap.size + 1 + 1 + 1, 1, none⟩ = some (.slice (some ⟨w.heap.size + 1 + 1, 0, none⟩) 2 2) := by rw [hWA]; exact cell_new 1 (by simp)
  have hS := hide (fun (w' : World) (hb : Below WA.heap.size WA w') => (⟨cellB hb c0, cellB hb c1⟩ : w'.cell? ⟨w.heap.size + 1 + 1 + 1, 0, none⟩ = some (.int .i64 2) ∧ w'.cell? ⟨w.heap.size + 1 + 1 + 1, 1, none⟩ = some (.slice (some ⟨w.heap.size + 1 + 1, 0, none⟩) 2 2)))
  have HWA := hide hWA
  have HT := hide hT
  have HbA := hide hbA
  clear hWA hT hbA
  go_enter Tryz.func22, Tryz.ntmps22
  go_wp2_with fail
  rw [← HWA.out]
  go_region_held3 (fun w' => w'.cell? ⟨w.heap.size + 1 + 1 + 1, 0, none⟩ = some (.int .i64 2) ∧ w'.cell? ⟨w.heap.size + 1 + 1 + 1, 1, none⟩ = some (.slice (some ⟨w.heap.size + 1 + 1, 0, none⟩) 2 2)) ((first | (refine hS.out _ ?_; (repeat' (first | with_reducible exact Hid.out ‹Hid (Below WA.heap.size WA _)› | with_reducible exact Below.refl _ _ | (with_reducible refine Below.drew ?_) | (refine Below.alloc ?_ ?_ _; rotate_left; focus (first | omega | (simp; omega) | (simp; done))))); done) | go_keep)) ((first
    | (go_at_call 61
       refine (small_any _).mono ?_
       rintro e wS ⟨n1, rfl, hg1, hbwS⟩
       have HwS : Hid (Below WA.heap.size WA wS) := by
         refine Below.trans (b := _) ?_ (hbwS.mono ?_)
         · (repeat' (first | with_reducible exact Hid.out ‹Hid (Below WA.heap.size WA _)› | with_reducible exact Below.refl _ _ | (with_reducible refine Below.drew ?_) | (refine Below.alloc ?_ ?_ _; rotate_left; focus (first | omega | (simp; omega) | (simp; done)))))
         · first | omega | (simp; omega) | (simp; done)
       have hzwS := HwS.out.size
       have KwS := hide hbwS
       have HG1 := hide hg1
       clear hg1
       clear hbwS)
    | (go_at_call 59
       refine (va_any 1 _).mono ?_
       rintro e wV ⟨rfl, hbwV⟩
       have HwV : Hid (Below WA.heap.size WA wV) := by
         refine Below.trans (b := _) ?_ (hbwV.mono ?_)
         · (repeat' (first | with_reducible exact Hid.out ‹Hid (Below WA.heap.size WA _)› | with_reducible exact Below.refl _ _ | (with_reducible refine Below.drew ?_) | (refine Below.alloc ?_ ?_ _; rotate_left; focus (first | omega | (simp; omega) | (simp; done)))))
         · first | omega | (simp; omega) | (simp; done)
       have hzwV := HwV.out.size
       have KwV := hide hbwV
       clear hbwV)
    | (go_at_call 60
       refine (fn_any 1 _ 1 1 _).mono ?_
       rintro e wF ⟨rfl, hbwF⟩
       have HwF : Hid (Below WA.heap.size WA wF) := by
         refine Below.trans (b := _) ?_ (hbwF.mono ?_)
         · (repeat' (first | with_reducible exact Hid.out ‹Hid (Below WA.heap.size WA _)› | with_reducible exact Below.refl _ _ | (with_reducible refine Below.drew ?_) | (refine Below.alloc ?_ ?_ _; rotate_left; focus (first | omega | (simp; omega) | (simp; done)))))
         · first | omega | (simp; omega) | (simp; done)
       have hzwF := HwF.out.size
       have KwF := hide hbwF
       clear hbwF)
    | (go_at_call 65
       refine (Value_begun n1 _ _ _ _ ?_ (TabsP_below ?_ HT.out) ?_ ?_).mono ?_
       rotate_left 4
       rintro e wW ⟨rfl, hbwW⟩
       have HwW : Hid (Below WA.heap.size WA wW) := by
         refine Below.trans (b := _) ?_ (hbwW.mono ?_)
         · (repeat' (first | with_reducible exact Hid.out ‹Hid (Below WA.heap.size WA _)› | with_reducible exact Below.refl _ _ | (with_reducible refine Below.drew ?_) | (refine Below.alloc ?_ ?_ _; rotate_left; focus (first | omega | (simp; omega) | (simp; done)))))
         · first | omega | (simp; omega) | (simp; done)
       have hzwW := HwW.out.size
       clear hbwW
       rotate_left 1
       · (repeat' (first | with_reducible exact HG1.out | exact one_intsN _ (by first | rfl | omega | (simp; done) | (simp; omega)) | (with_reducible refine Ints_drew ?_) | (with_reducible refine Ints_alloc _ ?_) | (with_reducible refine Ints_below KwF.out ?_) | (with_reducible refine Ints_below KwV.out ?_) | (with_reducible refine Ints_below KwS.out ?_)))
       · (repeat' (first | with_reducible exact Hid.out ‹Hid (Below WA.heap.size WA _)› | with_reducible exact Below.refl _ _ | (with_reducible refine Below.drew ?_) | (refine Below.alloc ?_ ?_ _; rotate_left; focus (first | omega | (simp; omega) | (simp; done)))))
       · (repeat' (first | exact InP_newT (p := fun _ => True) (t := mv1) _ (by first | rfl | simp) trivial rfl | (with_reducible refine InP_alloc _ ?_) | (with_reducible refine InP_below KwF.out ?_)))
       · (repeat' (first | with_reducible exact HG1.out | exact one_intsN _ (by first | rfl | omega | (simp; done) | (simp; omega)) | (with_reducible refine Ints_drew ?_) | (with_reducible refine Ints_alloc _ ?_) | (with_reducible refine Ints_below KwF.out ?_) | (with_reducible refine Ints_below KwV.out ?_) | (with_reducible refine Ints_below KwS.out ?_))))))
  all_goals
    have HTW := hide (TabsP_below HwW.out HT.out)
    have hSW := hide (fun (w' : World) (hb : Below wW.heap.size wW w') => hS.out w' (HwW.out.trans (hb.mono hzwW)))
    have HbW := hide (HbA.out.trans (HwW.out.mono HbA.out.size))
    clear hS HT HbA KwS KwV KwF HwS HwV HwF HwW HG1 HWA hzwS hzwV hzwF
    go_wp2_with fail
    go_region_held3 (fun w' => w'.cell? ⟨w.heap.size + 1 + 1 + 1, 0, none⟩ = some (.int .i64 2) ∧ w'.cell? ⟨w.heap.size + 1 + 1 + 1, 1, none⟩ = some (.slice (some ⟨w.heap.size + 1 + 1, 0, none⟩) 2 2)) ((first | (refine hSW.out _ ?_; (repeat' (first | with_reducible exact Hid.out ‹Hid (Below wW.heap.size wW _)› | with_reducible exact Below.refl _ _ | (with_reducible refine Below.drew ?_) | (refine Below.alloc ?_ ?_ _; rotate_left; focus (first | omega | (simp; omega) | (simp; done))))); done) | go_keep)) ((first
      | (go_at_call 61
         refine (small_any _).mono ?_
         rintro e wT ⟨n2, rfl, hg2, hbwT⟩
         have HwT : Hid (Below wW.heap.size wW wT) := by
           refine Below.trans (b := _) ?_ (hbwT.mono ?_)
           · (repeat' (first | with_reducible exact Hid.out ‹Hid (Below wW.heap.size wW _)› | with_reducible exact Below.refl _ _ | (with_reducible refine Below.drew ?_) | (refine Below.alloc ?_ ?_ _; rotate_left; focus (first | omega | (simp; omega) | (simp; done)))))
           · first | omega | (simp; omega) | (simp; done)
         have hzwT := HwT.out.size
         have KwT := hide hbwT
         have HG2 := hide hg2
         clear hg2
         clear hbwT)
      | (go_at_call 59
         with_reducible refine (va_any 1 wG).mono ?_
         rintro e wI ⟨rfl, hbwI⟩
         have HwI : Hid (Below wW.heap.size wW wI) := by
           refine Below.trans (b := _) ?_ (hbwI.mono ?_)
           · (repeat' (first | with_reducible exact Hid.out ‹Hid (Below wW.heap.size wW _)› | with_reducible exact Below.refl _ _ | (with_reducible refine Below.drew ?_) | (refine Below.alloc ?_ ?_ _; rotate_left; focus (first | omega | (simp; omega) | (simp; done)))))
           · first | omega | (simp; omega) | (simp; done)
         have hzwI := HwI.out.size
         have KwI := hide hbwI
         clear hbwI)
      | (go_at_call 59
         refine (va_any 1 _).mono ?_
         rintro e wU ⟨rfl, hbwU⟩
         have HwU : Hid (Below wW.heap.size wW wU) := by
           refine Below.trans (b := _) ?_ (hbwU.mono ?_)
           · (repeat' (first | with_reducible exact Hid.out ‹Hid (Below wW.heap.size wW _)› | with_reducible exact Below.refl _ _ | (with_reducible refine Below.drew ?_) | (refine Below.alloc ?_ ?_ _; rotate_left; focus (first | omega | (simp; omega) | (simp; done)))))
           · first | omega | (simp; omega) | (simp; done)
         have hzwU := HwU.out.size
         have KwU := hide hbwU
         clear hbwU)
      | (go_at_call 60
         refine (fn_any 1 _ 1 1 _).mono ?_
         rintro e wG ⟨rfl, hbwG⟩
         have HwG : Hid (Below wW.heap.size wW wG) := by
           refine Below.trans (b := _) ?_ (hbwG.mono ?_)
           · (repeat' (first | with_reducible exact Hid.out ‹Hid (Below wW.heap.size wW _)› | with_reducible exact Below.refl _ _ | (with_reducible refine Below.drew ?_) | (refine Below.alloc ?_ ?_ _; rotate_left; focus (first | omega | (simp; omega) | (simp; done)))))
           · first | omega | (simp; omega) | (simp; done)
         have hzwG := HwG.out.size
         have KwG := hide hbwG
         clear hbwG)
      | (go_at_call 23
         refine (Holds_begun n2 _ _ _ ?_ (TabsP_below ?_ HTW.out) (Lits_new 79 (InP_below KwI.out (InP_below KwG.out (InP_newT (p := fun _ => True) (w := wU) (t := mv1) _ rfl trivial rfl))))).mono ?_
         rotate_left 2
         rintro e wH ⟨rfl, hbwH⟩
         have HwH : Hid (Below wW.heap.size wW wH) := by
           refine Below.trans (b := _) ?_ (hbwH.mono ?_)
           · (repeat' (first | with_reducible exact Hid.out ‹Hid (Below wW.heap.size wW _)› | with_reducible exact Below.refl _ _ | (with_reducible refine Below.drew ?_) | (refine Below.alloc ?_ ?_ _; rotate_left; focus (first | omega | (simp; omega) | (simp; done)))))
           · first | omega | (simp; omega) | (simp; done)
         have hzwH := HwH.out.size
         clear hbwH
         rotate_left 1
         · (repeat' (first | with_reducible exact HG2.out | (with_reducible refine Ints_drew ?_) | (with_reducible refine Ints_alloc _ ?_) | (with_reducible refine Ints_below KwI.out ?_) | (with_reducible refine Ints_below KwG.out ?_) | (with_reducible refine Ints_below KwU.out ?_)))
         · (repeat' (first | with_reducible exact Hid.out ‹Hid (Below wW.heap.size wW _)› | with_reducible exact Below.refl _ _ | (with_reducible refine Below.drew ?_) | (refine Below.alloc ?_ ?_ _; rotate_left; focus (first | omega | (simp; omega) | (simp; done))))))))
    have HTH := hide (TabsP_below HwH.out HTW.out)
    have hSH := hide (fun (w' : World) (hb : Below wH.heap.size wH w') => hSW.out w' (HwH.out.trans (hb.mono hzwH)))
    have HbH := hide (HbW.out.trans (HwH.out.mono HbW.out.size))
    clear hSW HTW HbW KwT KwU KwG KwI HwT HwU HwG HwI HwH HG2 hzwT hzwU hzwG hzwI
    go_wp2_with fail
    go_region_held3 (fun w' => w'.cell? ⟨w.heap.size + 1 + 1 + 1, 0, none⟩ = some (.int .i64 2) ∧ w'.cell? ⟨w.heap.size + 1 + 1 + 1, 1, none⟩ = some (.slice (some ⟨w.heap.size + 1 + 1, 0, none⟩) 2 2)) ((first | (refine hSH.out _ ?_; (repeat' (first | with_reducible exact Hid.out ‹Hid (Below wH.heap.size wH _)› | with_reducible exact Below.refl _ _ | (with_reducible refine Below.drew ?_) | (refine Below.alloc ?_ ?_ _; rotate_left; focus (first | omega | (simp; omega) | (simp; done))))); done) | go_keep)) ((first
      | (go_at_call 61
         refine (small_any _).mono ?_
         rintro e wX ⟨n3, rfl, hg3, hbwX⟩
         have HwX : Hid (Below wH.heap.size wH wX) := by
           refine Below.trans (b := _) ?_ (hbwX.mono ?_)
           · (repeat' (first | with_reducible exact Hid.out ‹Hid (Below wH.heap.size wH _)› | with_reducible exact Below.refl _ _ | (with_reducible refine Below.drew ?_) | (refine Below.alloc ?_ ?_ _; rotate_left; focus (first | omega | (simp; omega) | (simp; done)))))
           · first | omega | (simp; omega) | (simp; done)
         have hzwX := HwX.out.size
         have HG3 := hide hg3
         clear hbwX hg3)
      | (go_at_call 66
         refine (MCheck_begun n3 _ _ ?_ (TabsP_below ?_ HTH.out)).mono ?_
         rotate_left 2
         rintro e wY ⟨rfl, hbwY⟩
         have HwY : Hid (Below wH.heap.size wH wY) := by
           refine Below.trans (b := _) ?_ (hbwY.mono ?_)
           · (repeat' (first | with_reducible exact Hid.out ‹Hid (Below wH.heap.size wH _)› | with_reducible exact Below.refl _ _ | (with_reducible refine Below.drew ?_) | (refine Below.alloc ?_ ?_ _; rotate_left; focus (first | omega | (simp; omega) | (simp; done)))))
           · first | omega | (simp; omega) | (simp; done)
         clear hbwY
         rotate_left 1
         · (repeat' (first | with_reducible exact HG3.out | (with_reducible refine Ints_drew ?_) | (with_reducible refine Ints_alloc _ ?_)))
         · (repeat' (first | with_reducible exact Hid.out ‹Hid (Below wH.heap.size wH _)› | with_reducible exact Below.refl _ _ | (with_reducible refine Below.drew ?_) | (refine Below.alloc ?_ ?_ _; rotate_left; focus (first | omega | (simp; omega) | (simp; done))))))))
    have HbY := hide (HbH.out.trans (HwY.out.mono HbH.out.size))
    go_wp2_with fail
    go_ret
    exact ⟨rfl, HbY.out⟩
end Go.Proofs.YtbkedppkdhfpoabGreat

namespace Go.Proofs.YtbkedppkdhfpoabGreat
open Go.RowKit
theorem infer_ok {ar : List Int} {cs : List (List Lit)} {i : Inf} (h : (inferS ar cs i).2 = 0) : clausesErr ar cs = 0 ∧ infErr ar cs i = 0 := by
  rw [inferS] at h
  split at h
  · rename_i h1
    split at h
    · rename_i h2; exact ⟨h1, h2⟩
    · rename_i h2; exact absurd h h2
  · rename_i h1; exact absurd h h1
attribute [local go_sem ↓] Go.wp_at_zero Go.wp_at_succ
set_option maxRecDepth 100000 in
set_option maxHeartbeats 2000000 in
theorem inferSound_any (ar : List Int) (ga : Option Addr) (gcap : Nat) (ls : List (List Lit)) (la : Option Addr) (lc : Nat) (i : Inf) (pa : Option Addr) (pc : Nat) (n : Int) (ts : List (List Int)) (ta : Option Addr) (tc : Nat) (w : World) (hl : ls.length ≤ 9223372036854775807) (hcl : ∀ c, c ∈ ls → c.length ≤ 9223372036854775807) (hpl : i.place.length ≤ 9223372036854775807) (hg : Ints w ar ga) (hc : ClausesP w ls la) (hp : Ints w i.place pa) (ht : TabsP w ts ta) :
    Calls Tryz.prog 7 #[.agg #[.slice ga ar.length gcap], .slice la ls.length lc, infV i pa pc, .agg #[.int .i64 n, .slice ta ts.length tc]] w fun e w' => e = .returned (.bool true) ∧ Below w.heap.size w w' := by
  obtain ⟨W1, hW1⟩ : ∃ W1, W1 = ((w.alloc (.cells #[.slice ga ar.length gcap] 24)).alloc (.cells #[.int .i64 i.kind, .int .i64 i.left, .int .i64 i.right, .int .i64 i.la, .int .i64 i.ra, .bool i.lt, .bool i.rt, .slice pa i.place.length pc] 47)).alloc (.cells #[.int .i64 n, .slice ta ts.length tc] 43) := ⟨_, rfl⟩
  have hbW : Below w.heap.size w W1 := by rw [hW1]; exact below3 _ _ _ _
  have hcg : W1.cell? ⟨w.heap.size, 0, none⟩ = some (.slice ga ar.length gcap) := by rw [hW1, cell_alloc_lt (by first | (simp; done) | (simp; omega)), cell_alloc_lt (by first | (simp; done) | (simp; omega))]; exact cell_new 0 rfl
  have h8 : I8 W1 (w.heap.size + 1) i pa pc := by
    rw [hW1]
    exact (I8.new _ (by simp)).below (below1 _ _)
  have hm0 : W1.cell? ⟨w.heap.size + 1 + 1, 0, none⟩ = some (.int .i64 n) := by rw [hW1]; exact cell_new 0 (by simp)
  have hm1 : W1.cell? ⟨w.heap.size + 1 + 1, 1, none⟩ = some (.slice ta ts.length tc) := by rw [hW1]; exact cell_new 1 (by simp)
  have HL := hide (fun (w' : World) (hb : Below W1.heap.size W1 w') => (show w'.cell? ⟨w.heap.size, 0, none⟩ = some (.slice ga ar.length gcap) ∧ w'.cell? ⟨w.heap.size + 1 + 1, 0, none⟩ = some (.int .i64 n) ∧ w'.cell? ⟨w.heap.size + 1 + 1, 1, none⟩ = some (.slice ta ts.length tc) ∧ I8 w' (w.heap.size + 1) i pa pc from ⟨cell_below hb hcg, cell_below hb hm0, cell_below hb hm1, h8.below hb⟩))
  have HB := hide (fun (w' : World) (hb : Below W1.heap.size W1 w') => hbW.trans (hb.mono hbW.size))
  have HW1 := hide hW1
  have HI := hide (fun (w' : World) (hb : Below W1.heap.size W1 w') => Infer_any ar ga gcap ls la lc i pa pc w' hl hcl hpl (Ints_below (HB.out _ hb) hg) (Ints_below (HB.out _ hb) hp) (ClausesP_below (HB.out _ hb) hc))
  have HH := hide (fun (c : List Lit) (ca : Option Addr) (cc : Nat) (hcc : c.length ≤ 9223372036854775807) (w' : World) (hb : Below W1.heap.size W1 w') (hc : LitsP w' c ca) => Holds_any ar ga gcap n ts ta tc c ca cc w' (Ints_below (HB.out _ hb) hg) (TabsP_below (HB.out _ hb) ht) hc hcc)
  have Hc := hide hc
  have Hcl := hide hcl
  have HE := hide (@infer_err ar ls i)
  have HO := hide (fun h => infer_ok (ar := ar) (cs := ls) (i := i) h)
  have HS := hide (fun h => infer_holds (ar := ar) (n := n) (ts := ts) (cs := ls) (i := i) h)
  have HN := hide (fun h => (infer_len (ar := ar) (cs := ls) (i := i) h).1)
  obtain ⟨Z, hZ⟩ : ∃ Z, Z = inferS ar ls i := ⟨_, rfl⟩
  rw [← hZ] at HI HE HO HS HN
  clear hZ hg hc hp ht hcg hm0 hm1 hW1 hbW hcl h8
  go_enter Tryz.func7, Tryz.ntmps7
  go_upto_region 1 with fail
  rw [← HW1.out]
  go_wp2_with fail
  refine (inferBegun_any W1).mono ?_
  rintro e w1 ⟨rfl, hb1⟩
  have Hb1 := hide hb1
  clear hb1
  go_wp2_with fail
  refine (modelBegun_any w1).mono ?_
  rintro e w2 ⟨rfl, hb2⟩
  have Hb2 := hide (Hb1.out.trans (hb2.mono Hb1.out.size))
  have HI1 := hide (HI.out w2 Hb2.out)
  obtain ⟨g0, m0, m1, e0, e1, e2, e3, e4, e5, e6, e7⟩ := HL.out w2 Hb2.out
  clear hb2 HI Hb1
  go_wp2_with fail
  refine HI1.out.mono ?_
  rintro e w3 ⟨⟨za, zc, rfl, hzP, -⟩, hb3⟩
  have Hb3 := hide (Hb2.out.trans (hb3.mono Hb2.out.size))
  have HzP := hide hzP
  clear hb3 hzP Hb2 g0 m0 m1 e0 e1 e2 e3 e4 e5 e6 e7 HI1
  by_cases hZ0 : Z.2 = 0
  · have ez : (Z.2 != 0) = false := by simpa using hZ0
    have hok := HO.out hZ0
    have hfit := fits_of hok.1 hok.2
    obtain ⟨kl, hkl, ekl, hcL⟩ := hasN_at [] hfit.2.1
    obtain ⟨kr, hkr, ekr, hcR⟩ := hasN_at [] hfit.2.2
    obtain ⟨cL, heL⟩ : ∃ cL, cL = clAt ls i.left := ⟨_, rfl⟩
    obtain ⟨cR, heR⟩ : ∃ cR, cR = clAt ls i.right := ⟨_, rfl⟩
    have HcL : Hid (ls[kl]? = some cL) := hide (by rw [heL]; exact hcL)
    have HcR : Hid (ls[kr]? = some cR) := hide (by rw [heR]; exact hcR)
    have HeL := hide heL
    have HeR := hide heR
    have hltl := (List.getElem?_eq_some_iff.1 hcL).1
    have hltr := (List.getElem?_eq_some_iff.1 hcR).1
    have hklI : (kl : Int) < ls.length := by omega
    have hkl0 : (0 : Int) ≤ kl := by omega
    have hkrI : (kr : Int) < ls.length := by omega
    have hkr0 : (0 : Int) ≤ kr := by omega
    have HS1 := hide (HS.out hZ0)
    have HN1 := hide (HN.out hZ0)
    have Hkl := hide hkl
    have Hkr := hide hkr
    clear hZ0 HS HN HO HE hok hfit hcL hcR ekl ekr hltl hltr heL heR
    obtain ⟨b, off, rfl⟩ := ClausesP_some Hc.out (by omega)
    have HL2 := hide (fun (w' : World) (hb : Below W1.heap.size W1 w') => (show w'.cell? ⟨w.heap.size, 0, none⟩ = some (.slice ga ar.length gcap) ∧ w'.cell? ⟨w.heap.size + 1 + 1, 0, none⟩ = some (.int .i64 n) ∧ w'.cell? ⟨w.heap.size + 1 + 1, 1, none⟩ = some (.slice ta ts.length tc) ∧ w'.cell? ⟨w.heap.size + 1, 0, none⟩ = some (.int .i64 i.kind) ∧ w'.cell? ⟨w.heap.size + 1, 1, none⟩ = some (.int .i64 (kl : Int)) ∧ w'.cell? ⟨w.heap.size + 1, 2, none⟩ = some (.int .i64 (kr : Int)) from by
      obtain ⟨q1, q2, q3, h8⟩ := HL.out w' hb
      exact ⟨q1, q2, q3, h8.e0, by rw [← Hkl.out]; exact h8.e1, by rw [← Hkr.out]; exact h8.e2⟩))
    clear HL hkl hkr
    obtain ⟨ca, cc, hcell, hcP⟩ := ClausesP_at (ClausesP_below (HB.out _ Hb3.out) Hc.out) HcL.out
    have HcP := hide (fun (w' : World) (hb : Below w3.heap.size w3 w') => LitsP_below hb hcP)
    have b0 := fun (w' : World) (hb : Below w3.heap.size w3 w') => (HL2.out w' (Hb3.out.trans (hb.mono Hb3.out.size))).1
    have b1 := fun (w' : World) (hb : Below w3.heap.size w3 w') => (HL2.out w' (Hb3.out.trans (hb.mono Hb3.out.size))).2.1
    have b2 := fun (w' : World) (hb : Below w3.heap.size w3 w') => (HL2.out w' (Hb3.out.trans (hb.mono Hb3.out.size))).2.2.1
    have b3 := fun (w' : World) (hb : Below w3.heap.size w3 w') => (HL2.out w' (Hb3.out.trans (hb.mono Hb3.out.size))).2.2.2.2.1
    have b4 := fun (w' : World) (hb : Below w3.heap.size w3 w') => cellB hb hcell
    have hbr := Below.refl w3.heap.size w3
    have HHc := hide (fun (w' : World) (hb : Below w3.heap.size w3 w') => HH.out _ ca cc (Hcl.out _ (List.mem_of_getElem? HcL.out)) w' (Hb3.out.trans (hb.mono Hb3.out.size)) (HcP.out w' hb))
    clear hcP hcell HcP
    obtain ⟨R, hR⟩ : ∃ R, R = holdsS ar n ts cL := ⟨_, rfl⟩
    rw [← hR] at HHc
    have HR := hide hR
    clear hR
    go_upto_region 6 with fail
    go_cut [11, 10] (fun x y wc => x = .bool R.1 ∧ y = .int .i64 R.2 ∧ Hid (Below w3.heap.size w3 wc))
    case first =>
      go_region_held3 (fun w' => Below w3.heap.size w3 w') ((first | with_reducible exact HbA.out | ((repeat' (first | with_reducible exact HbA.out | with_reducible exact Below.refl _ _ | (with_reducible refine Below.drew ?_))); done) | go_keep)) ((first
           | (go_at_call 23
              with_reducible refine (HHc.out _ ?_).mono ?_
              focus ((repeat' (first | with_reducible exact Below.refl _ _ | (with_reducible refine Below.drew ?_))); done)
              rintro e wA ⟨rfl, hbA⟩
              have HbA : Hid (Below w3.heap.size w3 wA) := by first | exact hbA | exact below_undrew hbA
              clear hbA)))
      all_goals (go_wp2_with fail; go_meet)
      all_goals exact ⟨rfl, rfl, HbA⟩
    case rest =>
      obtain ⟨rfl, rfl, HbA⟩ := hcut
      clear b0 b1 b2 b3 b4 hbr HHc
      obtain ⟨W4, hW4⟩ : ∃ W4, W4 = wc := ⟨_, rfl⟩
      rw [← hW4] at HbA ⊢
      clear hW4
      have Hb4 := hide (Hb3.out.trans (HbA.out.mono Hb3.out.size))
      by_cases hE : R.2 = 0
      · have ee : (R.2 != 0) = false := by simpa using hE
        cases hX : R.1 with
        | true =>
          have HLf : Hid (holdsS ar n ts (clAt ls i.left) = (true, 0)) := hide (by rw [← HeL.out, ← HR.out, ← hX, ← hE])
          clear hE hX
          have hk0 := (HL2.out W4 Hb4.out).2.2.2.1
          by_cases hk : i.kind = 3
          · have ek : (i.kind == 3) = true := by rw [hk]; rfl
            obtain ⟨ca, cc, hcell, hcP⟩ := ClausesP_at (ClausesP_below (HB.out _ Hb4.out) Hc.out) HcR.out
            have HcP := hide (fun (w' : World) (hb : Below W4.heap.size W4 w') => LitsP_below hb hcP)
            have b0 := fun (w' : World) (hb : Below W4.heap.size W4 w') => (HL2.out w' (Hb4.out.trans (hb.mono Hb4.out.size))).1
            have b1 := fun (w' : World) (hb : Below W4.heap.size W4 w') => (HL2.out w' (Hb4.out.trans (hb.mono Hb4.out.size))).2.1
            have b2 := fun (w' : World) (hb : Below W4.heap.size W4 w') => (HL2.out w' (Hb4.out.trans (hb.mono Hb4.out.size))).2.2.1
            have b3 := fun (w' : World) (hb : Below W4.heap.size W4 w') => (HL2.out w' (Hb4.out.trans (hb.mono Hb4.out.size))).2.2.2.2.2
            have b4 := fun (w' : World) (hb : Below W4.heap.size W4 w') => cellB hb hcell
            have hbr := Below.refl W4.heap.size W4
            have HHc := hide (fun (w' : World) (hb : Below W4.heap.size W4 w') => HH.out _ ca cc (Hcl.out _ (List.mem_of_getElem? HcR.out)) w' (Hb4.out.trans (hb.mono Hb4.out.size)) (HcP.out w' hb))
            clear hcP hcell HcP
            obtain ⟨S, hS⟩ : ∃ S, S = holdsS ar n ts cR := ⟨_, rfl⟩
            rw [← hS] at HHc
            have HSr := hide hS
            have Hk := hide hk
            have HbB := hide HbA.out
            clear hS HbA hk
            go_upto_region 10 with fail
            clear hk0
            go_cut [12, 13] (fun x y wc => x = .bool S.1 ∧ y = .int .i64 S.2 ∧ Hid (Below W4.heap.size W4 wc))
            case first =>
              go_region_held3 (fun w' => Below W4.heap.size W4 w') ((first | with_reducible exact HbA.out | ((repeat' (first | with_reducible exact HbA.out | with_reducible exact Below.refl _ _ | (with_reducible refine Below.drew ?_))); done) | go_keep)) ((first
                   | (go_at_call 23
                      with_reducible refine (HHc.out _ ?_).mono ?_
                      focus ((repeat' (first | with_reducible exact Below.refl _ _ | (with_reducible refine Below.drew ?_))); done)
                      rintro e wA ⟨rfl, hbA⟩
                      have HbA : Hid (Below W4.heap.size W4 wA) := by first | exact hbA | exact below_undrew hbA
                      clear hbA)))
              all_goals (go_wp2_with fail; go_meet)
              all_goals exact ⟨rfl, rfl, HbA⟩
            case rest =>
              obtain ⟨rfl, rfl, HbA⟩ := hcut
              clear b0 b1 b2 b3 b4 hbr HHc
              obtain ⟨W5, hW5⟩ : ∃ W5, W5 = wc := ⟨_, rfl⟩
              rw [← hW5] at HbA ⊢
              clear hW5
              have Hb5 := hide (Hb4.out.trans (HbA.out.mono Hb4.out.size))
              have HzB := hide (HbB.out.trans (HbA.out.mono HbB.out.size))
              by_cases hE2 : S.2 = 0
              · have ee2 : (S.2 != 0) = false := by simpa using hE2
                cases hX2 : S.1 with
                | true =>
                  have HRf : Hid (holdsS ar n ts (clAt ls i.right) = (true, 0)) := hide (by rw [← HeR.out, ← HSr.out, ← hX2, ← hE2])
                  clear hE2 hX2
                  have HHz := hide (HH.out Z.1 za zc (by have := HN1.out; omega) W5 Hb5.out (LitsP_below HzB.out HzP.out))
                  have HF := hide (HS1.out HLf.out (fun _ => HRf.out))
                  obtain ⟨R3, hR3⟩ : ∃ R3, R3 = holdsS ar n ts Z.1 := ⟨_, rfl⟩
                  rw [← hR3] at HHz HF
                  obtain ⟨g0, m0, m1, -⟩ := HL2.out W5 Hb5.out
                  clear hR3
                  go_wp2_with fail
                  refine HHz.out.mono ?_
                  rintro e w6 ⟨rfl, hb6⟩
                  have Hb6 := hide (HB.out _ (Hb5.out.trans (hb6.mono Hb5.out.size)))
                  clear hb6 HHz
                  by_cases h6 : R3.2 = 0
                  · have e6 : (R3.2 != 0) = false := by simpa using h6
                    have h7 := HF.out h6
                    rw [h7]
                    clear h6 h7 HF
                    go_wp2_with fail
                    go_ret
                    exact ⟨rfl, Hb6.out⟩
                  · have e6 : (R3.2 != 0) = true := by simpa using h6
                    clear h6 HF
                    go_wp2_with fail
                    go_ret
                    exact ⟨rfl, Hb6.out⟩
                | false =>
                  clear hE2 hX2
                  go_wp2_with fail
                  go_ret
                  exact ⟨rfl, HB.out _ Hb5.out⟩
              · have ee2 : (S.2 != 0) = true := by simpa using hE2
                clear hE2
                go_wp2_with fail
                go_ret
                exact ⟨rfl, HB.out _ Hb5.out⟩
          · have ek : (i.kind == 3) = false := by simpa using hk
            have HHz := hide (HH.out Z.1 za zc (by have := HN1.out; omega) W4 Hb4.out (LitsP_below HbA.out HzP.out))
            have HF := hide (HS1.out HLf.out (fun h => absurd h hk))
            obtain ⟨R3, hR3⟩ : ∃ R3, R3 = holdsS ar n ts Z.1 := ⟨_, rfl⟩
            rw [← hR3] at HHz HF
            obtain ⟨g0, m0, m1, -⟩ := HL2.out W4 Hb4.out
            clear hR3 hk
            go_wp2_with fail
            refine HHz.out.mono ?_
            rintro e w6 ⟨rfl, hb6⟩
            have Hb6 := hide (HB.out _ (Hb4.out.trans (hb6.mono Hb4.out.size)))
            clear hb6 HHz
            by_cases h6 : R3.2 = 0
            · have e6 : (R3.2 != 0) = false := by simpa using h6
              have h7 := HF.out h6
              rw [h7]
              clear h6 h7 HF
              go_wp2_with fail
              go_ret
              exact ⟨rfl, Hb6.out⟩
            · have e6 : (R3.2 != 0) = true := by simpa using h6
              clear h6 HF
              go_wp2_with fail
              go_ret
              exact ⟨rfl, Hb6.out⟩
        | false =>
          clear hE hX
          go_wp2_with fail
          go_ret
          exact ⟨rfl, HB.out _ Hb4.out⟩
      · have ee : (R.2 != 0) = true := by simpa using hE
        clear hE
        go_wp2_with fail
        go_ret
        exact ⟨rfl, HB.out _ Hb4.out⟩
  · have ez : (Z.2 != 0) = true := by simpa using hZ0
    have hz1 := HE.out hZ0
    rw [hz1]
    clear hZ0 hz1 HS HN HO HE
    go_wp2_with fail
    go_ret
    exact ⟨rfl, HB.out _ Hb3.out⟩
end Go.Proofs.YtbkedppkdhfpoabGreat

namespace Go.Proofs.YtbkedppkdhfpoabGreat
open Go.RowKit Go.ChangeShapes Go.WideShapes Go.Deep
theorem InL_of_fn {w : World} : ∀ (n b off : Nat) (f : Nat → T), (∀ i, i < n → ∃ s, w.cell? ⟨b, off + i * 3, none⟩ = some (.int .i64 (f i).v) ∧ w.cell? ⟨b, off + i * 3 + 1, none⟩ = some (.int .i64 (f i).f) ∧ w.cell? ⟨b, off + i * 3 + 2, none⟩ = some s ∧ (f i).In (fun _ => True) w s) →
    InL w ((List.range n).map f) (some ⟨b, off, none⟩) := by
  intro n
  induction n with
  | zero => intro b off f _; exact InP_nil
  | succ n ih =>
    intro b off f h
    rw [List.range_succ_eq_map, List.map_cons, List.map_map]
    obtain ⟨s, c0, c1, c2, hin⟩ := h 0 (by omega)
    refine InP_cons.2 ⟨b, off, s, rfl, trivial, by simpa using c0, by simpa using c1, by simpa using c2, hin, ih b (off + 3) (f ∘ Nat.succ) (fun i hi => ?_)⟩
    obtain ⟨s, c0, c1, c2, hin⟩ := h (i + 1) (by omega)
    have e : off + (i + 1) * 3 = off + 3 + i * 3 := by omega
    rw [e] at c0 c1 c2
    exact ⟨s, c0, c1, c2, hin⟩
theorem Tryz.cells77 : Tryz.prog.cellsOf 77 = 3 := by kernel_rfl
theorem Tryz.cells3 : Tryz.prog.cellsOf 3 = 1 := by kernel_rfl
theorem Tryz.cells24 : Tryz.prog.cellsOf 24 = 1 := by kernel_rfl
section
variable {H : Type} {enc : TypeId × Value → H} {W : World} {spare : Nat → Bool} {held : Bool}
set_option maxRecDepth 100000 in
theorem open_term : ∀ (fuel : Nat) (cs : List Value) (x : DataW H × List MemPlace), DataW.trod enc Tryz.prog W 0 spare held fuel 77 cs = some x →
    ∃ (t : T) (a : Option Addr) (cap : Nat), cs = [.int .i64 t.v, .int .i64 t.f, .slice a t.args.length cap] ∧ InL W t.args a := by
  intro fuel
  induction fuel using Nat.strongRecOn with
  | _ fuel ih =>
    intro cs x h
    obtain ⟨xs, n, hn, hx, hl, hlen, hf⟩ := DataW.trod_struct Go.Proofs.Tryz.underlying77 h
    rw [Tryz.cells77] at hl
    match cs, hl with
    | [c0, c1, c2], _ =>
      have f0 := hf 0 _ rfl
      have f1 := hf 1 _ rfl
      have f2 := hf 2 _ rfl
      match xs, hlen with
      | [y0, y1, y2], _ =>
        simp only [List.getElem?_cons_zero, List.getElem?_cons_succ] at f0 f1 f2
        have g0 : DataW.trod enc Tryz.prog W 0 spare held n 3 [c0] = some y0 := f0
        have g1 : DataW.trod enc Tryz.prog W 0 spare held n 3 [c1] = some y1 := f1
        have g2 : DataW.trod enc Tryz.prog W 0 spare held n 75 [c2] = some y2 := f2
        obtain ⟨v, e0, _, _⟩ := DataW.trod_int Go.Proofs.Tryz.underlying3 g0
        obtain ⟨f, e1, _, _⟩ := DataW.trod_int Go.Proofs.Tryz.underlying3 g1
        simp only [List.cons.injEq, and_true] at e0 e1
        subst e0 e1
        rcases DataW.trod_slice Go.Proofs.Tryz.underlying75 g2 with ⟨e2, _⟩ | ⟨a, len, cap, elems, rest, m, hm, e2, _, hb, hl', hm', hlen', hel, _, _⟩
        · simp only [List.cons.injEq, and_true] at e2
          subst e2
          exact ⟨⟨v, f, []⟩, none, 0, rfl, InP_nil⟩
        · simp only [List.cons.injEq, and_true] at e2
          subst e2
          rw [Tryz.cells77] at hel
          have hchild : ∀ i, i < len → ∃ t : T, ∃ s, W.cell? (a.add (i * 3)) = some (.int .i64 t.v) ∧ W.cell? ((a.add (i * 3)).add 1) = some (.int .i64 t.f) ∧ W.cell? ((a.add (i * 3)).add 2) = some s ∧ t.In (fun _ => True) W s := by
            intro i hi
            have h1 := hel i hi
            rw [List.getElem?_eq_getElem (by omega)] at h1
            obtain ⟨cs', h2, h3⟩ := Option.bind_eq_some_iff.1 h1
            obtain ⟨t, a', cap', hcs, hin⟩ := ih m (by omega) cs' _ h3
            obtain ⟨_, _, hcell⟩ := World.cells?_some h2
            rw [hcs] at hcell
            refine ⟨t, .slice a' t.args.length cap', ?_, hcell 1 (by omega), hcell 2 (by omega), In_iff.2 ⟨a', cap', rfl, hin⟩⟩
            have := hcell 0 (by omega)
            rwa [show (a.add (i * 3)).add 0 = a.add (i * 3) from by simp [Addr.add]] at this
          by_cases h0 : len = 0
          · subst h0
            exact ⟨⟨v, f, []⟩, some a, cap, rfl, InP_nil⟩
          · obtain ⟨b, off, spot⟩ := a
            have hspot : spot = none := by
              obtain ⟨t, s, hc, _⟩ := hchild 0 (by omega)
              simpa [Addr.add] using World.cell?_spot hc
            subst hspot
            have : Inhabited T := ⟨⟨0, 0, []⟩⟩
            obtain ⟨F, hF⟩ := choose_lt hchild
            refine ⟨⟨v, f, (List.range len).map F⟩, some ⟨b, off, none⟩, cap, by simp, InL_of_fn len b off F (fun i hi => ?_)⟩
            obtain ⟨s, c0, c1, c2, hin⟩ := hF i hi
            have e : ∀ j, (⟨b, off, none⟩ : Addr).add j = ⟨b, off + j, none⟩ := fun j => by simp [Addr.add]
            have e' : ∀ k j, (⟨b, k, none⟩ : Addr).add j = ⟨b, k + j, none⟩ := fun k j => by simp [Addr.add]
            rw [e] at c0 c1 c2
            rw [e'] at c1 c2
            exact ⟨s, c0, c1, c2, hin⟩
theorem open_nums {fuel : Nat} {cs : List Value} {x : DataW H × List MemPlace} (h : DataW.trod enc Tryz.prog W 0 spare held fuel 22 cs = some x) :
    ∃ (zs : List Int) (a : Option Addr) (cap : Nat), cs = [.slice a zs.length cap] ∧ Ints W zs a ∧ zs.length ≤ 9223372036854775807 ∧ zs.length ≤ cap := by
  rcases open_ints Go.Proofs.Tryz.underlying22 Go.Proofs.Tryz.underlying3 Tryz.cells3 h with ⟨hcs, _⟩ | ⟨a, l, c, zs, hcs, _, hl, hm, hz, _, hcell, _⟩
  · exact ⟨[], none, 0, hcs, Or.inl rfl, by simp, by simp⟩
  · have hle : l ≤ zs.length := by rw [hz]; split <;> omega
    have hlen : (zs.take l).length = l := List.length_take_of_le hle
    refine ⟨zs.take l, some a, c, by rw [hcs, hlen], ?_, by rw [hlen]; unfold maxLen at hm; omega, by rw [hlen]; exact hl⟩
    by_cases h0 : l = 0
    · left; rw [h0]; rfl
    · right
      obtain ⟨b, off, rfl, hc⟩ := ints_at hcell (by omega)
      refine ⟨b, off, rfl, fun i hi => ?_⟩
      rw [hlen] at hi
      rw [hc i (by omega)]
      simp [List.getD, List.getElem?_take_of_lt hi]
set_option maxRecDepth 100000 in
theorem open_sig {fuel : Nat} {cs : List Value} {x : DataW H × List MemPlace} (h : DataW.trod enc Tryz.prog W 0 spare held fuel 24 cs = some x) :
    ∃ (zs : List Int) (a : Option Addr) (cap : Nat), cs = [.slice a zs.length cap] ∧ Ints W zs a := by
  obtain ⟨y0, n, _, hl, h0⟩ := trod_struct1 Go.Proofs.Tryz.underlying24 h
  rw [Tryz.cells24] at hl
  match cs, hl with
  | [c0], _ =>
    have g0 : DataW.trod enc Tryz.prog W 0 spare held n 22 [c0] = some y0 := h0
    obtain ⟨zs, a, cap, hcs, hi, _⟩ := open_nums g0
    exact ⟨zs, a, cap, hcs, hi⟩
end
end Go.Proofs.YtbkedppkdhfpoabGreat
