/- Inferences and proofs as plain data: what they answer. No word of the program's memory here. Inferences as plain data: what is raised, and how long it is. Proofs: lists of clauses that are being made, and lists of inferences. A clause holds: by the program's way and by the document's way it is the same. No word of the program here. What holds in a model: what is put in, tidied, numbered anew. No word of the program's memory here. What comes of inferences holds where the clauses hold. No word of the program's memory here. What a proof makes holds where the list holds; the empty clause never does. No word of the program's memory here. -/
import Derived.BigQuiet
import Derived.Deep.DeepCutAuto
import Derived.Deep.DrawnRows
import Derived.Deep.RegionHeld3
import Derived.Laws.AppendOwnNone
import Derived.Maps.AppendAt
import Derived.Test.YtbkedppkdhfpoabGreatJoined17
namespace Go.Proofs.YtbkedppkdhfpoabGreat

/-- What the second kind answers. -/
def infFactor (ar : List Int) (c : List Lit) (k : Nat) (s t u v : T) : List Lit × Int :=
  if (uniE ar s u).2 = 0 then (if fallS ar (uniE ar s u).1 s t = 0 then appliedS ar (uniE ar s u).1 (c.eraseIdx k ++ [(false, t, v)]) else ([], fallS ar (uniE ar s u).1 s t)) else ([], (uniE ar s u).2)
/-- The greatest number of a variable in a term. -/
def greatT : T → Int
  | ⟨v, _, args⟩ => greatL args v
  where
  greatL : List T → Int → Int
  | [], m => m
  | a :: ts, m => greatL ts (max m (greatT a))
theorem greatT_eq (t : T) : greatT t = greatT.greatL t.args t.v := by cases t; rw [greatT]
/-- The greatest one in a clause. -/
def greatC : List Lit → Int → Int
  | [], m => m
  | x :: c, m => greatC c (max (max m (greatT x.2.1)) (greatT x.2.2))
/-- Variables with greater numbers. -/
def upV (d v : Int) : T := ⟨v + d, 0, []⟩
def raisedT (d : Int) (t : T) : T := sub (upV d) t
def raisedC (d : Int) (c : List Lit) : List Lit := c.map (fun x => (x.1, raisedT d x.2.1, raisedT d x.2.2))
/-- What apart answers. -/
def apartS (c d : List Lit) : List Lit × Int := if 1000 < greatC c 0 + greatC d 0 then ([], 2) else (if greatC c 0 = 0 then d else raisedC (greatC c 0) d, 0)
/-- What the third kind answers. -/
def infPut (ar : List Int) (c d : List Lit) (k m : Nat) (tu : Bool) (place : List Int) (p l r u v : T) : List Lit × Int :=
  if (uniE ar p l).2 = 0 then (if fallS ar (uniE ar p l).1 l r = 0 then (if fallS ar (uniE ar p l).1 u v = 0 then (if (putSpec ar u place r).2 = 0 then
    appliedS ar (uniE ar p l).1 (c.eraseIdx k ++ withF d m tu (putSpec ar u place r).1) else ([], (putSpec ar u place r).2)) else ([], fallS ar (uniE ar p l).1 u v)) else ([], fallS ar (uniE ar p l).1 l r)) else ([], (uniE ar p l).2)
def zeroL : Lit := (false, zeroT, zeroT)
abbrev clAt (ls : List (List Lit)) (n : Int) : List Lit := ls.getD n.toNat []
abbrev litAt (c : List Lit) (n : Int) : Lit := c.getD n.toNat zeroL
/-- What an inference names is there. -/
def thereS (ar : List Int) (ls : List (List Lit)) (i : Inf) : Bool :=
  hasN i.left ls.length && hasN i.la (clAt ls i.left).length && (if i.kind = 1 then true else if i.kind = 2 then hasN i.ra (clAt ls i.left).length else
    hasN i.right ls.length && hasN i.ra (clAt ls i.right).length && ((atSpec ar (side1 (litAt (clAt ls i.right) i.ra) i.rt) i.place).2 == 0))
/-- What is wrong with an inference. -/
def infErr (ar : List Int) (ls : List (List Lit)) (i : Inf) : Int :=
  if i.kind ≠ 1 ∧ i.kind ≠ 2 ∧ i.kind ≠ 3 then 6 else if thereS ar ls i = true then (if spareS i = true then 0 else 1) else 5
/-- The part at the place. -/
def partS (t : T) (place : List Int) : T := (atT t place).getD zeroT
def fitS (c d : List Lit) (i : Inf) : Bool :=
  if i.kind = 1 then !(litAt c i.la).1 else if i.kind = 2 then ((litAt c i.la).1 && (litAt c i.ra).1 && (i.la != i.ra)) else ((litAt c i.la).1 && ((partS (side1 (litAt d i.ra) i.rt) i.place).v == 0))
def comeS (ar : List Int) (c d : List Lit) (i : Inf) : List Lit × Int :=
  if i.kind = 1 then infSame ar c i.la.toNat (litAt c i.la) else if i.kind = 2 then
    infFactor ar c i.la.toNat (side1 (litAt c i.la) i.lt) (side2 (litAt c i.la) i.lt) (side1 (litAt c i.ra) i.rt) (side2 (litAt c i.ra) i.rt)
  else infPut ar c d i.la.toNat i.ra.toNat i.rt i.place (partS (side1 (litAt d i.ra) i.rt) i.place) (side1 (litAt c i.la) i.lt) (side2 (litAt c i.la) i.lt) (side1 (litAt d i.ra) i.rt) (side2 (litAt d i.ra) i.rt)
/-- What Infer answers. -/
def inferS (ar : List Int) (ls : List (List Lit)) (i : Inf) : List Lit × Int :=
  if clausesErr ar ls = 0 then (if infErr ar ls i = 0 then (if fitS (clAt ls i.left) (clAt ls i.right) i = true then
    (if i.kind = 3 then (if (apartS (clAt ls i.left) (clAt ls i.right)).2 = 0 then comeS ar (clAt ls i.left) (apartS (clAt ls i.left) (clAt ls i.right)).1 i else ([], (apartS (clAt ls i.left) (clAt ls i.right)).2))
     else comeS ar (clAt ls i.left) (clAt ls i.right) i)
    else ([], 4)) else ([], infErr ar ls i)) else ([], clausesErr ar ls)
/-- Step behind step. -/
def stepsS (ar : List Int) : List (List Lit) → List Inf → List (List Lit) × Int
  | made, [] => (made, 0)
  | made, i :: p => if (inferS ar made i).2 = 0 then stepsS ar (made ++ [(inferS ar made i).1]) p else ([], (inferS ar made i).2)
/-- What proof.Clauses answers. -/
def proofS (ar : List Int) (ls : List (List Lit)) (p : List Inf) : List (List Lit) × Int :=
  if clausesErr ar ls = 0 then (if 60 < ls.length + p.length then ([], 2) else stepsS ar ls p) else ([], clausesErr ar ls)
/-- What proof.Check answers. -/
def provesS (ar : List Int) (ls : List (List Lit)) (p : List Inf) : Bool × Int :=
  if (proofS ar ls p).2 = 0 then (if p.length = 0 then false else ((((proofS ar ls p).1.getLast?).getD []).length == 0), 0) else (false, (proofS ar ls p).2)
theorem greatL_le : ∀ (ts : List T) (m : Int), m ≤ greatT.greatL ts m ∧ ∀ a, a ∈ ts → greatT a ≤ greatT.greatL ts m := by
  intro ts
  induction ts with
  | nil => intro m; exact ⟨Int.le_refl m, fun a h => by cases h⟩
  | cons b ts ih =>
    intro m
    obtain ⟨h1, h2⟩ := ih (max m (greatT b))
    show m ≤ greatT.greatL ts (max m (greatT b)) ∧ ∀ a, a ∈ b :: ts → greatT a ≤ greatT.greatL ts (max m (greatT b))
    refine ⟨by omega, fun a ha => ?_⟩
    rcases List.mem_cons.1 ha with rfl | ha
    · omega
    · exact h2 a ha
theorem great_v (t : T) : t.v ≤ greatT t := by rw [greatT_eq]; exact (greatL_le t.args t.v).1
theorem great_arg {t a : T} (h : a ∈ t.args) : greatT a ≤ greatT t := by rw [greatT_eq t]; exact (greatL_le t.args t.v).2 a h
theorem greatC_mem : ∀ (c : List Lit) (m : Int), m ≤ greatC c m ∧ ∀ x, x ∈ c → greatT x.2.1 ≤ greatC c m ∧ greatT x.2.2 ≤ greatC c m := by
  intro c
  induction c with
  | nil => intro m; exact ⟨Int.le_refl m, fun a h => by cases h⟩
  | cons y c ih =>
    intro m
    obtain ⟨h1, h2⟩ := ih (max (max m (greatT y.2.1)) (greatT y.2.2))
    rw [greatC]
    refine ⟨by omega, fun x hx => ?_⟩
    rcases List.mem_cons.1 hx with rfl | hx
    · omega
    · exact h2 x hx
/-- What is raised is right, if no number becomes too great. -/
theorem raised_ok {ar : List Int} {d : Int} (hd : 0 ≤ d) : ∀ (N : Nat) (t : T), t.sz ≤ N → okP ar t → greatT t + d ≤ 1000 → okP ar (raisedT d t) ∧ (raisedT d t).sz = t.sz := by
  intro N
  induction N with
  | zero => intro t h; have := t.sz_pos; omega
  | succ N ih =>
    intro t h ht hg
    have hts := T.sz_eq t
    by_cases hv : t.v = 0
    · have hsz : ∀ (l : List T), (∀ a, a ∈ l → (raisedT d a).sz = a.sz) → T.sz.szL (l.map (raisedT d)) = T.sz.szL l := by
        intro l
        induction l with
        | nil => intro _; rfl
        | cons a l ihl =>
          intro hl
          rw [List.map_cons, T.szL_cons, T.szL_cons, hl a List.mem_cons_self, ihl (fun b hb => hl b (List.mem_cons_of_mem a hb))]
      have hA : ∀ a, a ∈ t.args → okP ar (raisedT d a) ∧ (raisedT d a).sz = a.sz := fun a ha => ih a (by have := arg_sz ha; omega) (okArg ht ha) (by have := great_arg ha; omega)
      rw [raisedT, sub_fn hv]
      refine ⟨okP_iff.2 ⟨?_, ?_⟩, ?_⟩
      · have := (okP_iff.1 ht).1
        rw [hv] at this
        simpa using this
      · refine okL_mem.2 fun b hb => ?_
        obtain ⟨a, ha, rfl⟩ := List.mem_map.1 hb
        exact (hA a ha).1
      · rw [T.sz_eq, hts]
        show 1 + T.sz.szL (t.args.map (raisedT d)) = _
        rw [hsz _ (fun a ha => (hA a ha).2)]
    · have h1 := ok_var ht hv
      have h2 := (okP_iff.1 ht).1
      have h3 := great_v t
      rw [partErr, if_pos hv] at h2
      have h4 : ¬ (t.v < 1 ∨ 1000 < t.v) := fun h5 => by rw [if_pos h5] at h2; cases h2
      rw [raisedT, sub_var hv, upV]
      refine ⟨okP_iff.2 ⟨?_, trivial⟩, ?_⟩
      · show partErr ar (t.v + d) 0 0 = 0
        rw [partErr, if_pos (by omega), if_neg (by omega)]; rfl
      · rw [T.sz_eq, hts, h1.2]
theorem great_range {ar : List Int} : ∀ (N : Nat) (t : T), t.sz ≤ N → okP ar t → 0 ≤ greatT t ∧ greatT t ≤ 1000 := by
  intro N
  induction N with
  | zero => intro t h; have := t.sz_pos; omega
  | succ N ih =>
    intro t h ht
    have h2 := (okP_iff.1 ht).1
    have hv : 0 ≤ t.v ∧ t.v ≤ 1000 := by
      by_cases hv : t.v = 0
      · omega
      · rw [partErr, if_pos hv] at h2
        have h4 : ¬ (t.v < 1 ∨ 1000 < t.v) := fun h5 => by rw [if_pos h5] at h2; cases h2
        omega
    have hL : ∀ (l : List T) (m : Int), (∀ a, a ∈ l → 0 ≤ greatT a ∧ greatT a ≤ 1000) → 0 ≤ m ∧ m ≤ 1000 → 0 ≤ greatT.greatL l m ∧ greatT.greatL l m ≤ 1000 := by
      intro l
      induction l with
      | nil => intro m _ hm; exact hm
      | cons a l ihl =>
        intro m hl hm
        have := hl a List.mem_cons_self
        exact ihl _ (fun b hb => hl b (List.mem_cons_of_mem a hb)) (by omega)
    rw [greatT_eq]
    exact hL _ _ (fun a ha => ih a (by have := arg_sz ha; omega) (okArg ht ha)) hv
theorem greatC_range {ar : List Int} : ∀ (c : List Lit) (m : Int), LitsOk ar c → 0 ≤ m ∧ m ≤ 1000 → 0 ≤ greatC c m ∧ greatC c m ≤ 1000 := by
  intro c
  induction c with
  | nil => intro m _ hm; exact hm
  | cons x c ih =>
    intro m h hm
    have hx := h x List.mem_cons_self
    have h1 := great_range (ar := ar) _ x.2.1 (Nat.le_refl _) hx.1.2
    have h2 := great_range (ar := ar) _ x.2.2 (Nat.le_refl _) hx.2.2
    rw [greatC]
    exact ih _ (fun y hy => h y (List.mem_cons_of_mem x hy)) (by omega)
theorem apart_ok {ar : List Int} {c d : List Lit} (hc : LitsOk ar c) (hd : LitsOk ar d) (h : (apartS c d).2 = 0) : LitsOk ar (apartS c d).1 ∧ (apartS c d).1.length = d.length := by
  rw [apartS] at h ⊢
  split at h
  · cases h
  · rename_i h1
    rw [if_neg h1]
    simp only
    by_cases h2 : greatC c 0 = 0
    · rw [if_pos h2]; exact ⟨hd, rfl⟩
    · rw [if_neg h2]
      refine ⟨fun y hy => ?_, by rw [raisedC, List.length_map]⟩
      rw [raisedC] at hy
      obtain ⟨x, hx, rfl⟩ := List.mem_map.1 hy
      have h0 := (greatC_range (ar := ar) c 0 hc ⟨by omega, by omega⟩).1
      have hm := (greatC_mem d 0).2 x hx
      have hok := hd x hx
      have a1 := raised_ok (ar := ar) h0 _ x.2.1 (Nat.le_refl _) hok.1.2 (by omega)
      have a2 := raised_ok (ar := ar) h0 _ x.2.2 (Nat.le_refl _) hok.2.2 (by omega)
      exact ⟨⟨by show (raisedT _ _).sz ≤ 120; rw [a1.2]; exact hok.1.1, a1.1⟩, ⟨by show (raisedT _ _).sz ≤ 120; rw [a2.2]; exact hok.2.1, a2.1⟩⟩
theorem hasN_at {α : Type} {l : List α} {n : Int} (z : α) (h : hasN n l.length = true) : ∃ k : Nat, n = (k : Int) ∧ n.toNat = k ∧ l[k]? = some (l.getD n.toNat z) := by
  rw [hasN] at h
  have h1 := of_decide_eq_true h
  refine ⟨n.toNat, by omega, rfl, ?_⟩
  rw [List.getD_eq_getElem?_getD, List.getElem?_eq_getElem (by omega)]; rfl
theorem cls_ok {ar : List Int} : ∀ {cs : List (List Lit)}, clErr ar cs = 0 → ∀ c, c ∈ cs → c.length ≤ 8 ∧ LitsOk ar c := by
  intro cs
  induction cs with
  | nil => intro _ c hc; cases hc
  | cons d cs ih =>
    intro h c hc
    rw [clErr] at h
    by_cases h1 : clauseErr ar d = 0
    · rw [if_pos h1] at h
      rcases List.mem_cons.1 hc with rfl | hc
      · rw [clauseErr] at h1
        split at h1
        · cases h1
        · exact ⟨by omega, litsErr_ok h1⟩
      · exact ih h c hc
    · rw [if_neg h1] at h; exact absurd h h1
theorem clauses_all {ar : List Int} {cs : List (List Lit)} (h : clausesErr ar cs = 0) : sigErr ar = 0 ∧ cs.length ≤ 60 ∧ ∀ c, c ∈ cs → c.length ≤ 8 ∧ LitsOk ar c := by
  rw [clausesErr] at h
  split at h
  · rename_i h1
    split at h
    · cases h
    · exact ⟨h1, by omega, cls_ok h⟩
  · rename_i h1; exact absurd h h1
end Go.Proofs.YtbkedppkdhfpoabGreat

namespace Go.Proofs.YtbkedppkdhfpoabGreat
/-- The places of the clause: raised, they are as they were. -/
theorem raised_at {ar : List Int} {d : Int} {q : T} : ∀ (p : List Int) (t : T), atT t p = some q → okP ar t → atT (raisedT d t) p = some (raisedT d q) := by
  intro p
  induction p with
  | nil => intro t h _; obtain rfl := Option.some.inj h; rfl
  | cons i p ih =>
    intro t h hv
    rw [atT] at h
    by_cases hi : 0 ≤ i ∧ i < t.args.length
    · rw [if_pos hi] at h
      cases hc : t.args[i.toNat]? with
      | none => rw [hc] at h; cases h
      | some c =>
        rw [hc] at h
        have h0 : t.v = 0 := by
          by_cases h0 : t.v = 0
          · exact h0
          · have := (ok_var hv h0).2
            rw [this] at hc; simp at hc
        have hcm : c ∈ t.args := List.mem_of_getElem? hc
        rw [raisedT, sub_fn h0, atT]
        simp only [List.length_map]
        rw [if_pos hi, List.getElem?_map, hc]
        exact ih c h (okArg hv hcm)
    · rw [if_neg hi] at h; cases h
theorem side_map {y : Lit} (h : T → T) (tu : Bool) : side1 (y.1, h y.2.1, h y.2.2) tu = h (side1 y tu) ∧ side2 (y.1, h y.2.1, h y.2.2) tu = h (side2 y tu) := by
  cases tu <;> exact ⟨rfl, rfl⟩
theorem applied_len {ar : List Int} {bs : List (Int × T)} {c : List Lit} (h : (appliedS ar bs c).2 = 0) : (appliedS ar bs c).1.length ≤ 8 := by
  rw [appliedS] at h ⊢
  by_cases h1 : appE ar bs c = 0
  · rw [if_pos h1] at h ⊢
    rw [tidyS] at h ⊢
    by_cases h2 : clausesErr ar [needS [] (c.map (appL ar bs))] = 0
    · rw [if_pos h2]
      have h3 := (clauses_ok h2).2.1
      have h4 := need_len (c := needS [] (c.map (appL ar bs))) (acc := [])
      show (giveC (needS [] (needS [] (c.map (appL ar bs)))) []).1.length ≤ 8
      rw [giveC_length]
      simp only [List.length_nil] at h4
      omega
    · rw [if_neg h2] at h; exact absurd h h2
  · rw [if_neg h1] at h; exact absurd h h1
theorem come_len {ar : List Int} {c d : List Lit} {i : Inf} (h : (comeS ar c d i).2 = 0) : (comeS ar c d i).1.length ≤ 8 := by
  rw [comeS] at h ⊢
  split at h
  · rename_i hk
    rw [if_pos hk]
    rw [infSame] at h ⊢
    split at h
    · rename_i h1; rw [if_pos h1]; exact applied_len h
    · rename_i h1; exact absurd h h1
  · rename_i hk
    rw [if_neg hk]
    split at h
    · rename_i hk2
      rw [if_pos hk2]
      rw [infFactor] at h ⊢
      split at h
      · rename_i h1
        rw [if_pos h1]
        split at h
        · rename_i h2; rw [if_pos h2]; exact applied_len h
        · rename_i h2; exact absurd h h2
      · rename_i h1; exact absurd h h1
    · rename_i hk2
      rw [if_neg hk2]
      rw [infPut] at h ⊢
      split at h
      · rename_i h1
        rw [if_pos h1]
        split at h
        · rename_i h2
          rw [if_pos h2]
          split at h
          · rename_i h3
            rw [if_pos h3]
            split at h
            · rename_i h4; rw [if_pos h4]; exact applied_len h
            · rename_i h4; exact absurd h h4
          · rename_i h3; exact absurd h h3
        · rename_i h2; exact absurd h h2
      · rename_i h1; exact absurd h h1
theorem infer_len {ar : List Int} {cs : List (List Lit)} {i : Inf} (h : (inferS ar cs i).2 = 0) : (inferS ar cs i).1.length ≤ 8 ∧ clausesErr ar cs = 0 := by
  rw [inferS] at h ⊢
  split at h
  · rename_i h1
    rw [if_pos h1]
    refine ⟨?_, h1⟩
    split at h
    · rename_i h2
      rw [if_pos h2]
      split at h
      · rename_i h3
        rw [if_pos h3]
        split at h
        · rename_i h4
          rw [if_pos h4]
          split at h
          · rename_i h5; rw [if_pos h5]; exact come_len h
          · rename_i h5; exact absurd h h5
        · rename_i h4; rw [if_neg h4]; exact come_len h
      · cases h
    · rename_i h2; exact absurd h h2
  · rename_i h1; exact absurd h h1
end Go.Proofs.YtbkedppkdhfpoabGreat

namespace Go.Proofs.YtbkedppkdhfpoabGreat
open Go.RowKit

theorem OwnCl_litsQ {p : Nat → Prop} {w : World} : ∀ {c : List Lit} {g off : Nat} {B : List Nat}, OwnCl w c g off B → p g → (∀ j, j ∈ B → p j) → LitsQ p w c (some ⟨g, off, none⟩) := by
  intro c
  induction c with
  | nil => intro g off B _ _ _; trivial
  | cons x c ih =>
    intro g off B h hg hB
    obtain ⟨s1, s2, B1, B2, Br, rfl, h0, h1, h2, h3, h4, h5, h6, o1, o2, hr⟩ := h
    obtain ⟨a1, c1, rfl, i1⟩ := In_iff.1 (Own_inP o1)
    obtain ⟨a2, c2, rfl, i2⟩ := In_iff.1 (Own_inP o2)
    exact ⟨g, off, a1, c1, a2, c2, rfl, hg, h0, h1, h2, h3, h4, h5, h6, InP_imp (fun j hj => hB j (by simp [hj])) i1, InP_imp (fun j hj => hB j (by simp [hj])) i2, ih hr hg (fun j hj => hB j (by simp [hj]))⟩
/-- The cells of clauses, and what lies behind them. -/
def KidsC (p : Nat → Prop) (w : World) : List (List Lit) → List Value → Prop
  | [], xs => xs = []
  | c :: cs, xs => ∃ a cap rest, xs = .slice a c.length cap :: rest ∧ LitsQ p w c a ∧ KidsC p w cs rest
theorem KidsC_append {p : Nat → Prop} {w : World} {c d : List (List Lit)} : ∀ {xs ys : List Value}, KidsC p w c xs → KidsC p w d ys → KidsC p w (c ++ d) (xs ++ ys) := by
  induction c with
  | nil => intro xs ys h1 h2; rw [show xs = [] from h1]; exact h2
  | cons x c ih =>
    intro xs ys h1 h2
    obtain ⟨a, cap, rest, rfl, h0, h⟩ := h1
    exact ⟨a, cap, rest ++ ys, rfl, h0, ih h h2⟩
theorem KidsC_mono {p q : Nat → Prop} {w w' : World} {c : List (List Lit)} (hs : ∀ k, p k → k < w.heap.size → q k ∧ w'.heap[k]? = w.heap[k]?) : ∀ {xs : List Value}, KidsC p w c xs → KidsC q w' c xs := by
  induction c with
  | nil => intro xs h; exact h
  | cons x c ih =>
    intro xs h
    obtain ⟨a, cap, rest, rfl, h0, h⟩ := h
    exact ⟨a, cap, rest, rfl, LitsQ_mono hs h0, ih h⟩
theorem KidsC_in {p : Nat → Prop} {w : World} {g : Nat} {c : List (List Lit)} : ∀ {off : Nat} {xs : List Value}, KidsC p w c xs → (∀ j u, xs[j]? = some u → w.cell? ⟨g, off + j, none⟩ = some u) → ClausesP w c (some ⟨g, off, none⟩) := by
  induction c with
  | nil => intro off xs _ _; trivial
  | cons x c ih =>
    intro off xs h hc
    obtain ⟨a, cap, rest, rfl, h0, h⟩ := h
    refine ⟨g, off, a, cap, rfl, hc 0 _ rfl, LitsQ_lits h0, ih h fun j u hu => ?_⟩
    rw [show off + 1 + j = off + (j + 1) from by omega]
    exact hc (j + 1) u (by simpa using hu)
/-- A list of the call's own that holds these clauses. -/
def OutsC (base : Nat) (w : World) (l : Value) (cs : List (List Lit)) : Prop :=
  ∃ xs, w.ownsRow base 26 1 l cs.length xs ∧ KidsC (fun k => base ≤ k ∧ l.ownBlock ≠ some k) w cs xs
theorem OutsC_nil {base : Nat} {w : World} : OutsC base w (.slice none 0 0) [] := ⟨[], ⟨rfl, Or.inl ⟨rfl, rfl⟩⟩, rfl⟩
theorem OutsC_below {base : Nat} {w w' : World} {l : Value} {cs : List (List Lit)} (h : OutsC base w l cs) (hb : Below w.heap.size w w') : OutsC base w' l cs := by
  obtain ⟨xs, h1, h2⟩ := h
  exact ⟨xs, own_same h1 (fun g hg => hb.block g (own_lt h1 g hg).2), KidsC_mono (fun k hk hlt => ⟨hk, hb.block k hlt⟩) h2⟩
theorem OutsC_shape {base : Nat} {w : World} {l : Value} {cs : List (List Lit)} (h : OutsC base w l cs) : ∃ a cap, l = .slice a cs.length cap := by
  obtain ⟨xs, h1, _⟩ := h
  exact own_shape h1
theorem OutsC_end {base : Nat} {w : World} {a : Option Addr} {n cap : Nat} {cs : List (List Lit)} (h : OutsC base w (.slice a n cap) cs) : ClausesP w cs a := by
  obtain ⟨xs, h1, h2⟩ := h
  by_cases h0 : 0 < cs.length
  · obtain ⟨g, cap, e, hb, hlt, hcell⟩ := own_cellsN h1 h0
    injection e with e1 e2 e3
    rw [e1]
    exact KidsC_in h2 (fun j u hu => by rw [Nat.zero_add]; exact hcell j u hu)
  · have : cs = [] := List.length_eq_zero_iff.1 (by omega)
    subst this
    trivial
theorem Tryz.infoC : (Tryz.prog.info? 26).map (fun i => (i.zero, i.size, i.bytes)) = some (some (.slice none 0 0), 1, 24) := by kernel_rfl
theorem Tryz.underCs : Tryz.prog.underlying 34 = some (.slice 26) := by kernel_rfl
/-- One clause is appended. -/
theorem run_append_c {w : World} {base n b c : Nat} {v u x : Value} {xs : List Value} (ty : TypeId) (hown : w.ownsRow base 26 1 v n xs) (hx : x = .slice (some ⟨b, 0, none⟩) 1 c) (hc : w.cell? ⟨b, 0, none⟩ = some u) (hu : u.oneCell' = true) (hl : n ≤ 100000) (hbase : base ≤ w.heap.size) :
    ∃ v' w', (Builtin.append_ #[34, 34] ty #[v, x]).run Tryz.prog w = .ok v' w' ∧ w'.ownsRow base 26 1 v' (n + 1) (xs ++ [u]) ∧ w.grownBy w' v.ownBlock ∧ (v'.ownBlock = v.ownBlock ∨ v'.ownBlock = some w.heap.size) := by
  subst hx
  obtain ⟨i, hi, hzz⟩ := Option.map_eq_some_iff.1 Tryz.infoC
  simp only [Prod.mk.injEq] at hzz
  obtain ⟨hz0, hz1, hz2⟩ := hzz
  obtain ⟨v', w', hr, h2, h3, _, h5⟩ := run_append_own_at (P := Tryz.prog) w base 34 ty 26 i (.slice none 0 0) 1 24 Tryz.underCs hi hz0 hz1 hz2 rfl (by decide) v n xs hown ⟨b, 0, none⟩ 1 c [u] rfl (fun j u' hu' => by
      have e : (⟨b, 0, none⟩ : Addr).add j = ⟨b, j, none⟩ := by simp [Addr.add]; omega
      rw [e]
      match j, hu' with
      | 0, hu' => simp at hu'; subst hu'; exact hc
      | j + 1, hu' => simp at hu') (fun u' hu' => by simp at hu'; subst hu'; exact hu) (by unfold maxLen; omega) (by omega) hbase
  exact ⟨v', w', hr, h2, h3, h5⟩
/-- The list with one clause more. -/
theorem OutsC_app {base : Nat} {w w' : World} {v v' : Value} {cs : List (List Lit)} {d : List Lit} {a : Option Addr} {cap : Nat} {xs : List Value} (hk : KidsC (fun k => base ≤ k ∧ v.ownBlock ≠ some k) w cs xs) (hq : LitsQ (fun k => base ≤ k ∧ v.ownBlock ≠ some k) w d a)
    (hown : w'.ownsRow base 26 1 v' (cs.length + 1) (xs ++ [.slice a d.length cap])) (hg : w.grownBy w' v.ownBlock) (hat : v'.ownBlock = v.ownBlock ∨ v'.ownBlock = some w.heap.size) : OutsC base w' v' (cs ++ [d]) := by
  refine ⟨_, by rw [List.length_append]; exact hown, KidsC_mono (p := fun k => base ≤ k ∧ v.ownBlock ≠ some k) (w := w) (fun k hp hlt => ⟨⟨hp.1, ?_⟩, hg.block k hlt (fun e => hp.2 e.symm)⟩) (KidsC_append hk ⟨a, cap, [], rfl, hq, rfl⟩)⟩
  rcases hat with hat | hat
  · rw [hat]; exact hp.2
  · rw [hat]; intro e; cases e; omega
/-- Inferences in memory. -/
def InfsP (w : World) : List Inf → Option Addr → Prop
  | [], _ => True
  | i :: p, a => ∃ b off pa pc, a = some ⟨b, off, none⟩ ∧ w.cell? ⟨b, off, none⟩ = some (.int .i64 i.kind) ∧ w.cell? ⟨b, off + 1, none⟩ = some (.int .i64 i.left) ∧ w.cell? ⟨b, off + 2, none⟩ = some (.int .i64 i.right) ∧ w.cell? ⟨b, off + 3, none⟩ = some (.int .i64 i.la) ∧ w.cell? ⟨b, off + 4, none⟩ = some (.int .i64 i.ra) ∧
      w.cell? ⟨b, off + 5, none⟩ = some (.bool i.lt) ∧ w.cell? ⟨b, off + 6, none⟩ = some (.bool i.rt) ∧ w.cell? ⟨b, off + 7, none⟩ = some (.slice pa i.place.length pc) ∧ Ints w i.place pa ∧ InfsP w p (some ⟨b, off + 8, none⟩)
theorem InfsP_below {w w' : World} (hb : Below w.heap.size w w') : ∀ {p : List Inf} {a : Option Addr}, InfsP w p a → InfsP w' p a := by
  intro p
  induction p with
  | nil => intro a _; trivial
  | cons i p ih =>
    intro a h
    obtain ⟨b, off, pa, pc, h0, h1, h2, h3, h4, h5, h6, h7, h8, h9, hr⟩ := h
    exact ⟨b, off, pa, pc, h0, cell_below hb h1, cell_below hb h2, cell_below hb h3, cell_below hb h4, cell_below hb h5, cell_below hb h6, cell_below hb h7, cell_below hb h8, Ints_below hb h9, ih hr⟩
theorem InfsP_some {w : World} {p : List Inf} {a : Option Addr} (h : InfsP w p a) (hp : 0 < p.length) : ∃ b off, a = some ⟨b, off, none⟩ := by
  cases p with
  | nil => simp at hp
  | cons i p => obtain ⟨b, off, pa, pc, h0, _⟩ := h; exact ⟨b, off, h0⟩
theorem InfsP_at {w : World} : ∀ {p : List Inf} {b off k : Nat} {i : Inf}, InfsP w p (some ⟨b, off, none⟩) → p[k]? = some i → ∃ pa pc, w.cell? ⟨b, off + k * 8, none⟩ = some (.int .i64 i.kind) ∧ w.cell? ⟨b, off + k * 8 + 1, none⟩ = some (.int .i64 i.left) ∧ w.cell? ⟨b, off + k * 8 + 2, none⟩ = some (.int .i64 i.right) ∧ w.cell? ⟨b, off + k * 8 + 3, none⟩ = some (.int .i64 i.la) ∧ w.cell? ⟨b, off + k * 8 + 4, none⟩ = some (.int .i64 i.ra) ∧
      w.cell? ⟨b, off + k * 8 + 5, none⟩ = some (.bool i.lt) ∧ w.cell? ⟨b, off + k * 8 + 6, none⟩ = some (.bool i.rt) ∧ w.cell? ⟨b, off + k * 8 + 7, none⟩ = some (.slice pa i.place.length pc) ∧ Ints w i.place pa := by
  intro p
  induction p with
  | nil => intro b off k i _ h; simp at h
  | cons j p ih =>
    intro b off k i h hk
    obtain ⟨b', off', pa, pc, h0, h1, h2, h3, h4, h5, h6, h7, h8, h9, hr⟩ := h
    injection h0 with h0
    injection h0 with e1 e2 e3
    subst e1 e2
    cases k with
    | zero =>
      rw [List.getElem?_cons_zero] at hk
      obtain rfl := Option.some.inj hk
      rw [Nat.zero_mul, Nat.add_zero]
      exact ⟨pa, pc, h1, h2, h3, h4, h5, h6, h7, h8, h9⟩
    | succ k =>
      rw [List.getElem?_cons_succ] at hk
      have := ih hr hk
      rw [show off + 8 + k * 8 = off + (k + 1) * 8 by omega] at this
      exact this
end Go.Proofs.YtbkedppkdhfpoabGreat

namespace Go.Proofs.YtbkedppkdhfpoabGreat

theorem cl_congr {n : Int} {ls : List (List Int)} {f g : Int → Int} {c : List Lit} (h : ∀ v, v ∈ clVars c → f v = g v) : clHolds n ls f c = clHolds n ls g c := by
  have h2 : ∀ x, x ∈ c → litHolds n ls f x = litHolds n ls g x := fun x hx => by
    have e1 := val_congr (n := n) (ls := ls) (f := f) (g := g) _ x.2.1 (Nat.le_refl _) (fun p hp hp0 => h p.v (clVars_mem.2 (clNums_mem.2 ⟨x, hx, Or.inl (varsT_mem.2 ⟨p, hp, hp0, rfl⟩)⟩)))
    have e2 := val_congr (n := n) (ls := ls) (f := f) (g := g) _ x.2.2 (Nat.le_refl _) (fun p hp hp0 => h p.v (clVars_mem.2 (clNums_mem.2 ⟨x, hx, Or.inr (varsT_mem.2 ⟨p, hp, hp0, rfl⟩)⟩)))
    rw [litHolds, litHolds, e1, e2]
  rw [clHolds, clHolds]
  induction c with
  | nil => rfl
  | cons x c ih =>
    rw [List.any_cons, List.any_cons, h2 x (by simp)]
    congr 1
    have h3 : ∀ y, y ∈ c → litHolds n ls f y = litHolds n ls g y := fun y hy => h2 y (List.mem_cons_of_mem x hy)
    clear ih h h2
    induction c with
    | nil => rfl
    | cons y c ih => rw [List.any_cons, List.any_cons, h3 y (by simp), ih (fun z hz => h3 z (List.mem_cons_of_mem y hz))]
/-- The program's way: whichever things they are. -/
theorem allV_iff {n : Int} (hn : 0 < n) {G : (Int → Option Int) → Bool} : ∀ {vs : List Int} {g : Int → Option Int}, allV n G vs g = true ↔ ∀ f : Int → Int, (∀ v, 0 ≤ f v ∧ f v < n) → G (fun k => if k ∈ vs then some (f k) else g k) = true := by
  intro vs
  induction vs with
  | nil =>
    intro g
    rw [allV]
    constructor
    · intro h f _; simpa using h
    · intro h; simpa using h (fun _ => 0) (fun _ => ⟨Int.le_refl _, hn⟩)
  | cons v vs ih =>
    intro g
    rw [allV, List.all_eq_true]
    constructor
    · intro h f hf
      have hv := hf v
      have h1 := (ih.1 (h (f v).toNat (List.mem_range.2 (by omega)))) f hf
      rw [← h1]
      congr 1
      funext k
      by_cases e1 : k ∈ vs
      · simp [e1]
      · by_cases e2 : k = v
        · subst e2
          rw [if_pos (by simp), if_neg e1, updI, if_pos rfl, Int.toNat_of_nonneg hv.1]
        · rw [if_neg (by simp [e1, e2]), if_neg e1, updI, if_neg e2]
    · intro h i hi
      have hi2 := List.mem_range.1 hi
      refine ih.2 (fun f hf => ?_)
      have h1 := h (fun k => if k ∈ vs then f k else (i : Int)) (fun k => by
        show 0 ≤ (if k ∈ vs then f k else (i : Int)) ∧ _ < n
        by_cases e1 : k ∈ vs
        · simp only [if_pos e1]; exact hf k
        · simp only [if_neg e1]; omega)
      rw [← h1]
      congr 1
      funext k
      by_cases e1 : k ∈ vs
      · simp [e1]
      · by_cases e2 : k = v
        · subst e2
          simp [e1, updI]
        · rw [if_neg e1, if_neg (by simp [e1, e2]), updI, if_neg e2]
end Go.Proofs.YtbkedppkdhfpoabGreat

namespace Go.Proofs.YtbkedppkdhfpoabGreat

/-- A clause holds, whatever its variables are. -/
def Sem (n : Int) (ls : List (List Int)) (c : List Lit) : Prop := ∀ f : Int → Int, (∀ v, 0 ≤ f v ∧ f v < n) → clHolds n ls f c = true
theorem sem_iff {n : Int} {ls : List (List Int)} {c : List Lit} (hn : 0 < n) : allV n (fun g => clHolds n ls (fun k => (g k).getD 0) c) (clVars c) (fun _ => none) = true ↔ Sem n ls c := by
  rw [allV_iff hn]
  have he : ∀ f : Int → Int, clHolds n ls (fun k => ((fun k => if k ∈ clVars c then some (f k) else none) k).getD 0) c = clHolds n ls f c := fun f => cl_congr fun v hv => by
    show ((if v ∈ clVars c then some (f v) else none) : Option Int).getD 0 = f v
    rw [if_pos hv]; rfl
  constructor
  · intro h f hf; rw [← he]; exact h f hf
  · intro h f hf
    have := h f hf
    rw [← he] at this; exact this

theorem row_sub {n : Int} {ls : List (List Int)} {f : Int → Int} {θ : Int → T} {N : Nat} (ih : ∀ t : T, t.sz ≤ N → valT n ls f (sub θ t) = valT n ls (fun v => valT n ls f (θ v)) t) : ∀ (ts : List T) (r : Int), T.sz.szL ts ≤ N → valT.rowL n ls f (ts.map (sub θ)) r = valT.rowL n ls (fun v => valT n ls f (θ v)) ts r := by
  intro ts
  induction ts with
  | nil => intro r _; rfl
  | cons t ts iht =>
    intro r h
    rw [T.szL_cons] at h
    rw [List.map_cons]
    show valT.rowL n ls f (ts.map (sub θ)) (r * n + valT n ls f (sub θ t)) = valT.rowL n ls _ ts (r * n + valT n ls _ t)
    rw [ih t (by omega), iht _ (by omega)]
/-- What is put in is what variables are. -/
theorem val_sub {n : Int} {ls : List (List Int)} {f : Int → Int} {θ : Int → T} : ∀ (N : Nat) (t : T), t.sz ≤ N → valT n ls f (sub θ t) = valT n ls (fun v => valT n ls f (θ v)) t := by
  intro N
  induction N with
  | zero => intro t h; have := t.sz_pos; omega
  | succ N ih =>
    intro t h
    have hts := T.sz_eq t
    by_cases hv : t.v = 0
    · rw [sub_fn hv, valT_eq, valT_eq n ls (fun v => valT n ls f (θ v)) t, if_neg (by simp), if_neg (by simpa using hv)]
      simp only
      rw [row_sub ih t.args 0 (by omega)]
    · rw [sub_var hv, valT_eq n ls (fun v => valT n ls f (θ v)) t, if_pos hv]
/-- Each side of a clause made another one. -/
def mapC (h : T → T) (c : List Lit) : List Lit := c.map (fun x => (x.1, h x.2.1, h x.2.2))
theorem cl_sub {n : Int} {ls : List (List Int)} {f : Int → Int} {θ : Int → T} {c : List Lit} : clHolds n ls f (mapC (sub θ) c) = clHolds n ls (fun v => valT n ls f (θ v)) c := by
  rw [clHolds, clHolds, mapC, List.any_map]
  congr 1
  funext x
  show litHolds n ls f (x.1, sub θ x.2.1, sub θ x.2.2) = _
  rw [litHolds, litHolds, val_sub _ _ (Nat.le_refl _), val_sub _ _ (Nat.le_refl _)]
theorem sem_sub {n : Int} {ls : List (List Int)} {θ : Int → T} {c : List Lit} (hn : 0 < n) (h : Sem n ls c) (hθ : ∀ f : Int → Int, (∀ v, 0 ≤ f v ∧ f v < n) → ∀ v, v ∈ clVars c → 0 ≤ valT n ls f (θ v) ∧ valT n ls f (θ v) < n) : Sem n ls (mapC (sub θ) c) := by
  intro f hf
  rw [cl_sub]
  have h1 := h (fun v => if v ∈ clVars c then valT n ls f (θ v) else 0) (fun v => by
    by_cases hv : v ∈ clVars c
    · simp only [if_pos hv]; exact hθ f hf v hv
    · simp only [if_neg hv]; omega)
  rw [← h1]
  exact cl_congr fun v hv => by simp only [if_pos hv]

theorem lit_same {n : Int} {ls : List (List Int)} {f : Int → Int} {k l : Lit} (h : sameLit k l = true) : litHolds n ls f k = litHolds n ls f l := by
  simp only [sameLit, sameS, Bool.and_eq_true, Bool.or_eq_true, beq_iff_eq, sameT_iff] at h
  rw [litHolds, litHolds]
  rcases h with ⟨h0, ⟨h1, h2⟩ | ⟨h1, h2⟩⟩
  · rw [h0, h1, h2]
  · rw [h0, h1, h2]
    congr 1
    rw [Bool.eq_iff_iff]
    simp only [beq_iff_eq]
    exact eq_comm
theorem cl_need {n : Int} {ls : List (List Int)} {f : Int → Int} : ∀ (c acc : List Lit), clHolds n ls f (needS acc c) = (clHolds n ls f acc || clHolds n ls f c) := by
  intro c
  induction c with
  | nil => intro acc; rw [needS]; simp [clHolds]
  | cons l r ih =>
    intro acc
    rw [needS, ih]
    have hc : clHolds n ls f (l :: r) = (litHolds n ls f l || clHolds n ls f r) := by rw [clHolds, clHolds, List.any_cons]
    rw [hc]
    by_cases hk : keepL acc l = true
    · rw [if_pos hk]
      have : clHolds n ls f (acc ++ [l]) = (clHolds n ls f acc || litHolds n ls f l) := by rw [clHolds, clHolds, List.any_append]; simp
      rw [this, Bool.or_assoc]
    · rw [if_neg hk]
      have hk2 : keepL acc l = false := by simpa using hk
      rw [keepL] at hk2
      simp only [Bool.and_eq_false_iff, Bool.not_eq_false', Bool.or_eq_false_iff, List.any_eq_true] at hk2
      rcases hk2 with ⟨k, hka, hkl⟩ | ⟨h1, h2⟩
      · have he := lit_same (n := n) (ls := ls) (f := f) hkl
        cases hl : litHolds n ls f l with
        | false => simp
        | true =>
          have : clHolds n ls f acc = true := by
            rw [clHolds, List.any_eq_true]
            exact ⟨k, hka, he.trans hl⟩
          rw [this]; simp
      · have hl : litHolds n ls f l = false := by
          rw [litHolds, h1, sameT_iff.1 h2]
          simp
        rw [hl]; simp

/-- Variables by their numbers. -/
def ren (L : List Int) (v : Int) : T := ⟨(L.idxOf v : Int) + 1, 0, []⟩
theorem numL_pre (v : Int) (ns : List Int) : ∃ R, numL v ns = ns ++ R := by
  rw [numL]; split
  · exact ⟨[], by simp⟩
  · exact ⟨[v], rfl⟩
theorem give_pre : ∀ (N : Nat), (∀ (t : T) (ns : List Int), t.sz ≤ N → ∃ R, (giveT t ns).2 = ns ++ R) ∧ (∀ (ts : List T) (ns : List Int), T.sz.szL ts ≤ N → ∃ R, (giveT.giveL ts ns).2 = ns ++ R) := by
  intro N
  induction N with
  | zero =>
    refine ⟨fun t ns h => by have := t.sz_pos; omega, fun ts ns h => ?_⟩
    cases ts with
    | nil => exact ⟨[], by simp [giveT.giveL]⟩
    | cons t ts => have := t.sz_pos; rw [T.szL_cons] at h; omega
  | succ N ih =>
    have h1 : ∀ (t : T) (ns : List Int), t.sz ≤ N + 1 → ∃ R, (giveT t ns).2 = ns ++ R := fun t ns h => by
      have he := T.sz_eq t
      obtain ⟨R1, e1⟩ := numL_pre t.v ns
      obtain ⟨R2, e2⟩ := ih.2 t.args (numL t.v ns) (by omega)
      rw [giveT_eq]
      exact ⟨R1 ++ R2, by simp only; rw [e2, e1, List.append_assoc]⟩
    refine ⟨h1, fun ts => ?_⟩
    induction ts with
    | nil => intro ns _; exact ⟨[], by simp [giveT.giveL]⟩
    | cons t ts iht =>
      intro ns h
      rw [T.szL_cons] at h
      obtain ⟨R1, e1⟩ := h1 t ns (by omega)
      obtain ⟨R2, e2⟩ := iht (giveT t ns).2 (by omega)
      exact ⟨R1 ++ R2, by show (giveT.giveL ts (giveT t ns).2).2 = _; rw [e2, e1, List.append_assoc]⟩
theorem idx_pre {v : Int} {A R : List Int} (h : v ∈ A) : (A ++ R).idxOf v = A.idxOf v := by rw [List.idxOf_append, if_pos h]
theorem give_ren {ar : List Int} : ∀ (N : Nat), (∀ (t : T) (ns R : List Int), t.sz ≤ N → okP ar t → (giveT t ns).1 = sub (ren ((giveT t ns).2 ++ R)) t) ∧ (∀ (ts : List T) (ns R : List Int), T.sz.szL ts ≤ N → (∀ t, t ∈ ts → okP ar t) → (giveT.giveL ts ns).1 = ts.map (sub (ren ((giveT.giveL ts ns).2 ++ R)))) := by
  intro N
  induction N with
  | zero =>
    refine ⟨fun t ns R h => by have := t.sz_pos; omega, fun ts ns R h _ => ?_⟩
    cases ts with
    | nil => rfl
    | cons t ts => have := t.sz_pos; rw [T.szL_cons] at h; omega
  | succ N ih =>
    have h1 : ∀ (t : T) (ns R : List Int), t.sz ≤ N + 1 → okP ar t → (giveT t ns).1 = sub (ren ((giveT t ns).2 ++ R)) t := fun t ns R h ht => by
      have he := T.sz_eq t
      rw [giveT_eq]
      simp only
      by_cases hv : t.v = 0
      · rw [sub_fn hv, numV, if_pos hv, ih.2 t.args (numL t.v ns) R (by omega) (fun a ha => okArg ht ha)]
      · rw [sub_var hv, (ok_var ht hv).2]
        show (⟨numV t.v ns, t.f, []⟩ : T) = ren (numL t.v ns ++ R) t.v
        have hm : t.v ∈ numL t.v ns := by
          rw [numL]; split
          · rename_i h9; exact h9.resolve_left hv
          · simp
        rw [ren, idx_pre hm, numV, if_neg hv, (ok_var ht hv).1]
    refine ⟨h1, fun ts => ?_⟩
    induction ts with
    | nil => intro ns R _ _; rfl
    | cons t ts iht =>
      intro ns R h hok
      rw [T.szL_cons] at h
      obtain ⟨R2, e2⟩ := (give_pre (T.sz.szL ts)).2 ts (giveT t ns).2 (Nat.le_refl _)
      show (giveT t ns).1 :: (giveT.giveL ts (giveT t ns).2).1 = (t :: ts).map (sub (ren ((giveT.giveL ts (giveT t ns).2).2 ++ R)))
      rw [List.map_cons, iht (giveT t ns).2 R (by omega) (fun a ha => hok a (List.mem_cons_of_mem _ ha)), h1 t ns (R2 ++ R) (by omega) (hok t List.mem_cons_self), e2, List.append_assoc]
theorem giveC_pre : ∀ (c : List Lit) (ns : List Int), ∃ R, (giveC c ns).2 = ns ++ R := by
  intro c
  induction c with
  | nil => intro ns; exact ⟨[], by simp [giveC]⟩
  | cons x c ih =>
    intro ns
    obtain ⟨R1, e1⟩ := (give_pre x.2.1.sz).1 x.2.1 ns (Nat.le_refl _)
    obtain ⟨R2, e2⟩ := (give_pre x.2.2.sz).1 x.2.2 (giveT x.2.1 ns).2 (Nat.le_refl _)
    obtain ⟨R3, e3⟩ := ih (giveT x.2.2 (giveT x.2.1 ns).2).2
    rw [giveC]
    exact ⟨R1 ++ (R2 ++ R3), by simp only; rw [e3, e2, e1]; simp⟩
theorem giveC_ren {ar : List Int} : ∀ (c : List Lit) (ns R : List Int), LitsOk ar c → (giveC c ns).1 = mapC (sub (ren ((giveC c ns).2 ++ R))) c := by
  intro c
  induction c with
  | nil => intro ns R _; rfl
  | cons x c ih =>
    intro ns R h
    have hx := h x List.mem_cons_self
    obtain ⟨R2, e2⟩ := (give_pre x.2.2.sz).1 x.2.2 (giveT x.2.1 ns).2 (Nat.le_refl _)
    obtain ⟨R3, e3⟩ := giveC_pre c (giveT x.2.2 (giveT x.2.1 ns).2).2
    have a1 := (give_ren (ar := ar) x.2.1.sz).1 x.2.1 ns (R2 ++ R3 ++ R) (Nat.le_refl _) hx.1.2
    have a2 := (give_ren (ar := ar) x.2.2.sz).1 x.2.2 (giveT x.2.1 ns).2 (R3 ++ R) (Nat.le_refl _) hx.2.2
    have a3 := ih (giveT x.2.2 (giveT x.2.1 ns).2).2 R (fun y hy => h y (List.mem_cons_of_mem _ hy))
    show (x.1, (giveT x.2.1 ns).1, (giveT x.2.2 (giveT x.2.1 ns).2).1) :: (giveC c (giveT x.2.2 (giveT x.2.1 ns).2).2).1 = (x.1, sub (ren ((giveC c (giveT x.2.2 (giveT x.2.1 ns).2).2).2 ++ R)) x.2.1, sub (ren ((giveC c (giveT x.2.2 (giveT x.2.1 ns).2).2).2 ++ R)) x.2.2) :: mapC (sub (ren ((giveC c (giveT x.2.2 (giveT x.2.1 ns).2).2).2 ++ R))) c
    rw [a3, a1, a2, e3, e2]
    simp only [List.append_assoc]
theorem sem_tidy {ar : List Int} {n : Int} {ls : List (List Int)} {c : List Lit} (hn : 0 < n) (hlo : LitsOk ar c) (h : Sem n ls c) : Sem n ls (giveC (needS [] c) []).1 := by
  have h1 : Sem n ls (needS [] c) := fun f hf => by rw [cl_need, h f hf]; simp
  have e := giveC_ren (ar := ar) (needS [] c) [] [] (need_ok hlo)
  rw [e]
  refine sem_sub hn h1 fun f hf v _ => ?_
  rw [ren, valT_eq, if_pos (by simp only; omega)]
  exact hf _
end Go.Proofs.YtbkedppkdhfpoabGreat

namespace Go.Proofs.YtbkedppkdhfpoabGreat

abbrev Rg (n : Int) (f : Int → Int) : Prop := ∀ v, 0 ≤ f v ∧ f v < n
/-- What variables are, once bindings are applied. -/
theorem pull {ar : List Int} {n : Int} {ls : List (List Int)} {bs : List (Int × T)} (hm : MOk ar n ls) (hb : BsOk ar bs) {f : Int → Int} (hf : Rg n f) : ∃ g, Rg n g ∧ ∀ t : T, valT n ls f (sub (byB bs) t) = valT n ls g t := by
  have h1 := hm.lo
  refine ⟨fun v => if v = 0 then 0 else valT n ls f (byB bs v), fun v => ?_, fun t => ?_⟩
  · by_cases hv : v = 0
    · simp only [if_pos hv]; omega
    · simp only [if_neg hv]
      rw [byB]
      cases hp : putIn bs v with
      | none =>
        show 0 ≤ valT n ls f ⟨v, 0, []⟩ ∧ valT n ls f ⟨v, 0, []⟩ < n
        rw [valT_eq, if_pos hv]; exact hf v
      | some u =>
        exact (val_range hm _ u (Nat.le_refl _) (hb.each v u (putIn_mem hp).1).2.1 (fun x _ _ => hf x.v)).1
  · rw [val_sub _ t (Nat.le_refl _)]
    exact val_congr _ t (Nat.le_refl _) fun x _ hx => by simp only [if_neg hx]
theorem cl_pull {n : Int} {ls : List (List Int)} {θ : Int → T} {f g : Int → Int} (h : ∀ t : T, valT n ls f (sub θ t) = valT n ls g t) (c : List Lit) : clHolds n ls f (mapC (sub θ) c) = clHolds n ls g c := by
  rw [clHolds, clHolds, mapC, List.any_map]
  congr 1
  funext x
  show litHolds n ls f (x.1, sub θ x.2.1, sub θ x.2.2) = _
  rw [litHolds, litHolds, h, h]
theorem app_map {ar : List Int} {bs : List (Int × T)} : ∀ {c : List Lit}, appE ar bs c = 0 → c.map (appL ar bs) = mapC (sub (byB bs)) c := by
  intro c
  induction c with
  | nil => intro _; rfl
  | cons x c ih =>
    intro h
    rw [appE] at h
    by_cases h1 : litE ar bs x = 0
    · rw [if_pos h1] at h
      rw [litE] at h1
      by_cases h2 : (applySpec ar bs x.2.1).2 = 0
      · rw [if_pos h2] at h1
        have a1 := apply_ok h2
        have a2 := apply_ok h1
        show appL ar bs x :: c.map (appL ar bs) = (x.1, sub (byB bs) x.2.1, sub (byB bs) x.2.2) :: mapC (sub (byB bs)) c
        rw [ih h, appL, a1.2.2.1, a2.2.2.1, apply_sub _ _ (Nat.le_refl _) a1.2.1.2, apply_sub _ _ (Nat.le_refl _) a2.2.1.2]
      · rw [if_neg h2] at h1; exact absurd h1 h2
    · rw [if_neg h1] at h; exact absurd h h1
/-- What is applied and tidied holds, if it holds where what is made the same is the same. -/
theorem applied_sem {ar : List Int} {n : Int} {ls : List (List Int)} {bs : List (Int × T)} {c : List Lit} (hm : MOk ar n ls) (hb : BsOk ar bs) (h : (appliedS ar bs c).2 = 0)
    (hs : ∀ g, Rg n g → (∀ s t : T, sub (byB bs) s = sub (byB bs) t → valT n ls g s = valT n ls g t) → clHolds n ls g c = true) : Sem n ls (appliedS ar bs c).1 := by
  have hn : 0 < n := by have := hm.lo; omega
  rw [appliedS] at h ⊢
  by_cases h1 : appE ar bs c = 0
  · rw [if_pos h1] at h ⊢
    rw [tidyS] at h ⊢
    by_cases h2 : clausesErr ar [needS [] (c.map (appL ar bs))] = 0
    · rw [if_pos h2]
      refine sem_tidy hn (clauses_ok h2).2.2 fun f hf => ?_
      obtain ⟨g, hg, he⟩ := pull hm hb hf
      rw [cl_need, app_map h1, cl_pull he, hs g hg (fun s t hst => by rw [← he, ← he, hst])]
      simp
    · rw [if_neg h2] at h; exact absurd h h2
  · rw [if_neg h1] at h; exact absurd h h1
theorem uniE_same {ar : List Int} {s t : T} (h : (uniE ar s t).2 = 0) : BsOk ar (uniE ar s t).1 ∧ sub (byB (uniE ar s t).1) s = sub (byB (uniE ar s t).1) t := by
  rw [uniE] at h
  simp only at h
  by_cases h1 : (unifyS ar s t).2.2 = 0
  · rw [if_pos h1] at h
    by_cases h2 : (unifyS ar s t).2.1 = true
    · obtain ⟨σ, bs, hM, hU, _, hB, hσ, _⟩ := uni_some h1 h2
      have e : (uniE ar s t).1 = bs := by rw [uniE, hU]
      rw [e]
      refine ⟨hB, ?_⟩
      rw [sub_congr _ s (Nat.le_refl _) (fun v h0 _ => hσ v h0), sub_congr _ t (Nat.le_refl _) (fun v h0 _ => hσ v h0), hM.same]
    · rw [if_neg h2] at h; exact absurd h (by decide)
  · rw [if_neg h1] at h; exact absurd h h1
theorem any_at {n : Int} {ls : List (List Int)} {f : Int → Int} {c : List Lit} : clHolds n ls f c = true ↔ ∃ (j : Nat) (z : Lit), c[j]? = some z ∧ litHolds n ls f z = true := by
  rw [clHolds, List.any_eq_true]
  constructor
  · rintro ⟨z, hz, h⟩
    obtain ⟨j, hj⟩ := List.getElem?_of_mem hz
    exact ⟨j, z, hj, h⟩
  · rintro ⟨j, z, hj, h⟩
    exact ⟨z, List.mem_of_getElem? hj, h⟩
theorem holds_erase {n : Int} {ls : List (List Int)} {f : Int → Int} {c : List Lit} {k j : Nat} {z : Lit} (hj : c[j]? = some z) (hne : j ≠ k) (h : litHolds n ls f z = true) : clHolds n ls f (c.eraseIdx k) = true := by
  rw [clHolds, List.any_eq_true]
  exact ⟨z, List.mem_eraseIdx_iff_getElem?.2 ⟨j, hne, hj⟩, h⟩
theorem holds_l {n : Int} {ls : List (List Int)} {f : Int → Int} {c d : List Lit} : clHolds n ls f (c ++ d) = (clHolds n ls f c || clHolds n ls f d) := by rw [clHolds, clHolds, clHolds, List.any_append]
theorem sides_yes {n : Int} {ls : List (List Int)} {f : Int → Int} {x : Lit} (tu : Bool) (hx : x.1 = true) : litHolds n ls f x = true ↔ valT n ls f (side1 x tu) = valT n ls f (side2 x tu) := by
  rw [litHolds, hx, side1, side2]
  cases tu
  · simp
  · simp only [if_true]
    constructor
    · intro h
      have h9 : valT n ls f x.2.1 = valT n ls f x.2.2 := by simpa using h
      exact h9.symm
    · intro h
      have h9 : valT n ls f x.2.1 = valT n ls f x.2.2 := h.symm
      simpa using h9
theorem same_sem {ar : List Int} {n : Int} {ls : List (List Int)} {c : List Lit} {k : Nat} {x : Lit} (hm : MOk ar n ls) (hx : c[k]? = some x) (hno : x.1 = false) (hc : Sem n ls c) (h : (infSame ar c k x).2 = 0) : Sem n ls (infSame ar c k x).1 := by
  rw [infSame] at h ⊢
  by_cases h1 : (uniE ar x.2.1 x.2.2).2 = 0
  · rw [if_pos h1] at h ⊢
    obtain ⟨hB, hS⟩ := uniE_same h1
    refine applied_sem hm hB h fun g hg he => ?_
    obtain ⟨j, z, hj, hz⟩ := any_at.1 (hc g hg)
    by_cases hjk : j = k
    · rw [hjk, hx] at hj
      obtain rfl := Option.some.inj hj
      rw [litHolds, hno, he _ _ hS] at hz
      simp at hz
    · exact holds_erase hj hjk hz
  · rw [if_neg h1] at h; exact absurd h h1
theorem factor_sem {ar : List Int} {n : Int} {ls : List (List Int)} {c : List Lit} {k m : Nat} {x y : Lit} (lt rt : Bool) (hm : MOk ar n ls) (hx : c[k]? = some x) (hy : c[m]? = some y) (hkm : k ≠ m) (hx1 : x.1 = true) (hy1 : y.1 = true) (hc : Sem n ls c)
    (h : (infFactor ar c k (side1 x lt) (side2 x lt) (side1 y rt) (side2 y rt)).2 = 0) : Sem n ls (infFactor ar c k (side1 x lt) (side2 x lt) (side1 y rt) (side2 y rt)).1 := by
  rw [infFactor] at h ⊢
  by_cases h1 : (uniE ar (side1 x lt) (side1 y rt)).2 = 0
  · rw [if_pos h1] at h ⊢
    obtain ⟨hB, hS⟩ := uniE_same h1
    by_cases h2 : fallS ar (uniE ar (side1 x lt) (side1 y rt)).1 (side1 x lt) (side2 x lt) = 0
    · rw [if_pos h2] at h ⊢
      refine applied_sem hm hB h fun g hg he => ?_
      obtain ⟨j, z, hj, hz⟩ := any_at.1 (hc g hg)
      rw [holds_l]
      by_cases hjk : j = k
      · rw [hjk, hx] at hj
        obtain rfl := Option.some.inj hj
        have e1 := (sides_yes lt hx1).1 hz
        have e2 := he _ _ hS
        by_cases e3 : valT n ls g (side2 x lt) = valT n ls g (side2 y rt)
        · rw [holds_erase hy (fun e => hkm e.symm) ((sides_yes rt hy1).2 (by rw [← e2, e1, e3]))]; rfl
        · have : clHolds n ls g [(false, side2 x lt, side2 y rt)] = true := by
            simp [clHolds, litHolds, e3]
          rw [this]; simp
      · rw [holds_erase hj hjk hz]; rfl
    · rw [if_neg h2] at h; exact absurd h h2
  · rw [if_neg h1] at h; exact absurd h h1
theorem row_set {n : Int} {ls : List (List Int)} {f : Int → Int} {a b : T} (h : valT n ls f b = valT n ls f a) : ∀ (ts : List T) (i : Nat) (r : Int), ts[i]? = some a → valT.rowL n ls f (ts.set i b) r = valT.rowL n ls f ts r := by
  intro ts
  induction ts with
  | nil => intro i r hi; simp at hi
  | cons t ts ih =>
    intro i r hi
    cases i with
    | zero =>
      rw [List.getElem?_cons_zero] at hi
      obtain rfl := Option.some.inj hi
      show valT.rowL n ls f ts (r * n + valT n ls f b) = valT.rowL n ls f ts (r * n + valT n ls f t)
      rw [h]
    | succ i =>
      rw [List.getElem?_cons_succ] at hi
      show valT.rowL n ls f (ts.set i b) (r * n + valT n ls f t) = valT.rowL n ls f ts (r * n + valT n ls f t)
      exact ih i _ hi
/-- What is put where the same stands changes nothing. -/
theorem val_put {n : Int} {ls : List (List Int)} {f : Int → Int} {r q : T} (h : valT n ls f r = valT n ls f q) : ∀ (p : List Int) (t : T), atT t p = some q → valT n ls f (putT r t p) = valT n ls f t := by
  intro p
  induction p with
  | nil => intro t ht; obtain rfl := Option.some.inj ht; exact h
  | cons i p ih =>
    intro t ht
    rw [atT] at ht
    by_cases hi : 0 ≤ i ∧ i < t.args.length
    · rw [if_pos hi] at ht
      cases hc : t.args[i.toNat]? with
      | none => rw [hc] at ht; cases ht
      | some c =>
        rw [hc] at ht
        rw [putT_at hc, valT_eq, valT_eq n ls f t]
        simp only
        by_cases hv : t.v ≠ 0
        · rw [if_pos hv, if_pos hv]
        · rw [if_neg hv, if_neg hv, row_set (ih c ht) _ _ _ hc]
    · rw [if_neg hi] at ht; cases ht
theorem put_sem {ar : List Int} {n : Int} {ls : List (List Int)} {c d : List Lit} {k m : Nat} {x y : Lit} {place : List Int} {p : T} (lt rt : Bool) (hm : MOk ar n ls) (hx : c[k]? = some x) (hy : d[m]? = some y) (hx1 : x.1 = true) (hp : atT (side1 y rt) place = some p) (hc : Sem n ls c) (hd : Sem n ls d)
    (h : (infPut ar c d k m rt place p (side1 x lt) (side2 x lt) (side1 y rt) (side2 y rt)).2 = 0) : Sem n ls (infPut ar c d k m rt place p (side1 x lt) (side2 x lt) (side1 y rt) (side2 y rt)).1 := by
  rw [infPut] at h ⊢
  by_cases h1 : (uniE ar p (side1 x lt)).2 = 0
  · rw [if_pos h1] at h ⊢
    obtain ⟨hB, hS⟩ := uniE_same h1
    by_cases h2 : fallS ar (uniE ar p (side1 x lt)).1 (side1 x lt) (side2 x lt) = 0
    · rw [if_pos h2] at h ⊢
      by_cases h3 : fallS ar (uniE ar p (side1 x lt)).1 (side1 y rt) (side2 y rt) = 0
      · rw [if_pos h3] at h ⊢
        by_cases h4 : (putSpec ar (side1 y rt) place (side2 x lt)).2 = 0
        · rw [if_pos h4] at h ⊢
          have e4 : (putSpec ar (side1 y rt) place (side2 x lt)).1 = putT (side2 x lt) (side1 y rt) place := by
            rw [putSpec] at h4 ⊢
            by_cases h5 : allErr ar [side1 y rt, side2 x lt] = 0
            · rw [if_pos h5, hp] at h4 ⊢
              simp only at h4 ⊢
              split at h4
              · cases h4
              · rename_i h6; rw [if_neg h6]
            · rw [if_neg h5] at h4; exact absurd h4 h5
          rw [e4] at h ⊢
          refine applied_sem hm hB h fun g hg he => ?_
          obtain ⟨j, z, hj, hz⟩ := any_at.1 (hc g hg)
          rw [holds_l]
          by_cases hjk : j = k
          · rw [hjk, hx] at hj
            obtain rfl := Option.some.inj hj
            have e1 := (sides_yes lt hx1).1 hz
            have e2 := he _ _ hS
            have e5 := val_put (show valT n ls g (side2 x lt) = valT n ls g p by rw [e2, e1]) place _ hp
            have : clHolds n ls g (withF d m rt (putT (side2 x lt) (side1 y rt) place)) = true := by
              obtain ⟨i, z, hi, hz⟩ := any_at.1 (hd g hg)
              rw [withF_at rt _ hy]
              refine any_at.2 ?_
              by_cases him : i = m
              · rw [him, hy] at hi
                obtain rfl := Option.some.inj hi
                refine ⟨m, _, List.getElem?_set_self (List.getElem?_eq_some_iff.1 hy).1, ?_⟩
                rw [litHolds] at hz
                cases rt
                · rw [if_neg (by simp), litHolds]
                  simp only
                  rw [e5]; exact hz
                · rw [if_pos rfl, litHolds]
                  simp only
                  rw [e5]; exact hz
              · exact ⟨i, z, by rw [List.getElem?_set_ne (fun e => him e.symm)]; exact hi, hz⟩
            rw [this]; simp
          · rw [holds_erase hj hjk hz]; rfl
        · rw [if_neg h4] at h; exact absurd h h4
      · rw [if_neg h3] at h; exact absurd h h3
    · rw [if_neg h2] at h; exact absurd h h2
  · rw [if_neg h1] at h; exact absurd h h1

theorem greatC_le : ∀ (c : List Lit) (m : Int), m ≤ greatC c m := by
  intro c
  induction c with
  | nil => intro m; exact Int.le_refl m
  | cons x c ih =>
    intro m
    have := ih (max (max m (greatT x.2.1)) (greatT x.2.2))
    rw [greatC]; omega
theorem apart_sem {ar : List Int} {n : Int} {ls : List (List Int)} {c d : List Lit} (hm : MOk ar n ls) (hlo : LitsOk ar d) (hd : Sem n ls d) (h : (apartS c d).2 = 0) : Sem n ls (apartS c d).1 := by
  rw [apartS] at h ⊢
  split at h
  · cases h
  · rename_i h1
    rw [if_neg h1]
    simp only
    by_cases h2 : greatC c 0 = 0
    · rw [if_pos h2]; exact hd
    · rw [if_neg h2]
      have h0 := greatC_le c 0
      refine sem_sub (θ := upV (greatC c 0)) (by have := hm.lo; omega) hd fun f hf v hv => ?_
      have := clVars_range hlo v hv
      rw [upV, valT_eq, if_pos (by simp only; omega)]
      exact hf _
/-- H4: what comes of an inference holds where the clauses hold. -/
theorem infer_sem {ar : List Int} {n : Int} {ls : List (List Int)} {cs : List (List Lit)} {i : Inf} (hm : MOk ar n ls) (hs : ∀ c, c ∈ cs → Sem n ls c) (h : (inferS ar cs i).2 = 0) : Sem n ls (inferS ar cs i).1 := by
  rw [inferS] at h ⊢
  by_cases h1 : clausesErr ar cs = 0
  · rw [if_pos h1] at h ⊢
    obtain ⟨hsig, hlen, hall⟩ := clauses_all h1
    by_cases h2 : infErr ar cs i = 0
    · rw [if_pos h2] at h ⊢
      by_cases h3 : fitS (clAt cs i.left) (clAt cs i.right) i = true
      · rw [if_pos h3] at h ⊢
        have hk : (i.kind = 1 ∨ i.kind = 2 ∨ i.kind = 3) ∧ thereS ar cs i = true := by
          rw [infErr] at h2
          split at h2
          · cases h2
          · rename_i hk
            split at h2
            · rename_i ht; exact ⟨by omega, ht⟩
            · cases h2
        obtain ⟨hkk, ht⟩ := hk
        rw [thereS] at ht
        simp only [Bool.and_eq_true] at ht
        obtain ⟨⟨ht1, ht2⟩, ht3⟩ := ht
        obtain ⟨nl, hnl, enl, hcl⟩ := hasN_at [] ht1
        obtain ⟨k, hkl, ekl, hxl⟩ := hasN_at zeroL ht2
        have hc := hs _ (List.mem_of_getElem? hcl)
        rcases hkk with hk | hk | hk
        · rw [if_neg (by omega)] at h ⊢
          rw [comeS, if_pos hk] at h ⊢
          rw [fitS, if_pos hk] at h3
          rw [ekl] at h ⊢
          exact same_sem hm hxl (by simpa using h3) hc h
        · rw [if_neg (by omega)] at h ⊢
          rw [comeS, if_neg (by omega), if_pos hk] at h ⊢
          rw [fitS, if_neg (by omega), if_pos hk] at h3
          rw [if_neg (by omega), if_pos hk] at ht3
          obtain ⟨m, hml, eml, hyl⟩ := hasN_at zeroL ht3
          simp only [Bool.and_eq_true, bne_iff_ne] at h3
          rw [ekl] at h ⊢
          exact factor_sem i.lt i.rt hm hxl hyl (by intro e; exact h3.2 (by omega)) h3.1.1 h3.1.2 hc h
        · rw [if_pos hk] at h ⊢
          rw [if_neg (by omega), if_neg (by omega)] at ht3
          simp only [Bool.and_eq_true, beq_iff_eq] at ht3
          obtain ⟨⟨ht4, ht5⟩, ht6⟩ := ht3
          obtain ⟨nr, hnr, enr, hdr⟩ := hasN_at [] ht4
          obtain ⟨m, hml, eml, hyl⟩ := hasN_at zeroL ht5
          by_cases h4 : (apartS (clAt cs i.left) (clAt cs i.right)).2 = 0
          · rw [if_pos h4] at h ⊢
            have hdm := List.mem_of_getElem? hdr
            have hd := hs _ hdm
            have hA := apart_sem hm (hall _ hdm).2 hd h4
            rw [fitS, if_neg (by omega), if_neg (by omega)] at h3
            simp only [Bool.and_eq_true] at h3
            rw [comeS, if_neg (by omega), if_neg (by omega)] at h ⊢
            have hat : ∃ q, atT (side1 (litAt (clAt cs i.right) i.ra) i.rt) i.place = some q := by
              rw [atSpec] at ht6
              split at ht6
              · cases hq : atT (side1 (litAt (clAt cs i.right) i.ra) i.rt) i.place with
                | some q => exact ⟨q, rfl⟩
                | none => rw [hq] at ht6; cases ht6
              · rename_i h9; exact absurd ht6 h9
            obtain ⟨q, hq⟩ := hat
            have hym : litAt (clAt cs i.right) i.ra ∈ clAt cs i.right := List.mem_of_getElem? hyl
            have hlo := (hall _ hdm).2 _ hym
            have hside : okP ar (side1 (litAt (clAt cs i.right) i.ra) i.rt) := by
              rw [side1]; split
              · exact hlo.2.2
              · exact hlo.1.2
            have hD : ∃ y q', (apartS (clAt cs i.left) (clAt cs i.right)).1[m]? = some y ∧ atT (side1 y i.rt) i.place = some q' := by
              rw [apartS] at h4 ⊢
              split at h4
              · cases h4
              · rename_i h8
                rw [if_neg h8]
                simp only
                by_cases h7 : greatC (clAt cs i.left) 0 = 0
                · rw [if_pos h7]; exact ⟨_, q, hyl, hq⟩
                · rw [if_neg h7]
                  refine ⟨((litAt (clAt cs i.right) i.ra).1, raisedT (greatC (clAt cs i.left) 0) (litAt (clAt cs i.right) i.ra).2.1, raisedT (greatC (clAt cs i.left) 0) (litAt (clAt cs i.right) i.ra).2.2), raisedT (greatC (clAt cs i.left) 0) q, by rw [raisedC, List.getElem?_map, hyl]; rfl, ?_⟩
                  rw [(side_map (raisedT _) i.rt).1]
                  exact raised_at _ _ hq hside
            obtain ⟨y, q', hy', hq'⟩ := hD
            have e9 : litAt (apartS (clAt cs i.left) (clAt cs i.right)).1 i.ra = y := by
              show List.getD _ _ _ = _
              rw [List.getD_eq_getElem?_getD, eml, hy']; rfl
            have e8 : partS (side1 y i.rt) i.place = q' := by rw [partS, hq']; rfl
            rw [e9, e8, ekl, eml] at h ⊢
            exact put_sem i.lt i.rt hm hxl hy' h3.1 hq' hc hA h
          · rw [if_neg h4] at h; exact absurd h h4
      · rw [if_neg h3] at h; cases h
    · rw [if_neg h2] at h; exact absurd h h2
  · rw [if_neg h1] at h; exact absurd h h1
/-- I2: all that a proof makes holds where the list holds. -/
theorem steps_sem {ar : List Int} {n : Int} {ls : List (List Int)} (hm : MOk ar n ls) : ∀ (p : List Inf) (made : List (List Lit)), (∀ c, c ∈ made → Sem n ls c) → (stepsS ar made p).2 = 0 → ∀ c, c ∈ (stepsS ar made p).1 → Sem n ls c := by
  intro p
  induction p with
  | nil => intro made hs _ c hc; exact hs c hc
  | cons i p ih =>
    intro made hs h c hc
    rw [stepsS] at h hc
    by_cases h1 : (inferS ar made i).2 = 0
    · rw [if_pos h1] at h hc
      refine ih _ (fun d hd => ?_) h c hc
      rcases List.mem_append.1 hd with hd | hd
      · exact hs d hd
      · rw [List.mem_singleton.1 hd]; exact infer_sem hm hs h1
    · rw [if_neg h1] at h; exact absurd h h1
theorem proof_sem {ar : List Int} {n : Int} {ls : List (List Int)} {cs : List (List Lit)} {p : List Inf} (hm : MOk ar n ls) (hs : ∀ c, c ∈ cs → Sem n ls c) (h : (proofS ar cs p).2 = 0) : ∀ c, c ∈ (proofS ar cs p).1 → Sem n ls c := by
  rw [proofS] at h ⊢
  split at h
  · rename_i h1
    rw [if_pos h1]
    split at h
    · cases h
    · rename_i h2; rw [if_neg h2]; exact steps_sem hm p cs hs h
  · rename_i h1; exact absurd h h1
/-- The clause without literals never holds. -/
theorem sem_nil {n : Int} {ls : List (List Int)} (hn : 0 < n) : ¬ Sem n ls [] := fun h => by
  have := h (fun _ => 0) (fun _ => ⟨Int.le_refl 0, hn⟩)
  simp [clHolds] at this
theorem proves_no {ar : List Int} {n : Int} {ls : List (List Int)} {cs : List (List Lit)} {p : List Inf} (hm : MOk ar n ls) (hs : ∀ c, c ∈ cs → Sem n ls c) : (provesS ar cs p).1 = false := by
  rw [provesS]
  split
  · rename_i h
    simp only
    split
    · rfl
    · rename_i hp
      cases hl : (proofS ar cs p).1.getLast? with
      | none =>
        exfalso
        have hlen : ∀ (p : List Inf) (made : List (List Lit)), p.length ≠ 0 → (stepsS ar made p).2 = 0 → (stepsS ar made p).1 ≠ [] := by
          intro p
          induction p with
          | nil => intro made hp _; exact absurd rfl hp
          | cons i p ih =>
            intro made _ h
            rw [stepsS] at h ⊢
            by_cases h1 : (inferS ar made i).2 = 0
            · rw [if_pos h1] at h ⊢
              cases p with
              | nil => rw [stepsS]; simp
              | cons j p => exact ih _ (by simp) h
            · rw [if_neg h1] at h; exact absurd h h1
        rw [proofS] at h hl
        split at h
        · rename_i h1
          rw [if_pos h1] at hl
          split at h
          · cases h
          · rename_i h2
            rw [if_neg h2] at hl
            exact hlen p cs hp h (List.getLast?_eq_none_iff.1 hl)
        · rename_i h1; exact absurd h h1
      | some c =>
        have hc := proof_sem hm hs h c (List.mem_of_getLast? hl)
        cases c with
        | nil => exact absurd hc (sem_nil (by have := hm.lo; omega))
        | cons x c => rfl
  · rfl
end Go.Proofs.YtbkedppkdhfpoabGreat

namespace Go.Proofs.YtbkedppkdhfpoabGreat

/-- What proof.Clauses answers; big: the list and the proof are too long. -/
def proofW (big : Bool) (ar : List Int) (ls : List (List Lit)) (p : List Inf) : List (List Lit) × Int :=
  if clausesErr ar ls = 0 then (if big then ([], 2) else stepsS ar ls p) else ([], clausesErr ar ls)
/-- What proof.Check answers. -/
def provesW (big : Bool) (ar : List Int) (ls : List (List Lit)) (p : List Inf) : Bool × Int :=
  if (proofW big ar ls p).2 = 0 then (if p.length = 0 then false else ((((proofW big ar ls p).1.getLast?).getD []).length == 0), 0) else (false, (proofW big ar ls p).2)
theorem proofW_sem {big : Bool} {ar : List Int} {n : Int} {ls : List (List Int)} {cs : List (List Lit)} {p : List Inf} (hm : MOk ar n ls) (hs : ∀ c, c ∈ cs → Sem n ls c) (h : (proofW big ar cs p).2 = 0) : ∀ c, c ∈ (proofW big ar cs p).1 → Sem n ls c := by
  rw [proofW] at h ⊢
  split at h
  · rename_i h1
    rw [if_pos h1]
    cases big
    · exact steps_sem hm p cs hs h
    · cases h
  · rename_i h1; exact absurd h h1
theorem steps_some {ar : List Int} : ∀ (p : List Inf) (made : List (List Lit)), p.length ≠ 0 → (stepsS ar made p).2 = 0 → (stepsS ar made p).1 ≠ [] := by
  intro p
  induction p with
  | nil => intro made hp _; exact absurd rfl hp
  | cons i p ih =>
    intro made _ h
    rw [stepsS] at h ⊢
    by_cases h1 : (inferS ar made i).2 = 0
    · rw [if_pos h1] at h ⊢
      cases p with
      | nil => rw [stepsS]; simp
      | cons j p => exact ih _ (by simp) h
    · rw [if_neg h1] at h; exact absurd h h1
theorem proofW_some {big : Bool} {ar : List Int} {cs : List (List Lit)} {p : List Inf} (hp : p.length ≠ 0) (h : (proofW big ar cs p).2 = 0) : (proofW big ar cs p).1 ≠ [] := by
  rw [proofW] at h ⊢
  split at h
  · rename_i h1
    rw [if_pos h1]
    cases big
    · exact steps_some p cs hp h
    · cases h
  · rename_i h1; exact absurd h h1
theorem provesW_no {big : Bool} {ar : List Int} {n : Int} {ls : List (List Int)} {cs : List (List Lit)} {p : List Inf} (hm : MOk ar n ls) (hs : ∀ c, c ∈ cs → Sem n ls c) : (provesW big ar cs p).1 = false := by
  rw [provesW]
  split
  · rename_i h
    simp only
    split
    · rfl
    · rename_i hp
      cases hl : (proofW big ar cs p).1.getLast? with
      | none => exact absurd (List.getLast?_eq_none_iff.1 hl) (proofW_some hp h)
      | some c =>
        have hc := proofW_sem hm hs h c (List.mem_of_getLast? hl)
        cases c with
        | nil => exact absurd hc (sem_nil (by have := hm.lo; omega))
        | cons x c => rfl
  · rfl
theorem steps_len {ar : List Int} : ∀ (p : List Inf) (made : List (List Lit)), (stepsS ar made p).2 = 0 → (stepsS ar made p).1.length = made.length + p.length := by
  intro p
  induction p with
  | nil => intro made _; rw [stepsS]; rfl
  | cons i p ih =>
    intro made h
    rw [stepsS] at h ⊢
    by_cases h1 : (inferS ar made i).2 = 0
    · rw [if_pos h1] at h ⊢
      rw [ih _ h, List.length_append, List.length_cons]
      simp only [List.length_cons, List.length_nil]; omega
    · rw [if_neg h1] at h; exact absurd h h1
theorem steps_drop {ar : List Int} {made : List (List Lit)} {p : List Inf} {k : Nat} {i : Inf} (hi : p[k]? = some i) : stepsS ar made (p.drop k) = if (inferS ar made i).2 = 0 then stepsS ar (made ++ [(inferS ar made i).1]) (p.drop (k + 1)) else ([], (inferS ar made i).2) := by
  rw [List.drop_eq_getElem_cons (List.getElem?_eq_some_iff.1 hi).1, (List.getElem?_eq_some_iff.1 hi).2, stepsS]
end Go.Proofs.YtbkedppkdhfpoabGreat
