/- What holds in a model: what is put in, tidied, numbered anew. No word of the program's memory here. Clauses: is a clause always? Clauses: one that subsumes another, and what is put in for its variables. Clauses: a tidied clause holds where the clause holds, and only there. ModelHangs: a tidied clause is right, and has no more variables. ModelHangs: what a tidied clause is to the model. What must be in any case of clauses: the pure part. What must be in any case of clauses: it is. -/
import Derived.Test.YtbkedppkdhfpoabGreatJoined19
namespace Go.Proofs.YtbkedppkdhfpoabGreat

/-- A clause holds, whatever its variables are. -/
def Sem (n : Int) (ls : List (List Int)) (c : List Lit) : Prop := ∀ f : Int → Int, (∀ v, 0 ≤ f v ∧ f v < n) → clHolds n ls f c = true
theorem sem_iff {n : Int} {ls : List (List Int)} {c : List Lit} (hn : 0 < n) : allV n (fun g => clHolds n ls (fun k => (g k).getD 0) c) (clVars c) (fun _ => none) = true ↔ Sem n ls c := by
  rw [allV_iff hn]
  have he : ∀ f : Int → Int, clHolds n ls (fun k => ((fun k => if k ∈ clVars c then some (f k) else none) k).getD 0) c = clHolds n ls f c := fun f => cl_congr fun v hv => by
    show ((if v ∈ clVars c then some (f v) else none) : Option Int).getD 0 = f v
    rw [if_pos hv]; rfl
  constructor
  · intro h f hf; rw [← he]; exact h f hf
  · intro h f hf
    have := h f hf
    rw [← he] at this; exact this

theorem row_sub {n : Int} {ls : List (List Int)} {f : Int → Int} {θ : Int → T} {N : Nat} (ih : ∀ t : T, t.sz ≤ N → valT n ls f (sub θ t) = valT n ls (fun v => valT n ls f (θ v)) t) : ∀ (ts : List T) (r : Int), T.sz.szL ts ≤ N → valT.rowL n ls f (ts.map (sub θ)) r = valT.rowL n ls (fun v => valT n ls f (θ v)) ts r := by
  intro ts
  induction ts with
  | nil => intro r _; rfl
  | cons t ts iht =>
    intro r h
    rw [T.szL_cons] at h
    rw [List.map_cons]
    show valT.rowL n ls f (ts.map (sub θ)) (r * n + valT n ls f (sub θ t)) = valT.rowL n ls _ ts (r * n + valT n ls _ t)
    rw [ih t (by omega), iht _ (by omega)]
/-- What is put in is what variables are. -/
theorem val_sub {n : Int} {ls : List (List Int)} {f : Int → Int} {θ : Int → T} : ∀ (N : Nat) (t : T), t.sz ≤ N → valT n ls f (sub θ t) = valT n ls (fun v => valT n ls f (θ v)) t := by
  intro N
  induction N with
  | zero => intro t h; have := t.sz_pos; omega
  | succ N ih =>
    intro t h
    have hts := T.sz_eq t
    by_cases hv : t.v = 0
    · rw [sub_fn hv, valT_eq, valT_eq n ls (fun v => valT n ls f (θ v)) t, if_neg (by simp), if_neg (by simpa using hv)]
      simp only
      rw [row_sub ih t.args 0 (by omega)]
    · rw [sub_var hv, valT_eq n ls (fun v => valT n ls f (θ v)) t, if_pos hv]
/-- Each side of a clause made another one. -/
def mapC (h : T → T) (c : List Lit) : List Lit := c.map (fun x => (x.1, h x.2.1, h x.2.2))
theorem cl_sub {n : Int} {ls : List (List Int)} {f : Int → Int} {θ : Int → T} {c : List Lit} : clHolds n ls f (mapC (sub θ) c) = clHolds n ls (fun v => valT n ls f (θ v)) c := by
  rw [clHolds, clHolds, mapC, List.any_map]
  congr 1
  funext x
  show litHolds n ls f (x.1, sub θ x.2.1, sub θ x.2.2) = _
  rw [litHolds, litHolds, val_sub _ _ (Nat.le_refl _), val_sub _ _ (Nat.le_refl _)]
theorem sem_sub {n : Int} {ls : List (List Int)} {θ : Int → T} {c : List Lit} (hn : 0 < n) (h : Sem n ls c) (hθ : ∀ f : Int → Int, (∀ v, 0 ≤ f v ∧ f v < n) → ∀ v, v ∈ clVars c → 0 ≤ valT n ls f (θ v) ∧ valT n ls f (θ v) < n) : Sem n ls (mapC (sub θ) c) := by
  intro f hf
  rw [cl_sub]
  have h1 := h (fun v => if v ∈ clVars c then valT n ls f (θ v) else 0) (fun v => by
    by_cases hv : v ∈ clVars c
    · simp only [if_pos hv]; exact hθ f hf v hv
    · simp only [if_neg hv]; omega)
  rw [← h1]
  exact cl_congr fun v hv => by simp only [if_pos hv]

theorem lit_same {n : Int} {ls : List (List Int)} {f : Int → Int} {k l : Lit} (h : sameLit k l = true) : litHolds n ls f k = litHolds n ls f l := by
  simp only [sameLit, sameS, Bool.and_eq_true, Bool.or_eq_true, beq_iff_eq, sameT_iff] at h
  rw [litHolds, litHolds]
  rcases h with ⟨h0, ⟨h1, h2⟩ | ⟨h1, h2⟩⟩
  · rw [h0, h1, h2]
  · rw [h0, h1, h2]
    congr 1
    rw [Bool.eq_iff_iff]
    simp only [beq_iff_eq]
    exact eq_comm
theorem cl_need {n : Int} {ls : List (List Int)} {f : Int → Int} : ∀ (c acc : List Lit), clHolds n ls f (needS acc c) = (clHolds n ls f acc || clHolds n ls f c) := by
  intro c
  induction c with
  | nil => intro acc; rw [needS]; simp [clHolds]
  | cons l r ih =>
    intro acc
    rw [needS, ih]
    have hc : clHolds n ls f (l :: r) = (litHolds n ls f l || clHolds n ls f r) := by rw [clHolds, clHolds, List.any_cons]
    rw [hc]
    by_cases hk : keepL acc l = true
    · rw [if_pos hk]
      have : clHolds n ls f (acc ++ [l]) = (clHolds n ls f acc || litHolds n ls f l) := by rw [clHolds, clHolds, List.any_append]; simp
      rw [this, Bool.or_assoc]
    · rw [if_neg hk]
      have hk2 : keepL acc l = false := by simpa using hk
      rw [keepL] at hk2
      simp only [Bool.and_eq_false_iff, Bool.not_eq_false', Bool.or_eq_false_iff, List.any_eq_true] at hk2
      rcases hk2 with ⟨k, hka, hkl⟩ | ⟨h1, h2⟩
      · have he := lit_same (n := n) (ls := ls) (f := f) hkl
        cases hl : litHolds n ls f l with
        | false => simp
        | true =>
          have : clHolds n ls f acc = true := by
            rw [clHolds, List.any_eq_true]
            exact ⟨k, hka, he.trans hl⟩
          rw [this]; simp
      · have hl : litHolds n ls f l = false := by
          rw [litHolds, h1, sameT_iff.1 h2]
          simp
        rw [hl]; simp

/-- Variables by their numbers. -/
def ren (L : List Int) (v : Int) : T := ⟨(L.idxOf v : Int) + 1, 0, []⟩
theorem numL_pre (v : Int) (ns : List Int) : ∃ R, numL v ns = ns ++ R := by
  rw [numL]; split
  · exact ⟨[], by simp⟩
  · exact ⟨[v], rfl⟩
theorem give_pre : ∀ (N : Nat), (∀ (t : T) (ns : List Int), t.sz ≤ N → ∃ R, (giveT t ns).2 = ns ++ R) ∧ (∀ (ts : List T) (ns : List Int), T.sz.szL ts ≤ N → ∃ R, (giveT.giveL ts ns).2 = ns ++ R) := by
  intro N
  induction N with
  | zero =>
    refine ⟨fun t ns h => by have := t.sz_pos; omega, fun ts ns h => ?_⟩
    cases ts with
    | nil => exact ⟨[], by simp [giveT.giveL]⟩
    | cons t ts => have := t.sz_pos; rw [T.szL_cons] at h; omega
  | succ N ih =>
    have h1 : ∀ (t : T) (ns : List Int), t.sz ≤ N + 1 → ∃ R, (giveT t ns).2 = ns ++ R := fun t ns h => by
      have he := T.sz_eq t
      obtain ⟨R1, e1⟩ := numL_pre t.v ns
      obtain ⟨R2, e2⟩ := ih.2 t.args (numL t.v ns) (by omega)
      rw [giveT_eq]
      exact ⟨R1 ++ R2, by simp only; rw [e2, e1, List.append_assoc]⟩
    refine ⟨h1, fun ts => ?_⟩
    induction ts with
    | nil => intro ns _; exact ⟨[], by simp [giveT.giveL]⟩
    | cons t ts iht =>
      intro ns h
      rw [T.szL_cons] at h
      obtain ⟨R1, e1⟩ := h1 t ns (by omega)
      obtain ⟨R2, e2⟩ := iht (giveT t ns).2 (by omega)
      exact ⟨R1 ++ R2, by show (giveT.giveL ts (giveT t ns).2).2 = _; rw [e2, e1, List.append_assoc]⟩
theorem idx_pre {v : Int} {A R : List Int} (h : v ∈ A) : (A ++ R).idxOf v = A.idxOf v := by rw [List.idxOf_append, if_pos h]
theorem give_ren {ar : List Int} : ∀ (N : Nat), (∀ (t : T) (ns R : List Int), t.sz ≤ N → okP ar t → (giveT t ns).1 = sub (ren ((giveT t ns).2 ++ R)) t) ∧ (∀ (ts : List T) (ns R : List Int), T.sz.szL ts ≤ N → (∀ t, t ∈ ts → okP ar t) → (giveT.giveL ts ns).1 = ts.map (sub (ren ((giveT.giveL ts ns).2 ++ R)))) := by
  intro N
  induction N with
  | zero =>
    refine ⟨fun t ns R h => by have := t.sz_pos; omega, fun ts ns R h _ => ?_⟩
    cases ts with
    | nil => rfl
    | cons t ts => have := t.sz_pos; rw [T.szL_cons] at h; omega
  | succ N ih =>
    have h1 : ∀ (t : T) (ns R : List Int), t.sz ≤ N + 1 → okP ar t → (giveT t ns).1 = sub (ren ((giveT t ns).2 ++ R)) t := fun t ns R h ht => by
      have he := T.sz_eq t
      rw [giveT_eq]
      simp only
      by_cases hv : t.v = 0
      · rw [sub_fn hv, numV, if_pos hv, ih.2 t.args (numL t.v ns) R (by omega) (fun a ha => okArg ht ha)]
      · rw [sub_var hv, (ok_var ht hv).2]
        show (⟨numV t.v ns, t.f, []⟩ : T) = ren (numL t.v ns ++ R) t.v
        have hm : t.v ∈ numL t.v ns := by
          rw [numL]; split
          · rename_i h9; exact h9.resolve_left hv
          · simp
        rw [ren, idx_pre hm, numV, if_neg hv, (ok_var ht hv).1]
    refine ⟨h1, fun ts => ?_⟩
    induction ts with
    | nil => intro ns R _ _; rfl
    | cons t ts iht =>
      intro ns R h hok
      rw [T.szL_cons] at h
      obtain ⟨R2, e2⟩ := (give_pre (T.sz.szL ts)).2 ts (giveT t ns).2 (Nat.le_refl _)
      show (giveT t ns).1 :: (giveT.giveL ts (giveT t ns).2).1 = (t :: ts).map (sub (ren ((giveT.giveL ts (giveT t ns).2).2 ++ R)))
      rw [List.map_cons, iht (giveT t ns).2 R (by omega) (fun a ha => hok a (List.mem_cons_of_mem _ ha)), h1 t ns (R2 ++ R) (by omega) (hok t List.mem_cons_self), e2, List.append_assoc]
theorem giveC_pre : ∀ (c : List Lit) (ns : List Int), ∃ R, (giveC c ns).2 = ns ++ R := by
  intro c
  induction c with
  | nil => intro ns; exact ⟨[], by simp [giveC]⟩
  | cons x c ih =>
    intro ns
    obtain ⟨R1, e1⟩ := (give_pre x.2.1.sz).1 x.2.1 ns (Nat.le_refl _)
    obtain ⟨R2, e2⟩ := (give_pre x.2.2.sz).1 x.2.2 (giveT x.2.1 ns).2 (Nat.le_refl _)
    obtain ⟨R3, e3⟩ := ih (giveT x.2.2 (giveT x.2.1 ns).2).2
    rw [giveC]
    exact ⟨R1 ++ (R2 ++ R3), by simp only; rw [e3, e2, e1]; simp⟩
theorem giveC_ren {ar : List Int} : ∀ (c : List Lit) (ns R : List Int), LitsOk ar c → (giveC c ns).1 = mapC (sub (ren ((giveC c ns).2 ++ R))) c := by
  intro c
  induction c with
  | nil => intro ns R _; rfl
  | cons x c ih =>
    intro ns R h
    have hx := h x List.mem_cons_self
    obtain ⟨R2, e2⟩ := (give_pre x.2.2.sz).1 x.2.2 (giveT x.2.1 ns).2 (Nat.le_refl _)
    obtain ⟨R3, e3⟩ := giveC_pre c (giveT x.2.2 (giveT x.2.1 ns).2).2
    have a1 := (give_ren (ar := ar) x.2.1.sz).1 x.2.1 ns (R2 ++ R3 ++ R) (Nat.le_refl _) hx.1.2
    have a2 := (give_ren (ar := ar) x.2.2.sz).1 x.2.2 (giveT x.2.1 ns).2 (R3 ++ R) (Nat.le_refl _) hx.2.2
    have a3 := ih (giveT x.2.2 (giveT x.2.1 ns).2).2 R (fun y hy => h y (List.mem_cons_of_mem _ hy))
    show (x.1, (giveT x.2.1 ns).1, (giveT x.2.2 (giveT x.2.1 ns).2).1) :: (giveC c (giveT x.2.2 (giveT x.2.1 ns).2).2).1 = (x.1, sub (ren ((giveC c (giveT x.2.2 (giveT x.2.1 ns).2).2).2 ++ R)) x.2.1, sub (ren ((giveC c (giveT x.2.2 (giveT x.2.1 ns).2).2).2 ++ R)) x.2.2) :: mapC (sub (ren ((giveC c (giveT x.2.2 (giveT x.2.1 ns).2).2).2 ++ R))) c
    rw [a3, a1, a2, e3, e2]
    simp only [List.append_assoc]
theorem sem_tidy {ar : List Int} {n : Int} {ls : List (List Int)} {c : List Lit} (hn : 0 < n) (hlo : LitsOk ar c) (h : Sem n ls c) : Sem n ls (giveC (needS [] c) []).1 := by
  have h1 : Sem n ls (needS [] c) := fun f hf => by rw [cl_need, h f hf]; simp
  have e := giveC_ren (ar := ar) (needS [] c) [] [] (need_ok hlo)
  rw [e]
  refine sem_sub hn h1 fun f hf v _ => ?_
  rw [ren, valT_eq, if_pos (by simp only; omega)]
  exact hf _
end Go.Proofs.YtbkedppkdhfpoabGreat

namespace Go.Proofs.YtbkedppkdhfpoabGreat
open Go.RowKit

/-- A literal is also there as no. -/
def deniedS (c : List Lit) (l : Lit) : Bool := c.any (fun k => !k.1 && sameS k l)
/-- What Always answers of right clauses. -/
def alwaysB (c : List Lit) : Bool := c.any (fun l => l.1 && (sameT l.2.1 l.2.2 || deniedS c l))
def alwaysS (ar : List Int) (c : List Lit) : Bool × Int := if clausesErr ar [c] = 0 then (alwaysB c, 0) else (false, clausesErr ar [c])
theorem eg108 (args : Array Value) (w : World) : (callFunc 108 args).run Tryz.prog w = .ok (.enter 108 args) w := by kernel_rfl
theorem eg45 (args : Array Value) (w : World) : (callFunc 45 args).run Tryz.prog w = .ok (.enter 45 args) w := by kernel_rfl
attribute [local go_sem ↓] Go.wp_at_zero Go.wp_at_succ
set_option maxRecDepth 100000 in
set_option maxHeartbeats 1000000 in
theorem deniedC_any (k l : Lit) (a1 : Option Addr) (c1 : Nat) (a2 : Option Addr) (c2 : Nat) (b1 : Option Addr) (d1 : Nat) (b2 : Option Addr) (d2 bl : Nat) (w : World) (hk : LitSz k) (i1 : InL w k.2.1.args a1) (i2 : InL w k.2.2.args a2) (hl7 : L7 w bl 0 l b1 d1 b2 d2) (j1 : InL w l.2.1.args b1) (j2 : InL w l.2.2.args b2) :
    Calls Tryz.prog 108 #[litV k a1 c1 a2 c2, .pointer (some ⟨bl, 0, none⟩)] w fun e w' => e = .returned (.bool (!k.1 && sameS k l)) ∧ Below w.heap.size w w' := by
  obtain ⟨W1, hW1⟩ : ∃ W1, W1 = w.alloc (.cells #[.bool k.1, .int .i64 k.2.1.v, .int .i64 k.2.1.f, .slice a1 k.2.1.args.length c1, .int .i64 k.2.2.v, .int .i64 k.2.2.f, .slice a2 k.2.2.args.length c2] 79) := ⟨_, rfl⟩
  have hbW : Below w.heap.size w W1 := by rw [hW1]; exact below1 _ _
  have hk7 : L7 W1 w.heap.size 0 k a1 c1 a2 c2 := by rw [hW1]; exact L7.new _ rfl
  obtain ⟨p0, p1, p2, p3, p4, p5, p6⟩ := hk7
  obtain ⟨q0, q1, q2, q3, q4, q5, q6⟩ := hl7.below hbW
  simp only [Nat.zero_add] at p1 p2 p3 p4 p5 p6 q1 q2 q3 q4 q5 q6
  have HS := hide (sameSides_any (false, k.2.1, k.2.2) l a1 c1 a2 c2 b1 d1 b2 d2 W1 hk (InP_below hbW i1) (InP_below hbW i2) (InP_below hbW j1) (InP_below hbW j2))
  have HW1 := hide hW1
  have HbW := hide hbW
  rw [show sameS (false, k.2.1, k.2.2) l = sameS k l from rfl] at HS
  obtain ⟨S, hS⟩ : ∃ S, S = sameS k l := ⟨_, rfl⟩
  rw [← hS] at HS ⊢
  clear hW1 hbW hS i1 i2 j1 j2 hl7
  go_enter Tryz.func108, Tryz.ntmps108
  go_upto_region 1 with fail
  rw [← HW1.out]
  cases hyes : k.1 with
  | true =>
    rw [hyes] at p0
    have Hy := hide hyes
    clear hyes
    go_wp2_with fail
    go_ret
    exact ⟨ret_bool (by rw [Hy.out]; rfl), HbW.out⟩
  | false =>
    rw [hyes] at p0
    have Hy := hide hyes
    clear hyes
    go_wp2_with fail
    refine HS.out.mono ?_
    rintro e w1 ⟨rfl, hb1⟩
    have Hf := hide (HbW.out.trans (hb1.mono HbW.out.size))
    clear hb1 HS
    go_wp2_with fail
    go_ret
    exact ⟨ret_bool (by rw [Hy.out]; rfl), Hf.out⟩
set_option maxRecDepth 100000 in
set_option maxHeartbeats 1000000 in
theorem denied_any (c : List Lit) (ca : Option Addr) (cc : Nat) (l : Lit) (b1 : Option Addr) (d1 : Nat) (b2 : Option Addr) (d2 : Nat) (w : World) (hcl : c.length ≤ 1000) (hsz : ∀ x, x ∈ c → LitSz x) (hc : LitsP w c ca) (j1 : InL w l.2.1.args b1) (j2 : InL w l.2.2.args b2) :
    Calls Tryz.prog 47 #[.slice ca c.length cc, litV l b1 d1 b2 d2] w fun e w' => e = .returned (.bool (deniedS c l)) ∧ Below w.heap.size w w' := by
  obtain ⟨W1, hW1⟩ : ∃ W1, W1 = w.alloc (.cells #[.bool l.1, .int .i64 l.2.1.v, .int .i64 l.2.1.f, .slice b1 l.2.1.args.length d1, .int .i64 l.2.2.v, .int .i64 l.2.2.f, .slice b2 l.2.2.args.length d2] 79) := ⟨_, rfl⟩
  have hbW : Below w.heap.size w W1 := by rw [hW1]; exact below1 _ _
  have hl7 : L7 W1 w.heap.size 0 l b1 d1 b2 d2 := by rw [hW1]; exact L7.new _ rfl
  have HC := hide (containsF_any (F := 108) (P := .pointer (some ⟨w.heap.size, 0, none⟩)) (p := fun k => !k.1 && sameS k l) c ca cc W1 (by omega) eg108 (fun w' x a1 c1 a2 c2 hb' hx i1 i2 => deniedC_any x l a1 c1 a2 c2 b1 d1 b2 d2 w.heap.size w' (hsz x hx) i1 i2 (hl7.below hb') (InP_below hb' (InP_below hbW j1)) (InP_below hb' (InP_below hbW j2))) (LitsP_below hbW hc))
  have hmf : ∀ (fn : Fn) (first cap : Array Value) (w : World), (Instr.makeFunc fn first cap).run Tryz.prog w = .ok (.func fn first cap) w := fun _ _ _ _ => rfl
  have HW1 := hide hW1
  have HbW := hide hbW
  clear hW1 hbW hl7 hc j1 j2 hsz
  go_enter Tryz.func47, Tryz.ntmps47
  go_upto_region 1 with fail
  rw [← HW1.out]
  go_wp2_with fail
  refine HC.out.mono ?_
  rintro e w1 ⟨rfl, hb1⟩
  have Hf := hide (HbW.out.trans (hb1.mono HbW.out.size))
  clear hb1 HC
  go_wp2_with fail
  go_ret
  exact ⟨rfl, Hf.out⟩
set_option maxRecDepth 100000 in
set_option maxHeartbeats 1000000 in
theorem alwaysC_any (c : List Lit) (ca : Option Addr) (cc : Nat) (l : Lit) (a1 : Option Addr) (c1 : Nat) (a2 : Option Addr) (c2 : Nat) (cb : Nat) (w : World) (hcl : c.length ≤ 1000) (hsz : ∀ x, x ∈ c → LitSz x) (hl : LitSz l) (hc : LitsP w c ca) (hcb : w.cell? ⟨cb, 0, none⟩ = some (.slice ca c.length cc)) (i1 : InL w l.2.1.args a1) (i2 : InL w l.2.2.args a2) :
    Calls Tryz.prog 45 #[litV l a1 c1 a2 c2, .pointer (some ⟨cb, 0, none⟩)] w fun e w' => e = .returned (.bool (l.1 && (sameT l.2.1 l.2.2 || deniedS c l))) ∧ Below w.heap.size w w' := by
  obtain ⟨W1, hW1⟩ : ∃ W1, W1 = w.alloc (.cells #[.bool l.1, .int .i64 l.2.1.v, .int .i64 l.2.1.f, .slice a1 l.2.1.args.length c1, .int .i64 l.2.2.v, .int .i64 l.2.2.f, .slice a2 l.2.2.args.length c2] 79) := ⟨_, rfl⟩
  have hbW : Below w.heap.size w W1 := by rw [hW1]; exact below1 _ _
  have hl7 : L7 W1 w.heap.size 0 l a1 c1 a2 c2 := by rw [hW1]; exact L7.new _ rfl
  have HL7 := hide hl7
  obtain ⟨p0, p1, p2, p3, p4, p5, p6⟩ := hl7
  simp only [Nat.zero_add] at p1 p2 p3 p4 p5 p6
  have HS := hide (treeSame_any _ l.2.1 l.2.2 a1 c1 a2 c2 W1 (Nat.le_refl _) hl.1 (InP_below hbW i1) (InP_below hbW i2))
  have HD := hide (fun (w' : World) (hb : Below W1.heap.size W1 w') => denied_any c ca cc (true, l.2.1, l.2.2) a1 c1 a2 c2 w' hcl hsz (LitsP_below hb (LitsP_below hbW hc)) (InP_below hb (InP_below hbW i1)) (InP_below hb (InP_below hbW i2)))
  have Hcb := hide (cell_below hbW hcb)
  have HW1 := hide hW1
  have HbW := hide hbW
  rw [show deniedS c (true, l.2.1, l.2.2) = deniedS c l from rfl] at HD
  obtain ⟨S, hS⟩ : ∃ S, S = sameT l.2.1 l.2.2 := ⟨_, rfl⟩
  obtain ⟨D, hD⟩ : ∃ D, D = deniedS c l := ⟨_, rfl⟩
  rw [← hS] at HS ⊢
  rw [← hD] at HD ⊢
  clear hW1 hbW hS hD i1 i2 hc hcb hsz
  go_enter Tryz.func45, Tryz.ntmps45
  go_upto_region 1 with fail
  rw [← HW1.out]
  cases hyes : l.1 with
  | false =>
    rw [hyes] at p0
    have Hy := hide hyes
    clear hyes
    go_wp2_with fail
    go_ret
    exact ⟨ret_bool (by rw [Hy.out]; rfl), HbW.out⟩
  | true =>
    rw [hyes] at p0
    have Hy := hide hyes
    clear hyes
    go_wp2_with fail
    refine HS.out.mono ?_
    rintro e w1 ⟨rfl, hb1⟩
    have Hb1 := hide hb1
    have Hf := hide (HbW.out.trans (hb1.mono HbW.out.size))
    clear hb1 HS p0 p1 p2 p3 p4 p5 p6
    cases S with
    | true =>
      go_wp2_with fail
      go_ret
      exact ⟨ret_bool (by rw [Hy.out]; rfl), Hf.out⟩
    | false =>
      have HD1 := hide (HD.out w1 Hb1.out)
      obtain ⟨p0, p1, p2, p3, p4, p5, p6⟩ := HL7.out.below Hb1.out
      simp only [Nat.zero_add] at p1 p2 p3 p4 p5 p6
      have q0 := cell_below Hb1.out Hcb.out
      rw [Hy.out] at p0
      clear HD
      go_wp2_with fail
      refine HD1.out.mono ?_
      rintro e w2 ⟨rfl, hb2⟩
      have Hf2 := hide (Hf.out.trans (hb2.mono Hf.out.size))
      clear hb2 HD1
      go_wp2_with fail
      go_ret
      exact ⟨ret_bool (by rw [Hy.out]; rfl), Hf2.out⟩
/-- A yes and an error handed back. -/
def GivesY (x : Bool × Int) (e : Ending) : Prop := e = .returned (.tuple #[.bool x.1, .int .i64 x.2])
set_option maxRecDepth 100000 in
set_option maxHeartbeats 1000000 in
theorem Always_any (ar : List Int) (ga : Option Addr) (gcap : Nat) (c : List Lit) (ca : Option Addr) (cc : Nat) (w : World) (hg : Ints w ar ga) (hcl : c.length ≤ 9223372036854775807) (hc : LitsP w c ca) :
    Calls Tryz.prog 13 #[.agg #[.slice ga ar.length gcap], .slice ca c.length cc] w fun e w' => GivesY (alwaysS ar c) e ∧ Below w.heap.size w w' := by
  obtain ⟨W1, hW1⟩ : ∃ W1, W1 = ((w.alloc (.cells #[.slice ga ar.length gcap] 24)).alloc (.cells #[.slice ca c.length cc] 26)) := ⟨_, rfl⟩
  have hbW : Below w.heap.size w W1 := by rw [hW1]; exact below2 _ _ _
  have hcg : W1.cell? ⟨w.heap.size, 0, none⟩ = some (.slice ga ar.length gcap) := by rw [hW1, cell_alloc_lt (by simp)]; exact cell_new 0 rfl
  have hcc : W1.cell? ⟨w.heap.size + 1, 0, none⟩ = some (.slice ca c.length cc) := by rw [hW1]; exact cell_new 0 (by simp)
  have HV := hide (fun (o : Obj) (ho : ClausesP (W1.alloc o) [c] (some ⟨W1.heap.size, 0, none⟩)) => checkV_any ar ga gcap [c] (some ⟨W1.heap.size, 0, none⟩) 1 (W1.alloc o) (Ints_alloc o (Ints_below hbW hg)) (by simp) (fun d hd => by rw [List.mem_singleton.1 hd]; exact hcl) ho)
  have HN : Hid (ClausesP (W1.alloc (.cells #[.slice ca c.length cc] 26)) [c] (some ⟨W1.heap.size, 0, none⟩)) := ⟨W1.heap.size, 0, ca, cc, rfl, cell_new 0 rfl, LitsP_below (below1 _ _) (LitsP_below hbW hc), trivial⟩
  have HV1 := hide (HV.out _ HN.out)
  have HA := hide (fun (he : clausesErr ar [c] = 0) (w' : World) (hb : Below W1.heap.size W1 w') => containsF_any (F := 45) (P := .pointer (some ⟨w.heap.size + 1, 0, none⟩)) (p := fun l => l.1 && (sameT l.2.1 l.2.2 || deniedS c l)) c ca cc w' (by have := (clauses_ok he).2.1; omega) eg45 (fun w'' x a1 c1 a2 c2 hb' hx i1 i2 => alwaysC_any c ca cc x a1 c1 a2 c2 (w.heap.size + 1) w'' (by have := (clauses_ok he).2.1; omega) (lits_sz (clauses_ok he).2.2) (lits_sz (clauses_ok he).2.2 x hx) (LitsP_below hb' (LitsP_below hb (LitsP_below hbW hc))) (cell_below hb' (cell_below hb hcc)) i1 i2) (LitsP_below hb (LitsP_below hbW hc)))
  have Hal := hide (show alwaysS ar c = if clausesErr ar [c] = 0 then (alwaysB c, 0) else (false, clausesErr ar [c]) from rfl)
  have Hbb := hide (show c.any (fun l => l.1 && (sameT l.2.1 l.2.2 || deniedS c l)) = alwaysB c from rfl)
  rw [Hbb.out] at HA
  obtain ⟨Z, hZ⟩ : ∃ Z, Z = alwaysS ar c := ⟨_, rfl⟩
  obtain ⟨E, hE⟩ : ∃ E, E = clausesErr ar [c] := ⟨_, rfl⟩
  rw [← hZ] at Hal ⊢
  rw [← hE] at HV1 HA Hal
  have hmf : ∀ (fn : Fn) (first cap : Array Value) (w : World), (Instr.makeFunc fn first cap).run Tryz.prog w = .ok (.func fn first cap) w := fun _ _ _ _ => rfl
  have HW1 := hide hW1
  have HbW := hide hbW
  have Hcc := hide hcc
  clear hZ hE hW1 hbW hg hc HV HN
  go_enter Tryz.func13, Tryz.ntmps13
  go_upto_region 1 with fail
  rw [← HW1.out]
  go_wp2_with fail
  refine HV1.out.mono ?_
  rintro e w1 ⟨rfl, hb1⟩
  have Hb1 := hide ((below1 W1 _).trans (hb1.mono (by simp)))
  have Hf := hide (HbW.out.trans (Hb1.out.mono HbW.out.size))
  clear hb1 HV1 hcg hcc
  by_cases hE0 : E = 0
  · have ee : (E != 0) = false := by simpa using hE0
    have hz : Z = (alwaysB c, 0) := by rw [Hal.out, if_pos hE0]
    have HA1 := hide (HA.out hE0 w1 Hb1.out)
    have q0 := cell_below Hb1.out Hcc.out
    subst hz
    clear HA Hal hE0
    go_wp2_with fail
    refine HA1.out.mono ?_
    rintro e w2 ⟨rfl, hb2⟩
    have Hf2 := hide (Hf.out.trans (hb2.mono Hf.out.size))
    clear hb2 HA1
    go_wp2_with fail
    go_ret2
    exact ⟨rfl, Hf2.out⟩
  · have ee : (E != 0) = true := by simpa using hE0
    have hz : Z = (false, E) := by rw [Hal.out, if_neg hE0]
    subst hz
    clear HA Hal hE0
    go_wp2_with fail
    go_ret2
    exact ⟨rfl, Hf.out⟩
end Go.Proofs.YtbkedppkdhfpoabGreat

namespace Go.Proofs.YtbkedppkdhfpoabGreat
open Go.RowKit Go.Maps

theorem partsL_mem {p a : T} : ∀ {xs : List T}, a ∈ xs → p ∈ parts a → p ∈ parts.partsL xs := by
  intro xs
  induction xs with
  | nil => intro h; cases h
  | cons x xs ih =>
    intro h hp
    rw [partsL_cons, List.mem_append]
    rcases List.mem_cons.1 h with rfl | h
    · exact Or.inl hp
    · exact Or.inr (ih h hp)
theorem occ_parts {v : Int} : ∀ (n : Nat) (t : T), t.sz ≤ n → occ v t → ∃ x, x ∈ parts t ∧ x.v = v := by
  intro n
  induction n with
  | zero => intro t h; have := t.sz_pos; omega
  | succ n ih =>
    intro t ht ho
    rcases occ_iff.1 ho with h | h
    · exact ⟨t, by rw [parts_eq]; simp, h⟩
    · obtain ⟨i, a, ha, hoa⟩ := occL_mem h
      have hm := List.mem_of_getElem? ha
      have := arg_sz hm
      obtain ⟨x, hx, hv⟩ := ih a (by omega) hoa
      exact ⟨x, by rw [parts_eq, List.mem_append]; exact Or.inl (partsL_mem hm hx), hv⟩
theorem occ_lit {v : Int} {l : Lit} (h0 : v ≠ 0) (h : occ v l.2.1 ∨ occ v l.2.2) : v ∈ litVars l := by
  rw [litVars_mem]
  rcases h with h | h
  · obtain ⟨x, hx, hv⟩ := occ_parts _ _ (Nat.le_refl _) h
    exact Or.inl (varsT_mem.2 ⟨x, hx, by rw [hv]; exact h0, hv⟩)
  · obtain ⟨x, hx, hv⟩ := occ_parts _ _ (Nat.le_refl _) h
    exact Or.inr (varsT_mem.2 ⟨x, hx, by rw [hv]; exact h0, hv⟩)
theorem stand_cons (x : Lit) (c : List Lit) (v : Int) : stand (x :: c) v = (if v ∈ litVars x then 1 else 0) + stand c v := by
  rw [stand, stand, List.filter_cons]
  by_cases h : v ∈ litVars x
  · simp [h]; omega
  · simp [h]
theorem stand_pos {v : Int} : ∀ {c : List Lit} {j : Nat} {m : Lit}, c[j]? = some m → v ∈ litVars m → 1 ≤ stand c v := by
  intro c
  induction c with
  | nil => intro j m h; simp at h
  | cons x c ih =>
    intro j m h hm
    rw [stand_cons]
    cases j with
    | zero => rw [List.getElem?_cons_zero] at h; obtain rfl := Option.some.inj h; rw [if_pos hm]; omega
    | succ j => rw [List.getElem?_cons_succ] at h; have := ih h hm; omega
theorem stand_one {v : Int} : ∀ {c : List Lit} {i j : Nat} {l m : Lit}, stand c v = 1 → c[i]? = some l → c[j]? = some m → v ∈ litVars l → v ∈ litVars m → i = j := by
  intro c
  induction c with
  | nil => intro i j l m _ h; simp at h
  | cons x c ih =>
    intro i j l m hs hi hj hl hm
    rw [stand_cons] at hs
    cases i with
    | zero =>
      cases j with
      | zero => rfl
      | succ j =>
        rw [List.getElem?_cons_zero] at hi; obtain rfl := Option.some.inj hi
        rw [List.getElem?_cons_succ] at hj
        rw [if_pos hl] at hs
        have := stand_pos hj hm
        omega
    | succ i =>
      cases j with
      | zero =>
        rw [List.getElem?_cons_zero] at hj; obtain rfl := Option.some.inj hj
        rw [List.getElem?_cons_succ] at hi
        rw [if_pos hm] at hs
        have := stand_pos hi hl
        omega
      | succ j =>
        rw [List.getElem?_cons_succ] at hi hj
        by_cases hx : v ∈ litVars x
        · rw [if_pos hx] at hs; have := stand_pos hi hl; omega
        · rw [if_neg hx, Nat.zero_add] at hs
          rw [ih hs hi hj hl hm]
/-- With these put in, each literal of one is one of the other's. -/
def Covers (θ : Int → T) (c d : List Lit) : Prop := ∀ l, l ∈ c → ∃ k, k ∈ d ∧ k.1 = l.1 ∧ ((sub θ l.2.1 = k.2.1 ∧ sub θ l.2.2 = k.2.2) ∨ (sub θ l.2.1 = k.2.2 ∧ sub θ l.2.2 = k.2.1))
theorem matchW_ok {ar : List Int} {l : Lit} {a b : T} {v : Int} {u : T} (h : matchW ar l a b v = some u) : okP ar u := by
  have hw : matchW ar l a b v = match lookB (matchSpec ar l.2.2 b).1 v with
    | some u => some u
    | none => lookB (matchSpec ar l.2.1 a).1 v := rfl
  rw [hw] at h
  cases hb : lookB (matchSpec ar l.2.2 b).1 v with
  | some x => rw [hb] at h; obtain rfl := Option.some.inj h; exact (match_ok.2 (v, x) (lookB_mem hb)).2.2
  | none => rw [hb] at h; exact (match_ok.2 (v, u) (lookB_mem h)).2.2
theorem okP_one {ar : List Int} : okP ar ⟨1, 0, []⟩ := by rw [okP_iff]; exact ⟨by simp [partErr], trivial⟩
theorem fit_theta {ar : List Int} {c d : List Lit} {Ls : List (List Way)} (hl : Ls.length = c.length) (hW : WaysL ar c d Ls) (hF : Fit Ls) : ∃ θ : Int → T, (∀ v, okP ar (θ v)) ∧ Covers θ c d := by
  obtain ⟨cf, h1, h2⟩ := hF
  have hex : ∀ i : Nat, ∃ g : Way, ∀ l, c[i]? = some l → cf i = lessW (stand c) g ∧ ∃ k, k ∈ d ∧ k.1 = l.1 ∧ ((MatchP ar l k.2.1 k.2.2 ∧ g = matchW ar l k.2.1 k.2.2) ∨ (MatchP ar l k.2.2 k.2.1 ∧ g = matchW ar l k.2.2 k.2.1)) := fun i => by
    cases hc : c[i]? with
    | none => exact ⟨fun _ => none, fun l h => by cases h⟩
    | some l =>
      have hi : i < Ls.length := by rw [hl]; exact (List.getElem?_eq_some_iff.1 hc).1
      obtain ⟨gs, hg1, hg2⟩ := hW i l _ hc (List.getElem?_eq_getElem hi)
      obtain ⟨g, hg, e⟩ := hg2.1 _ (h1 i _ (List.getElem?_eq_getElem hi))
      exact ⟨g, fun l' h' => by obtain rfl := Option.some.inj h'; exact ⟨e, ways_mem hg1 hg⟩⟩
  obtain ⟨G, hG⟩ := Classical.axiomOfChoice hex
  have hdom : ∀ (i : Nat) (l : Lit) (v : Int) (u : T), c[i]? = some l → G i v = some u → v ∈ litVars l := fun i l v u hc hu => by
    obtain ⟨_, k, _, _, hk | hk⟩ := hG i l hc
    · rw [hk.2] at hu
      have := (way_full hk.1).1 v u hu
      exact occ_lit this.1 this.2
    · rw [hk.2] at hu
      have := (way_full hk.1).1 v u hu
      exact occ_lit this.1 this.2
  have hone : ∀ (i j : Nat) (l m : Lit) (v : Int) (u u' : T), c[i]? = some l → c[j]? = some m → G i v = some u → G j v = some u' → u = u' := fun i j l m v u u' hi hj hu hu' => by
    by_cases hs : stand c v = 1
    · have := stand_one hs hi hj (hdom i l v u hi hu) (hdom j m v u' hj hu')
      subst this
      rw [hu] at hu'
      exact Option.some.inj hu'
    · have e1 := (hG i l hi).1
      have e2 := (hG j m hj).1
      refine h2 i j (by rw [hl]; exact (List.getElem?_eq_some_iff.1 hi).1) (by rw [hl]; exact (List.getElem?_eq_some_iff.1 hj).1) v u u' ?_ ?_
      · rw [e1, lessW, if_neg hs]; exact hu
      · rw [e2, lessW, if_neg hs]; exact hu'
  have hth : ∀ v : Int, ∃ t : T, okP ar t ∧ ∀ (i : Nat) (l : Lit) (u : T), c[i]? = some l → G i v = some u → t = u := fun v => by
    by_cases h : ∃ (i : Nat) (l : Lit) (u : T), c[i]? = some l ∧ G i v = some u
    · obtain ⟨i, l, u, hi, hu⟩ := h
      refine ⟨u, ?_, fun j m u' hj hu' => hone i j l m v u u' hi hj hu hu'⟩
      obtain ⟨_, k, _, _, hk | hk⟩ := hG i l hi
      · rw [hk.2] at hu; exact matchW_ok hu
      · rw [hk.2] at hu; exact matchW_ok hu
    · exact ⟨⟨1, 0, []⟩, okP_one, fun i l u hi hu => absurd ⟨i, l, u, hi, hu⟩ h⟩
  obtain ⟨θ, hθ⟩ := Classical.axiomOfChoice hth
  refine ⟨θ, fun v => (hθ v).1, fun l hm => ?_⟩
  obtain ⟨i, hi⟩ := List.getElem?_of_mem hm
  obtain ⟨_, k, hk, hs, hk'⟩ := hG i l hi
  refine ⟨k, hk, hs, ?_⟩
  rcases hk' with hk' | hk'
  · exact Or.inl ((way_full hk'.1).2 θ (fun v u hu => (hθ v).2 i l u hi (by rw [hk'.2]; exact hu)))
  · exact Or.inr ((way_full hk'.1).2 θ (fun v u hu => (hθ v).2 i l u hi (by rw [hk'.2]; exact hu)))
/-- What holds of a clause holds of those that it subsumes. -/
theorem sub_sem {ar : List Int} {n : Int} {ls : List (List Int)} {c d : List Lit} {θ : Int → T} (hn : 0 < n) (hm : MOk ar n ls) (hok : ∀ v, okP ar (θ v)) (hcov : Covers θ c d) (h : Sem n ls c) : Sem n ls d := by
  intro f hf
  have h1 := sem_sub hn h (fun f hf v _ => (val_range hm _ _ (Nat.le_refl _) (hok v) (fun x _ _ => hf x.v)).1) f hf
  rw [clHolds, mapC, List.any_map, List.any_eq_true] at h1
  obtain ⟨l, hl, hy⟩ := h1
  have hy' : litHolds n ls f (l.1, sub θ l.2.1, sub θ l.2.2) = true := hy
  obtain ⟨k, hk, hs, hkk⟩ := hcov l hl
  rw [clHolds, List.any_eq_true]
  refine ⟨k, hk, ?_⟩
  rw [litHolds] at hy' ⊢
  simp only at hy'
  rcases hkk with ⟨e1, e2⟩ | ⟨e1, e2⟩
  · rw [hs, ← e1, ← e2]; exact hy'
  · rw [hs, ← e1, ← e2, ← hy']
    congr 1
    rw [Bool.eq_iff_iff]
    simp only [beq_iff_eq]
    exact eq_comm
/-- A clause that is always so holds. -/
theorem always_sem {n : Int} {ls : List (List Int)} {c : List Lit} (h : alwaysB c = true) : Sem n ls c := by
  intro f _
  rw [alwaysB, List.any_eq_true] at h
  obtain ⟨l, hl, hy⟩ := h
  rw [Bool.and_eq_true, Bool.or_eq_true] at hy
  obtain ⟨h1, hy⟩ := hy
  rw [clHolds, List.any_eq_true]
  rcases hy with hy | hy
  · refine ⟨l, hl, ?_⟩
    rw [litHolds, h1, sameT_iff.1 hy]
    simp
  · rw [deniedS, List.any_eq_true] at hy
    obtain ⟨k, hk, hkk⟩ := hy
    rw [Bool.and_eq_true] at hkk
    obtain ⟨h2, h3⟩ := hkk
    have h2' : k.1 = false := by simpa using h2
    by_cases he : valT n ls f l.2.1 = valT n ls f l.2.2
    · exact ⟨l, hl, by rw [litHolds, h1, he]; simp⟩
    · refine ⟨k, hk, ?_⟩
      have : valT n ls f k.2.1 ≠ valT n ls f k.2.2 := by
        simp only [sameS, Bool.and_eq_true, Bool.or_eq_true, sameT_iff] at h3
        rcases h3 with ⟨e1, e2⟩ | ⟨e1, e2⟩
        · rw [e1, e2]; exact he
        · rw [e1, e2]; exact fun e => he e.symm
      rw [litHolds, h2']
      simp [this]
end Go.Proofs.YtbkedppkdhfpoabGreat

namespace Go.Proofs.YtbkedppkdhfpoabGreat
open Go.RowKit Go.Maps

/-- All variables are numbered. -/
theorem give_has : ∀ (N : Nat), (∀ (t : T) (ns : List Int), t.sz ≤ N → ∀ x, x ∈ parts t → x.v ≠ 0 → x.v ∈ (giveT t ns).2) ∧ (∀ (ts : List T) (ns : List Int), T.sz.szL ts ≤ N → ∀ x, x ∈ parts.partsL ts → x.v ≠ 0 → x.v ∈ (giveT.giveL ts ns).2) := by
  intro N
  induction N with
  | zero =>
    refine ⟨fun t ns h => by have := t.sz_pos; omega, fun ts ns h x hx => ?_⟩
    cases ts with
    | nil => cases hx
    | cons t ts => have := t.sz_pos; rw [T.szL_cons] at h; omega
  | succ N ih =>
    have h1 : ∀ (t : T) (ns : List Int), t.sz ≤ N + 1 → ∀ x, x ∈ parts t → x.v ≠ 0 → x.v ∈ (giveT t ns).2 := fun t ns h x hx hv => by
      have he := T.sz_eq t
      rw [giveT_eq]
      show x.v ∈ (giveT.giveL t.args (numL t.v ns)).2
      rw [parts_eq, List.mem_append, List.mem_singleton] at hx
      rcases hx with hx | rfl
      · exact ih.2 t.args (numL t.v ns) (by omega) x hx hv
      · obtain ⟨R2, e2⟩ := (give_pre (T.sz.szL x.args)).2 x.args (numL x.v ns) (Nat.le_refl _)
        rw [e2]
        refine List.mem_append_left _ ?_
        rw [numL]; split
        · rename_i h9; exact h9.resolve_left hv
        · simp
    refine ⟨h1, fun ts => ?_⟩
    induction ts with
    | nil => intro ns _ x hx; cases hx
    | cons t ts iht =>
      intro ns h x hx hv
      rw [T.szL_cons] at h
      rw [partsL_cons, List.mem_append] at hx
      show x.v ∈ (giveT.giveL ts (giveT t ns).2).2
      rcases hx with hx | hx
      · obtain ⟨R2, e2⟩ := (give_pre (T.sz.szL ts)).2 ts (giveT t ns).2 (Nat.le_refl _)
        rw [e2]
        exact List.mem_append_left _ (h1 t ns (by omega) x hx hv)
      · exact iht (giveT t ns).2 (by omega) x hx hv
theorem giveC_has : ∀ (c : List Lit) (ns : List Int) (x : Lit), x ∈ c → ∀ y, y ∈ parts x.2.1 ∨ y ∈ parts x.2.2 → y.v ≠ 0 → y.v ∈ (giveC c ns).2 := by
  intro c
  induction c with
  | nil => intro ns x hx; cases hx
  | cons z c ih =>
    intro ns x hx y hy hv
    show y.v ∈ (giveC c (giveT z.2.2 (giveT z.2.1 ns).2).2).2
    rcases List.mem_cons.1 hx with rfl | hx
    · obtain ⟨R3, e3⟩ := giveC_pre c (giveT x.2.2 (giveT x.2.1 ns).2).2
      rw [e3]
      refine List.mem_append_left _ ?_
      rcases hy with hy | hy
      · obtain ⟨R2, e2⟩ := (give_pre x.2.2.sz).1 x.2.2 (giveT x.2.1 ns).2 (Nat.le_refl _)
        rw [e2]
        exact List.mem_append_left _ ((give_has x.2.1.sz).1 x.2.1 ns (Nat.le_refl _) y hy hv)
      · exact (give_has x.2.2.sz).1 x.2.2 _ (Nat.le_refl _) y hy hv
    · exact ih _ x hx y hy hv
theorem sem_untidy {ar : List Int} {n : Int} {ls : List (List Int)} {c : List Lit} (hlo : LitsOk ar c) (h : Sem n ls (giveC (needS [] c) []).1) : Sem n ls c := by
  intro f hf
  have e := giveC_ren (ar := ar) (needS [] c) [] [] (need_ok hlo)
  obtain ⟨L, hL⟩ : ∃ L, L = (giveC (needS [] c) []).2 := ⟨_, rfl⟩
  rw [List.append_nil, ← hL] at e
  rw [e] at h
  have h1 := h (fun j => f (L.getD (j - 1).toNat 0)) (fun v => hf _)
  rw [cl_sub] at h1
  have h2 : clHolds n ls f (needS [] c) = true := by
    rw [← h1]
    refine cl_congr fun v hv => ?_
    rw [clVars_mem, clNums_mem] at hv
    obtain ⟨x, hx, hv⟩ := hv
    have hm : v ∈ L := by
      rw [hL]
      rcases hv with hv | hv
      · obtain ⟨y, hy, h0, rfl⟩ := varsT_mem.1 hv
        exact giveC_has _ _ x hx y (Or.inl hy) h0
      · obtain ⟨y, hy, h0, rfl⟩ := varsT_mem.1 hv
        exact giveC_has _ _ x hx y (Or.inr hy) h0
    rw [ren, valT_eq, if_pos (by simp only; omega)]
    simp only [Int.add_sub_cancel, Int.toNat_natCast]
    rw [List.getD_eq_getElem?_getD, List.getElem?_eq_getElem (List.idxOf_lt_length_iff.2 hm)]
    simp
  rw [cl_need] at h2
  simpa [clHolds] using h2
end Go.Proofs.YtbkedppkdhfpoabGreat

namespace Go.Proofs.YtbkedppkdhfpoabGreat
open Go.RowKit Go.Maps

theorem nodup_le {α : Type} [DecidableEq α] : ∀ {A B : List α}, A.Nodup → (∀ x, x ∈ A → x ∈ B) → A.length ≤ B.length := by
  intro A
  induction A with
  | nil => intro B _ _; simp
  | cons a A ih =>
    intro B hn hs
    rw [List.nodup_cons] at hn
    have h1 := ih (B := B.erase a) hn.2 (fun x hx => (List.mem_erase_of_ne (fun e => hn.1 (by rw [← e]; exact hx))).2 (hs x (List.mem_cons_of_mem _ hx)))
    have h2 := List.length_erase_of_mem (hs a List.mem_cons_self)
    have h3 : 0 < B.length := List.length_pos_of_mem (hs a List.mem_cons_self)
    rw [List.length_cons]
    omega
/-- Numbered are variables of the term, each once. -/
theorem numL_ok {v : Int} {ns : List Int} (h : ns.Nodup) : (numL v ns).Nodup ∧ ∀ z, z ∈ numL v ns → z ∈ ns ∨ (z = v ∧ v ≠ 0) := by
  rw [numL]; split
  · exact ⟨h, fun z hz => Or.inl hz⟩
  · rename_i h9
    rw [not_or] at h9
    refine ⟨List.nodup_append.2 ⟨h, List.pairwise_singleton _ _, fun a ha b hb e => h9.2 (by rw [List.mem_singleton] at hb; rw [← hb, ← e]; exact ha)⟩, fun z hz => ?_⟩
    rcases List.mem_append.1 hz with hz | hz
    · exact Or.inl hz
    · exact Or.inr ⟨List.mem_singleton.1 hz, h9.1⟩
theorem give_only : ∀ (N : Nat), (∀ (t : T) (ns : List Int), t.sz ≤ N → ns.Nodup → (giveT t ns).2.Nodup ∧ ∀ z, z ∈ (giveT t ns).2 → z ∈ ns ∨ ∃ x, x ∈ parts t ∧ x.v ≠ 0 ∧ x.v = z) ∧ (∀ (ts : List T) (ns : List Int), T.sz.szL ts ≤ N → ns.Nodup → (giveT.giveL ts ns).2.Nodup ∧ ∀ z, z ∈ (giveT.giveL ts ns).2 → z ∈ ns ∨ ∃ x, x ∈ parts.partsL ts ∧ x.v ≠ 0 ∧ x.v = z) := by
  intro N
  induction N with
  | zero =>
    refine ⟨fun t ns h => by have := t.sz_pos; omega, fun ts ns h hn => ?_⟩
    cases ts with
    | nil => exact ⟨hn, fun z hz => Or.inl hz⟩
    | cons t ts => have := t.sz_pos; rw [T.szL_cons] at h; omega
  | succ N ih =>
    have h1 : ∀ (t : T) (ns : List Int), t.sz ≤ N + 1 → ns.Nodup → (giveT t ns).2.Nodup ∧ ∀ z, z ∈ (giveT t ns).2 → z ∈ ns ∨ ∃ x, x ∈ parts t ∧ x.v ≠ 0 ∧ x.v = z := fun t ns h hn => by
      have he := T.sz_eq t
      rw [giveT_eq]
      show (giveT.giveL t.args (numL t.v ns)).2.Nodup ∧ ∀ z, z ∈ (giveT.giveL t.args (numL t.v ns)).2 → _
      obtain ⟨a1, a2⟩ := numL_ok (v := t.v) hn
      obtain ⟨b1, b2⟩ := ih.2 t.args (numL t.v ns) (by omega) a1
      refine ⟨b1, fun z hz => ?_⟩
      rcases b2 z hz with h2 | ⟨x, hx, h3⟩
      · rcases a2 z h2 with h3 | ⟨rfl, h3⟩
        · exact Or.inl h3
        · exact Or.inr ⟨t, by rw [parts_eq]; simp, h3, rfl⟩
      · exact Or.inr ⟨x, by rw [parts_eq]; exact List.mem_append_left _ hx, h3⟩
    refine ⟨h1, fun ts => ?_⟩
    induction ts with
    | nil => intro ns _ hn; exact ⟨hn, fun z hz => Or.inl hz⟩
    | cons t ts iht =>
      intro ns h hn
      rw [T.szL_cons] at h
      show (giveT.giveL ts (giveT t ns).2).2.Nodup ∧ ∀ z, z ∈ (giveT.giveL ts (giveT t ns).2).2 → _
      obtain ⟨a1, a2⟩ := h1 t ns (by omega) hn
      obtain ⟨b1, b2⟩ := iht (giveT t ns).2 (by omega) a1
      refine ⟨b1, fun z hz => ?_⟩
      rcases b2 z hz with h2 | ⟨x, hx, h3⟩
      · rcases a2 z h2 with h3 | ⟨x, hx, h3⟩
        · exact Or.inl h3
        · exact Or.inr ⟨x, by rw [partsL_cons]; exact List.mem_append_left _ hx, h3⟩
      · exact Or.inr ⟨x, by rw [partsL_cons]; exact List.mem_append_right _ hx, h3⟩
theorem giveC_only : ∀ (c : List Lit) (ns : List Int), ns.Nodup → (giveC c ns).2.Nodup ∧ ∀ z, z ∈ (giveC c ns).2 → z ∈ ns ∨ z ∈ clNums c := by
  intro c
  induction c with
  | nil => intro ns hn; exact ⟨hn, fun z hz => Or.inl hz⟩
  | cons x c ih =>
    intro ns hn
    show (giveC c (giveT x.2.2 (giveT x.2.1 ns).2).2).2.Nodup ∧ ∀ z, z ∈ (giveC c (giveT x.2.2 (giveT x.2.1 ns).2).2).2 → _
    obtain ⟨a1, a2⟩ := (give_only x.2.1.sz).1 x.2.1 ns (Nat.le_refl _) hn
    obtain ⟨b1, b2⟩ := (give_only x.2.2.sz).1 x.2.2 _ (Nat.le_refl _) a1
    obtain ⟨c1, c2⟩ := ih _ b1
    refine ⟨c1, fun z hz => ?_⟩
    rw [clNums_mem]
    rcases c2 z hz with h | h
    · rcases b2 z h with h | h
      · rcases a2 z h with h | h
        · exact Or.inl h
        · exact Or.inr ⟨x, List.mem_cons_self, Or.inl (varsT_mem.2 h)⟩
      · exact Or.inr ⟨x, List.mem_cons_self, Or.inr (varsT_mem.2 h)⟩
    · obtain ⟨y, hy, h⟩ := clNums_mem.1 h
      exact Or.inr ⟨y, List.mem_cons_of_mem _ hy, h⟩
/-- No more numbers than variables. -/
theorem tidy_nums (c : List Lit) : (giveC (needS [] c) []).2.length ≤ (clVars c).length := by
  obtain ⟨h1, h2⟩ := giveC_only (needS [] c) [] List.nodup_nil
  refine nodup_le h1 (fun z hz => ?_)
  rw [clVars_mem, clNums_mem]
  rcases h2 z hz with h | h
  · cases h
  · obtain ⟨x, hx, hv⟩ := clNums_mem.1 h
    rcases need_mem hx with h | h
    · cases h
    · exact ⟨x, h, hv⟩
end Go.Proofs.YtbkedppkdhfpoabGreat

namespace Go.Proofs.YtbkedppkdhfpoabGreat
open Go.RowKit Go.Maps

/-- Terms whose variables are numbered are right, of the same size. -/
theorem ren_ok {ar L : List Int} (hL : L.length ≤ 900) : ∀ (N : Nat) (t : T), t.sz ≤ N → okP ar t → okP ar (sub (ren L) t) ∧ (sub (ren L) t).sz = t.sz ∧ ∀ x, x ∈ parts (sub (ren L) t) → x.v ≠ 0 → ∃ y, y ∈ parts t ∧ y.v ≠ 0 ∧ x.v = (L.idxOf y.v : Int) + 1 := by
  intro N
  induction N with
  | zero => intro t h; have := t.sz_pos; omega
  | succ N ih =>
    intro t h ht
    have hts := T.sz_eq t
    by_cases hv : t.v = 0
    · have hsz : ∀ (l : List T), (∀ a, a ∈ l → (sub (ren L) a).sz = a.sz) → T.sz.szL (l.map (sub (ren L))) = T.sz.szL l := by
        intro l
        induction l with
        | nil => intro _; rfl
        | cons a l ihl =>
          intro hl
          rw [List.map_cons, T.szL_cons, T.szL_cons, hl a List.mem_cons_self, ihl (fun b hb => hl b (List.mem_cons_of_mem a hb))]
      have hA := fun a (ha : a ∈ t.args) => ih a (by have := arg_sz ha; omega) (okArg ht ha)
      rw [sub_fn hv]
      refine ⟨okP_iff.2 ⟨?_, ?_⟩, ?_, fun x hx h0 => ?_⟩
      · have := (okP_iff.1 ht).1
        rw [hv] at this
        simpa using this
      · refine okL_mem.2 fun b hb => ?_
        obtain ⟨a, ha, rfl⟩ := List.mem_map.1 hb
        exact (hA a ha).1
      · rw [T.sz_eq, hts]
        show 1 + T.sz.szL (t.args.map (sub (ren L))) = _
        rw [hsz _ (fun a ha => (hA a ha).2.1)]
      · rw [parts_eq, List.mem_append, List.mem_singleton] at hx
        rcases hx with hx | rfl
        · have hin : ∀ (l : List T), (∀ a, a ∈ l → a ∈ t.args) → x ∈ parts.partsL (l.map (sub (ren L))) → ∃ a, a ∈ t.args ∧ x ∈ parts (sub (ren L) a) := by
            intro l
            induction l with
            | nil => intro _ h; cases h
            | cons a l ihl =>
              intro hl h
              rw [List.map_cons, partsL_cons, List.mem_append] at h
              rcases h with h | h
              · exact ⟨a, hl a List.mem_cons_self, h⟩
              · exact ihl (fun b hb => hl b (List.mem_cons_of_mem _ hb)) h
          obtain ⟨a, ha, hxa⟩ := hin t.args (fun _ h => h) hx
          obtain ⟨y, hy, h1, h2⟩ := (hA a ha).2.2 x hxa h0
          exact ⟨y, by rw [parts_eq]; exact List.mem_append_left _ (partsL_mem ha hy), h1, h2⟩
        · exact absurd rfl h0
    · have h1 := ok_var ht hv
      have hi : L.idxOf t.v ≤ L.length := List.idxOf_le_length
      rw [sub_var hv, ren]
      refine ⟨okP_iff.2 ⟨?_, trivial⟩, ?_, fun x hx h0 => ?_⟩
      · show partErr ar ((L.idxOf t.v : Int) + 1) 0 0 = 0
        rw [partErr, if_pos (by omega), if_neg (by omega)]; rfl
      · rw [T.sz_eq, hts, h1.2]
      · rw [parts_eq, List.mem_append, List.mem_singleton] at hx
        rcases hx with hx | rfl
        · cases hx
        · exact ⟨t, by rw [parts_eq]; simp, hv, rfl⟩
theorem lits_zero {ar : List Int} (hs : sigErr ar = 0) : ∀ {c : List Lit}, LitsOk ar c → litsErr ar c = 0 := by
  intro c
  induction c with
  | nil => intro _; rfl
  | cons x c ih =>
    intro h
    have hx := h x List.mem_cons_self
    have t0 : ∀ t : T, t.sz ≤ 120 ∧ okP ar t → termErr ar t = 0 := fun t ht => by
      rw [← all_one hs t]; exact allErr_iff.2 ⟨hs, fun y hy => by rw [List.mem_singleton.1 hy]; exact ht⟩
    rw [litsErr, if_pos (t0 _ hx.1), if_pos (t0 _ hx.2)]
    exact ih (fun y hy => h y (List.mem_cons_of_mem _ hy))
theorem clause_zero {ar : List Int} {c : List Lit} (hs : sigErr ar = 0) (hl : c.length ≤ 8) (h : LitsOk ar c) : clauseErr ar c = 0 := by rw [clauseErr, if_neg (by omega), lits_zero hs h]
theorem one_zero {ar : List Int} {c : List Lit} (hs : sigErr ar = 0) (hl : c.length ≤ 8) (h : LitsOk ar c) : clausesErr ar [c] = 0 := by rw [clausesErr, if_pos hs, if_neg (by simp), clErr, if_pos (clause_zero hs hl h)]; rfl
theorem two_zero {ar : List Int} {c d : List Lit} (hc : clausesErr ar [c] = 0) (hd : clausesErr ar [d] = 0) : clausesErr ar [c, d] = 0 := by
  obtain ⟨h1, h2, h3⟩ := clauses_ok hc
  obtain ⟨_, h5, h6⟩ := clauses_ok hd
  rw [clausesErr, if_pos h1, if_neg (by simp), clErr, if_pos (clause_zero h1 h2 h3), clErr, if_pos (clause_zero h1 h5 h6)]
  rfl
/-- A tidied clause is right, and has no more variables. -/
theorem tidy_right {ar : List Int} {c : List Lit} (hc : clausesErr ar [c] = 0) (hv : (clVars c).length ≤ 8) : clausesErr ar [(giveC (needS [] c) []).1] = 0 ∧ (clVars (giveC (needS [] c) []).1).length ≤ 8 := by
  obtain ⟨h1, h2, h3⟩ := clauses_ok hc
  have hL := tidy_nums c
  have hno := need_ok h3
  have e := giveC_ren (ar := ar) (needS [] c) [] [] hno
  have hhas := giveC_has (needS [] c) []
  have hlen := giveC_length (needS [] c) []
  have hnl := need_len (c := c) (acc := [])
  obtain ⟨L, hLe⟩ : ∃ L, L = (giveC (needS [] c) []).2 := ⟨_, rfl⟩
  rw [← hLe] at hL hhas
  rw [List.append_nil, ← hLe] at e
  have hr := fun t => ren_ok (ar := ar) (L := L) (by omega) t.sz t (Nat.le_refl _)
  refine ⟨one_zero h1 (by rw [hlen]; simp at hnl; omega) ?_, ?_⟩
  · rw [e]
    intro x hx
    obtain ⟨y, hy, rfl⟩ := List.mem_map.1 hx
    have hy' := hno y hy
    have a1 := hr y.2.1 hy'.1.2
    have a2 := hr y.2.2 hy'.2.2
    exact ⟨⟨by show (sub (ren L) y.2.1).sz ≤ 120; rw [a1.2.1]; exact hy'.1.1, a1.1⟩, ⟨by show (sub (ren L) y.2.2).sz ≤ 120; rw [a2.2.1]; exact hy'.2.1, a2.1⟩⟩
  · have hnd : (clVars (giveC (needS [] c) []).1).Nodup := (clVars_up _).imp (fun h => by omega)
    have h9 := nodup_le (B := (List.range L.length).map (fun i : Nat => (i : Int) + 1)) hnd (fun z hz => by
      rw [clVars_mem, clNums_mem] at hz
      obtain ⟨x, hx, hz⟩ := hz
      rw [e] at hx
      obtain ⟨y, hy, rfl⟩ := List.mem_map.1 hx
      have hy' := hno y hy
      have hin : ∀ (s : T), okP ar s → (∀ q, q ∈ parts s → q ∈ parts y.2.1 ∨ q ∈ parts y.2.2) → z ∈ varsT (sub (ren L) s) → z ∈ (List.range L.length).map (fun i : Nat => (i : Int) + 1) := fun s hs hsub hz => by
        obtain ⟨q, hq, h0, rfl⟩ := varsT_mem.1 hz
        obtain ⟨r, hr1, hr2, hr3⟩ := (hr s hs).2.2 q hq h0
        have hm : r.v ∈ L := hhas y hy r (hsub r hr1) hr2
        rw [hr3]
        exact List.mem_map.2 ⟨L.idxOf r.v, List.mem_range.2 (List.idxOf_lt_length_iff.2 hm), rfl⟩
      rcases hz with hz | hz
      · exact hin y.2.1 hy'.1.2 (fun q hq => Or.inl hq) hz
      · exact hin y.2.2 hy'.2.2 (fun q hq => Or.inr hq) hz)
    rw [List.length_map, List.length_range] at h9
    omega
end Go.Proofs.YtbkedppkdhfpoabGreat

namespace Go.Proofs.YtbkedppkdhfpoabGreat
open Go.RowKit Go.Maps

def kF0 : T := ⟨0, 0, []⟩
def kF1 : T := ⟨0, 1, [kF0]⟩
def kV (v : Int) : T := ⟨v, 0, []⟩
def kC0 : List Lit := [(true, kV 7, kF0), (false, kV 3, kV 3)]
def kC1 : List Lit := [(true, kV 1, kF0)]
def kC2 : List Lit := [(true, kF0, kF1)]
theorem k_check : clausesErr [0, 1] [kC0] = 0 := by rfl
theorem k_two : clausesErr [0, 1] [kC1, kC2] = 0 := by rfl
theorem k_tidy : tidyS [0, 1] kC0 = (kC1, 0) := by rfl
theorem k_always : alwaysS [0, 1] kC0 = (false, 0) := by rfl
theorem k_match : MatchP [0, 1] (true, kV 1, kF0) kF1 kF0 := by
  refine ⟨by rfl, by rfl, ?_⟩
  intro v t u _ h
  have h9 := (match_full (ar := [0, 1]) (s := kF0) (t := kF0) (by rfl)).2.1 v u h
  rcases occ_iff.1 h9.2 with e | e
  · exact absurd e.symm h9.1
  · exact e.elim
/-- A way there is. -/
theorem k_ways {gs : List Way} (h : WaysOf [0, 1] (true, kV 1, kF0) kC2 gs) : ∃ g, g ∈ gs := by
  obtain ⟨ms, rest, rfl, h1, _⟩ := h
  obtain ⟨g1, g2, rfl, _, h3⟩ := h1.1 rfl
  exact ⟨_, List.mem_append_left _ (List.mem_append_right _ (by rw [h3.1 k_match]; exact List.mem_singleton_self _))⟩
theorem k_sub {yes : Bool} {err : Int} (h : SubS [0, 1] kC1 kC2 yes err) : yes = true ∧ err = 0 := by
  obtain ⟨he, Ls, hl, hW, hy⟩ := h.2 k_two
  refine ⟨hy.2 ?_, he⟩
  have hl1 : Ls.length = 1 := hl
  obtain ⟨gs, h1, h2⟩ := hW 0 (true, kV 1, kF0) _ rfl (List.getElem?_eq_getElem (show 0 < Ls.length by omega))
  obtain ⟨g, hg⟩ := k_ways h1
  obtain ⟨x, hx, _⟩ := h2.2 g hg
  refine ⟨fun _ => x, fun i gs' hi => ?_, fun i j _ _ => agreeP_self x⟩
  have := (List.getElem?_eq_some_iff.1 hi).1
  obtain rfl : i = 0 := by omega
  rw [List.getElem?_eq_getElem (show 0 < Ls.length by omega)] at hi
  rw [← Option.some.inj hi]
  exact hx
theorem Tidy_begun (n b : Nat) (w : World) (hg : Ints w [0, 1] (some ⟨n, 0, none⟩)) (hc : LitsP w kC0 (some ⟨b, 0, none⟩)) :
    Calls Tryz.prog 12 #[.agg #[.slice (some ⟨n, 0, none⟩) 2 2], .slice (some ⟨b, 0, none⟩) 2 2] w fun e w' => GivesC (kC1, 0) w.heap.size e w' ∧ Below w.heap.size w w' := by
  have h := Tidy_any [0, 1] (some ⟨n, 0, none⟩) 2 kC0 (some ⟨b, 0, none⟩) 2 w hg (by decide) hc
  rw [k_tidy] at h
  exact h
theorem Subsumes_begun (n b2 c1 c2 : Nat) (a1 : Option Addr) (w : World) (hg : Ints w [0, 1] (some ⟨n, 0, none⟩)) (hc : LitsP w kC1 a1) (hd : LitsP w kC2 (some ⟨b2, 0, none⟩)) :
    Calls Tryz.prog 14 #[.agg #[.slice (some ⟨n, 0, none⟩) 2 2], .slice a1 1 c1, .slice (some ⟨b2, 0, none⟩) 1 c2] w fun e w' => e = .returned (.tuple #[.bool true, .int .i64 0]) ∧ Below w.heap.size w w' := by
  refine (Subsumes_any [0, 1] (some ⟨n, 0, none⟩) 2 kC1 a1 c1 kC2 (some ⟨b2, 0, none⟩) c2 w hg (by decide) (by decide) hc hd).mono ?_
  rintro e w' ⟨⟨yes, err, rfl, h⟩, hb⟩
  obtain ⟨rfl, rfl⟩ := k_sub h
  exact ⟨rfl, hb⟩
theorem Always_begun (n b : Nat) (w : World) (hg : Ints w [0, 1] (some ⟨n, 0, none⟩)) (hc : LitsP w kC0 (some ⟨b, 0, none⟩)) :
    Calls Tryz.prog 13 #[.agg #[.slice (some ⟨n, 0, none⟩) 2 2], .slice (some ⟨b, 0, none⟩) 2 2] w fun e w' => e = .returned (.tuple #[.bool false, .int .i64 0]) ∧ Below w.heap.size w w' := by
  have h := Always_any [0, 1] (some ⟨n, 0, none⟩) 2 kC0 (some ⟨b, 0, none⟩) 2 w hg (by decide) hc
  rw [k_always] at h
  exact h
end Go.Proofs.YtbkedppkdhfpoabGreat

namespace Go.Proofs.YtbkedppkdhfpoabGreat
open Go.RowKit Go.Maps

theorem k_lits0 {w : World} (e : TypeId) : LitsP (w.alloc (.cells #[.bool true, .int .i64 7, .int .i64 0, .slice none 0 0, .int .i64 0, .int .i64 0, .slice none 0 0, .bool false, .int .i64 3, .int .i64 0, .slice none 0 0, .int .i64 3, .int .i64 0, .slice none 0 0] e)) kC0 (some ⟨w.heap.size, 0, none⟩) :=
  ⟨w.heap.size, 0, none, 0, none, 0, rfl, cell_new 0 rfl, cell_new 1 rfl, cell_new 2 rfl, cell_new 3 rfl, cell_new 4 rfl, cell_new 5 rfl, cell_new 6 rfl, InP_nil, InP_nil, w.heap.size, 7, none, 0, none, 0, rfl, cell_new 7 rfl, cell_new 8 rfl, cell_new 9 rfl, cell_new 10 rfl, cell_new 11 rfl, cell_new 12 rfl, cell_new 13 rfl, InP_nil, InP_nil, trivial⟩
theorem k_lits2 {w : World} {b : Nat} (e : TypeId) (h : InL w [kF0] (some ⟨b, 0, none⟩)) : LitsP (w.alloc (.cells #[.bool true, .int .i64 0, .int .i64 0, .slice none 0 0, .int .i64 0, .int .i64 1, .slice (some ⟨b, 0, none⟩) 1 1] e)) kC2 (some ⟨w.heap.size, 0, none⟩) :=
  ⟨w.heap.size, 0, none, 0, some ⟨b, 0, none⟩, 1, rfl, cell_new 0 rfl, cell_new 1 rfl, cell_new 2 rfl, cell_new 3 rfl, cell_new 4 rfl, cell_new 5 rfl, cell_new 6 rfl, InP_nil, InP_alloc _ h, trivial⟩
theorem k_in {w : World} (e : TypeId) : InL (w.alloc (.cells #[.int .i64 0, .int .i64 0, .slice none 0 0] e)) [kF0] (some ⟨w.heap.size, 0, none⟩) :=
  show InP _ (w.alloc (.cells #[.int .i64 kF0.v, .int .i64 kF0.f, .slice none kF0.args.length 0] e)) [kF0] (some ⟨w.heap.size, 0, none⟩) from InP_new1 e rfl trivial InP_nil
attribute [local go_sem ↓] Go.wp_at_zero Go.wp_at_succ
set_option maxRecDepth 100000 in
set_option maxHeartbeats 2000000 in
theorem clauseBegun_any (w : World) : Calls Tryz.prog 19 #[] w fun e w' => e = .returned (.bool true) ∧ Below w.heap.size w w' := by
  go_enter Tryz.func19, Tryz.ntmps19
  go_wp2_with fail
  refine (va_any _ _).mono ?_
  rintro e w1 ⟨rfl, hb1⟩
  have Hb1 := hide hb1
  clear hb1
  go_wp2_with fail
  refine (fn_any _ _ _ _ _).mono ?_
  rintro e w2 ⟨rfl, hb2⟩
  have Hb2 := hide (Hb1.out.trans (hb2.mono Hb1.out.size))
  clear hb2 Hb1
  go_wp2_with fail
  refine (va_any _ _).mono ?_
  rintro e w3 ⟨rfl, hb3⟩
  have Hb3 := hide (Hb2.out.trans (hb3.mono Hb2.out.size))
  clear hb3 Hb2
  go_wp2_with fail
  refine (va_any _ _).mono ?_
  rintro e w4 ⟨rfl, hb4⟩
  have Hb4 := hide (Hb3.out.trans (hb4.mono Hb3.out.size))
  clear hb4 Hb3
  obtain ⟨W5, hW5⟩ : ∃ W5, W5 = w4.alloc (.cells #[.bool true, .int .i64 7, .int .i64 0, .slice none 0 0, .int .i64 0, .int .i64 0, .slice none 0 0, .bool false, .int .i64 3, .int .i64 0, .slice none 0 0, .int .i64 3, .int .i64 0, .slice none 0 0] 79) := ⟨_, rfl⟩
  have Hc5 : Hid (LitsP W5 kC0 (some ⟨w4.heap.size, 0, none⟩)) := by rw [hW5]; exact k_lits0 _
  have Hb5 : Hid (Below w.heap.size w W5) := by rw [hW5]; exact Hb4.out.trans ((below1 _ _).mono Hb4.out.size)
  have HW5 := hide hW5
  clear hW5
  go_upto_region 2 with fail
  rw [← HW5.out]
  go_wp2_with fail
  refine (small_any _).mono ?_
  rintro e w6 ⟨n6, rfl, hg6, hb6⟩
  have Hb6 := hide (Hb5.out.trans (hb6.mono Hb5.out.size))
  have Hc6 := hide (LitsP_below hb6 Hc5.out)
  have HT := hide (Tidy_begun n6 w4.heap.size w6 hg6 Hc6.out)
  clear hg6 hb6 Hc5 Hb5
  go_wp2_with fail
  refine HT.out.mono ?_
  rintro e w7 ⟨⟨ta, tc, rfl, hlt, _⟩, hb7⟩
  have Hb7 := hide (Hb6.out.trans (hb7.mono Hb6.out.size))
  have Hc7 := hide (LitsP_below hb7 Hc6.out)
  have Ht7 := hide hlt
  clear hb7 hlt HT Hc6 Hb6
  go_wp2_with fail
  refine (small_any _).mono ?_
  rintro e w8 ⟨n8, rfl, hg8, hb8⟩
  have Hb8 := hide (Hb7.out.trans (hb8.mono Hb7.out.size))
  have Hc8 := hide (LitsP_below hb8 Hc7.out)
  have Ht8 := hide (LitsP_below hb8 Ht7.out)
  have Hg8 := hide hg8
  clear hb8 hg8 Hb7 Hc7 Ht7
  go_wp2_with fail
  refine (fn_any _ _ _ _ _).mono ?_
  rintro e w9 ⟨rfl, hb9⟩
  have Hb9 := hide hb9
  clear hb9
  go_wp2_with fail
  refine (fn_any _ _ _ _ _).mono ?_
  rintro e w10 ⟨rfl, hb10⟩
  have Hb10 := hide (Hb9.out.trans (hb10.mono Hb9.out.size))
  clear hb10 Hb9
  obtain ⟨W10, hW10⟩ : ∃ W10, W10 = w10.alloc (.cells #[.int .i64 0, .int .i64 0, .slice none 0 0] 77) := ⟨_, rfl⟩
  have Hi10 : Hid (InL W10 [kF0] (some ⟨w10.heap.size, 0, none⟩)) := by rw [hW10]; exact k_in _
  have HB10 : Hid (Below w8.heap.size w8 W10) := by rw [hW10]; exact Hb10.out.trans ((below1 _ _).mono Hb10.out.size)
  have HW10 := hide hW10
  clear hW10 Hb10
  have HF := hide (fn_any 1 (some ⟨w10.heap.size, 0, none⟩) 1 1 W10)
  rw [HW10.out] at HF
  go_wp2_with fail
  refine HF.out.mono ?_
  rintro e w11 ⟨rfl, hb11⟩
  rw [← HW10.out] at hb11
  have HB11 := hide (HB10.out.trans (hb11.mono HB10.out.size))
  have Hi11 := hide (InP_below hb11 Hi10.out)
  clear hb11 HF Hi10 HB10
  have HSb := hide (fun (w' : World) (hb' : Below w8.heap.size w8 w') (b2 : Nat) (hd : LitsP w' kC2 (some ⟨b2, 0, none⟩)) => Subsumes_begun n8 b2 tc 1 ta w' (Ints_below hb' Hg8.out) (LitsP_below hb' Ht8.out) hd)
  obtain ⟨W12, hW12⟩ : ∃ W12, W12 = w11.alloc (.cells #[.bool true, .int .i64 0, .int .i64 0, .slice none 0 0, .int .i64 0, .int .i64 1, .slice (some ⟨w10.heap.size, 0, none⟩) 1 1] 79) := ⟨_, rfl⟩
  have HB12 : Hid (Below w8.heap.size w8 W12) := by rw [hW12]; exact HB11.out.trans ((below1 _ _).mono HB11.out.size)
  have HS12 : Hid (Calls Tryz.prog 14 #[.agg #[.slice (some ⟨n8, 0, none⟩) 2 2], .slice ta 1 tc, .slice (some ⟨w11.heap.size, 0, none⟩) 1 1] W12 fun e w' => e = .returned (.tuple #[.bool true, .int .i64 0]) ∧ Below W12.heap.size W12 w') := HSb.out W12 HB12.out w11.heap.size (by rw [hW12]; exact k_lits2 _ Hi11.out)
  rw [hW12] at HS12
  have HW12 := hide hW12
  clear hW12 HSb
  go_wp2_with fail
  refine HS12.out.mono ?_
  rintro e w13 ⟨rfl, hb13⟩
  rw [← HW12.out] at hb13
  have HB13 := hide (HB12.out.trans (hb13.mono HB12.out.size))
  have Hb13 := hide (Hb8.out.trans (HB13.out.mono Hb8.out.size))
  have Hc13 := hide (LitsP_below HB13.out Hc8.out)
  have Ht13 := hide (LitsP_below HB13.out Ht8.out)
  clear hb13 HS12 Hc8 Ht8 Hg8 HB11 Hi11 HW10 HW12 HB12 Hb8
  go_wp2_with fail
  refine (small_any _).mono ?_
  rintro e w14 ⟨n14, rfl, hg14, hb14⟩
  have Hb14 := hide (Hb13.out.trans (hb14.mono Hb13.out.size))
  have Hc14 := hide (LitsP_below hb14 Hc13.out)
  have Ht14 := hide (LitsP_below hb14 Ht13.out)
  have HAl := hide (Always_begun n14 w4.heap.size w14 hg14 Hc14.out)
  clear hg14 hb14 Hc13 Ht13 Hb13
  go_wp2_with fail
  refine HAl.out.mono ?_
  rintro e w15 ⟨rfl, hb15⟩
  have Hb15 := hide (Hb14.out.trans (hb15.mono Hb14.out.size))
  have Hc15 := hide (LitsP_below hb15 Hc14.out)
  obtain ⟨tb, toff, q1, q2, q3, q4, rfl, d0, d1, -⟩ := LitsP_below hb15 Ht14.out
  have d1' : w15.cell? ⟨tb, toff + 1, none⟩ = some (.int .i64 1) := d1
  clear hb15 d0 d1 HAl Hc14 Ht14 Hb14
  go_wp2_with fail
  refine (small_any _).mono ?_
  rintro e w16 ⟨n16, rfl, hg16, hb16⟩
  have Hb16 := hide (Hb15.out.trans (hb16.mono Hb15.out.size))
  have Hc16 := hide (LitsP_below hb16 Hc15.out)
  have HCk := hide (fun (o : Obj) (ho : ClausesP (w16.alloc o) [kC0] (some ⟨w16.heap.size, 0, none⟩)) => cCheck_any [0, 1] (some ⟨n16, 0, none⟩) 2 [kC0] (some ⟨w16.heap.size, 0, none⟩) 1 (w16.alloc o) (Ints_alloc o hg16) (by decide) (fun x hx => by rw [List.mem_singleton.1 hx]; decide) ho)
  rw [k_check] at HCk
  have HN : Hid (ClausesP (w16.alloc (.cells #[.slice (some ⟨w4.heap.size, 0, none⟩) 2 2] 26)) [kC0] (some ⟨w16.heap.size, 0, none⟩)) := ⟨w16.heap.size, 0, some ⟨w4.heap.size, 0, none⟩, 2, rfl, cell_new 0 rfl, LitsP_below (below1 _ _) Hc16.out, trivial⟩
  have HC1 := hide (HCk.out _ HN.out)
  clear hg16 hb16 d1' HCk HN Hc15 Hb15
  go_wp2_with fail
  refine HC1.out.mono ?_
  rintro e w17 ⟨rfl, hb17⟩
  have Hb17 := hide (Hb16.out.trans (((below1 w16 _).trans (hb17.mono (by simp))).mono Hb16.out.size))
  clear hb17 HC1
  go_wp2_with fail
  go_ret
  exact ⟨rfl, Hb17.out⟩
end Go.Proofs.YtbkedppkdhfpoabGreat
