/- Inferences and proofs as plain data: what they answer. No word of the program's memory here. Inferences: are the literals as its kind asks? The ways to take the literal of a clause of one. Of the two ways to take the literal of a clause of one, the one that is left. Inferences: the greatest number of a variable. -/
import Derived.Deep.RegionHeld3
import Derived.Laws.Cover1
import Derived.Test.YtbkedppkdhfpoabGreatJoined17
namespace Go.Proofs.YtbkedppkdhfpoabGreat
def infFactor (ar : List Int) (c : List Lit) (k : Nat) (s t u v : T) : List Lit × Int :=
  if (uniE ar s u).2 = 0 then (if fallS ar (uniE ar s u).1 s t = 0 then appliedS ar (uniE ar s u).1 (c.eraseIdx k ++ [(false, t, v)]) else ([], fallS ar (uniE ar s u).1 s t)) else ([], (uniE ar s u).2)
def greatT : T → Int
  | ⟨v, _, args⟩ => greatL args v
  where
  greatL : List T → Int → Int
  | [], m => m
  | a :: ts, m => greatL ts (max m (greatT a))
theorem greatT_eq (t : T) : greatT t = greatT.greatL t.args t.v := by cases t; rw [greatT]
def greatC : List Lit → Int → Int
  | [], m => m
  | x :: c, m => greatC c (max (max m (greatT x.2.1)) (greatT x.2.2))
def upV (d v : Int) : T := ⟨v + d, 0, []⟩
def raisedT (d : Int) (t : T) : T := sub (upV d) t
def raisedC (d : Int) (c : List Lit) : List Lit := c.map (fun x => (x.1, raisedT d x.2.1, raisedT d x.2.2))
def apartS (c d : List Lit) : List Lit × Int := if 1000 < greatC c 0 + greatC d 0 then ([], 2) else (if greatC c 0 = 0 then d else raisedC (greatC c 0) d, 0)
def infPut (ar : List Int) (c d : List Lit) (k m : Nat) (tu : Bool) (place : List Int) (p l r u v : T) : List Lit × Int :=
  if (uniE ar p l).2 = 0 then (if fallS ar (uniE ar p l).1 l r = 0 then (if fallS ar (uniE ar p l).1 u v = 0 then (if (putSpec ar u place r).2 = 0 then
    appliedS ar (uniE ar p l).1 (c.eraseIdx k ++ withF d m tu (putSpec ar u place r).1) else ([], (putSpec ar u place r).2)) else ([], fallS ar (uniE ar p l).1 u v)) else ([], fallS ar (uniE ar p l).1 l r)) else ([], (uniE ar p l).2)
def zeroL : Lit := (false, zeroT, zeroT)
abbrev clAt (ls : List (List Lit)) (n : Int) : List Lit := ls.getD n.toNat []
abbrev litAt (c : List Lit) (n : Int) : Lit := c.getD n.toNat zeroL
def thereS (ar : List Int) (ls : List (List Lit)) (i : Inf) : Bool :=
  hasN i.left ls.length && hasN i.la (clAt ls i.left).length && (if i.kind = 1 then true else if i.kind = 2 then hasN i.ra (clAt ls i.left).length else
    hasN i.right ls.length && hasN i.ra (clAt ls i.right).length && ((atSpec ar (side1 (litAt (clAt ls i.right) i.ra) i.rt) i.place).2 == 0))
def infErr (ar : List Int) (ls : List (List Lit)) (i : Inf) : Int :=
  if i.kind ≠ 1 ∧ i.kind ≠ 2 ∧ i.kind ≠ 3 then 6 else if thereS ar ls i = true then (if spareS i = true then 0 else 1) else 5
def partS (t : T) (place : List Int) : T := (atT t place).getD zeroT
def fitS (c d : List Lit) (i : Inf) : Bool :=
  if i.kind = 1 then !(litAt c i.la).1 else if i.kind = 2 then ((litAt c i.la).1 && (litAt c i.ra).1 && (i.la != i.ra)) else ((litAt c i.la).1 && ((partS (side1 (litAt d i.ra) i.rt) i.place).v == 0))
def comeS (ar : List Int) (c d : List Lit) (i : Inf) : List Lit × Int :=
  if i.kind = 1 then infSame ar c i.la.toNat (litAt c i.la) else if i.kind = 2 then
    infFactor ar c i.la.toNat (side1 (litAt c i.la) i.lt) (side2 (litAt c i.la) i.lt) (side1 (litAt c i.ra) i.rt) (side2 (litAt c i.ra) i.rt)
  else infPut ar c d i.la.toNat i.ra.toNat i.rt i.place (partS (side1 (litAt d i.ra) i.rt) i.place) (side1 (litAt c i.la) i.lt) (side2 (litAt c i.la) i.lt) (side1 (litAt d i.ra) i.rt) (side2 (litAt d i.ra) i.rt)
def inferS (ar : List Int) (ls : List (List Lit)) (i : Inf) : List Lit × Int :=
  if clausesErr ar ls = 0 then (if infErr ar ls i = 0 then (if fitS (clAt ls i.left) (clAt ls i.right) i = true then
    (if i.kind = 3 then (if (apartS (clAt ls i.left) (clAt ls i.right)).2 = 0 then comeS ar (clAt ls i.left) (apartS (clAt ls i.left) (clAt ls i.right)).1 i else ([], (apartS (clAt ls i.left) (clAt ls i.right)).2))
     else comeS ar (clAt ls i.left) (clAt ls i.right) i)
    else ([], 4)) else ([], infErr ar ls i)) else ([], clausesErr ar ls)
theorem greatL_le : ∀ (ts : List T) (m : Int), m ≤ greatT.greatL ts m ∧ ∀ a, a ∈ ts → greatT a ≤ greatT.greatL ts m := by
  intro ts
  induction ts with
  | nil => intro m; exact ⟨Int.le_refl m, fun a h => by cases h⟩
  | cons b ts ih =>
    intro m
    obtain ⟨h1, h2⟩ := ih (max m (greatT b))
    show m ≤ greatT.greatL ts (max m (greatT b)) ∧ ∀ a, a ∈ b :: ts → greatT a ≤ greatT.greatL ts (max m (greatT b))
    refine ⟨by omega, fun a ha => ?_⟩
    rcases List.mem_cons.1 ha with rfl | ha
    · omega
    · exact h2 a ha
theorem great_v (t : T) : t.v ≤ greatT t := by rw [greatT_eq]; exact (greatL_le t.args t.v).1
theorem great_arg {t a : T} (h : a ∈ t.args) : greatT a ≤ greatT t := by rw [greatT_eq t]; exact (greatL_le t.args t.v).2 a h
theorem greatC_mem : ∀ (c : List Lit) (m : Int), m ≤ greatC c m ∧ ∀ x, x ∈ c → greatT x.2.1 ≤ greatC c m ∧ greatT x.2.2 ≤ greatC c m := by
  intro c
  induction c with
  | nil => intro m; exact ⟨Int.le_refl m, fun a h => by cases h⟩
  | cons y c ih =>
    intro m
    obtain ⟨h1, h2⟩ := ih (max (max m (greatT y.2.1)) (greatT y.2.2))
    rw [greatC]
    refine ⟨by omega, fun x hx => ?_⟩
    rcases List.mem_cons.1 hx with rfl | hx
    · omega
    · exact h2 x hx
theorem raised_ok {ar : List Int} {d : Int} (hd : 0 ≤ d) : ∀ (N : Nat) (t : T), t.sz ≤ N → okP ar t → greatT t + d ≤ 1000 → okP ar (raisedT d t) ∧ (raisedT d t).sz = t.sz := by
  intro N
  induction N with
  | zero => intro t h; have := t.sz_pos; omega
  | succ N ih =>
    intro t h ht hg
    have hts := T.sz_eq t
    by_cases hv : t.v = 0
    · have hsz : ∀ (l : List T), (∀ a, a ∈ l → (raisedT d a).sz = a.sz) → T.sz.szL (l.map (raisedT d)) = T.sz.szL l := by
        intro l
        induction l with
        | nil => intro _; rfl
        | cons a l ihl =>
          intro hl
          rw [List.map_cons, T.szL_cons, T.szL_cons, hl a List.mem_cons_self, ihl (fun b hb => hl b (List.mem_cons_of_mem a hb))]
      have hA : ∀ a, a ∈ t.args → okP ar (raisedT d a) ∧ (raisedT d a).sz = a.sz := fun a ha => ih a (by have := arg_sz ha; omega) (okArg ht ha) (by have := great_arg ha; omega)
      rw [raisedT, sub_fn hv]
      refine ⟨okP_iff.2 ⟨?_, ?_⟩, ?_⟩
      · have := (okP_iff.1 ht).1
        rw [hv] at this
        simpa using this
      · refine okL_mem.2 fun b hb => ?_
        obtain ⟨a, ha, rfl⟩ := List.mem_map.1 hb
        exact (hA a ha).1
      · rw [T.sz_eq, hts]
        show 1 + T.sz.szL (t.args.map (raisedT d)) = _
        rw [hsz _ (fun a ha => (hA a ha).2)]
    · have h1 := ok_var ht hv
      have h2 := (okP_iff.1 ht).1
      have h3 := great_v t
      rw [partErr, if_pos hv] at h2
      have h4 : ¬ (t.v < 1 ∨ 1000 < t.v) := fun h5 => by rw [if_pos h5] at h2; cases h2
      rw [raisedT, sub_var hv, upV]
      refine ⟨okP_iff.2 ⟨?_, trivial⟩, ?_⟩
      · show partErr ar (t.v + d) 0 0 = 0
        rw [partErr, if_pos (by omega), if_neg (by omega)]; rfl
      · rw [T.sz_eq, hts, h1.2]
theorem great_range {ar : List Int} : ∀ (N : Nat) (t : T), t.sz ≤ N → okP ar t → 0 ≤ greatT t ∧ greatT t ≤ 1000 := by
  intro N
  induction N with
  | zero => intro t h; have := t.sz_pos; omega
  | succ N ih =>
    intro t h ht
    have h2 := (okP_iff.1 ht).1
    have hv : 0 ≤ t.v ∧ t.v ≤ 1000 := by
      by_cases hv : t.v = 0
      · omega
      · rw [partErr, if_pos hv] at h2
        have h4 : ¬ (t.v < 1 ∨ 1000 < t.v) := fun h5 => by rw [if_pos h5] at h2; cases h2
        omega
    have hL : ∀ (l : List T) (m : Int), (∀ a, a ∈ l → 0 ≤ greatT a ∧ greatT a ≤ 1000) → 0 ≤ m ∧ m ≤ 1000 → 0 ≤ greatT.greatL l m ∧ greatT.greatL l m ≤ 1000 := by
      intro l
      induction l with
      | nil => intro m _ hm; exact hm
      | cons a l ihl =>
        intro m hl hm
        have := hl a List.mem_cons_self
        exact ihl _ (fun b hb => hl b (List.mem_cons_of_mem a hb)) (by omega)
    rw [greatT_eq]
    exact hL _ _ (fun a ha => ih a (by have := arg_sz ha; omega) (okArg ht ha)) hv
theorem greatC_range {ar : List Int} : ∀ (c : List Lit) (m : Int), LitsOk ar c → 0 ≤ m ∧ m ≤ 1000 → 0 ≤ greatC c m ∧ greatC c m ≤ 1000 := by
  intro c
  induction c with
  | nil => intro m _ hm; exact hm
  | cons x c ih =>
    intro m h hm
    have hx := h x List.mem_cons_self
    have h1 := great_range (ar := ar) _ x.2.1 (Nat.le_refl _) hx.1.2
    have h2 := great_range (ar := ar) _ x.2.2 (Nat.le_refl _) hx.2.2
    rw [greatC]
    exact ih _ (fun y hy => h y (List.mem_cons_of_mem x hy)) (by omega)
theorem apart_ok {ar : List Int} {c d : List Lit} (hc : LitsOk ar c) (hd : LitsOk ar d) (h : (apartS c d).2 = 0) : LitsOk ar (apartS c d).1 ∧ (apartS c d).1.length = d.length := by
  rw [apartS] at h ⊢
  split at h
  · cases h
  · rename_i h1
    rw [if_neg h1]
    simp only
    by_cases h2 : greatC c 0 = 0
    · rw [if_pos h2]; exact ⟨hd, rfl⟩
    · rw [if_neg h2]
      refine ⟨fun y hy => ?_, by rw [raisedC, List.length_map]⟩
      rw [raisedC] at hy
      obtain ⟨x, hx, rfl⟩ := List.mem_map.1 hy
      have h0 := (greatC_range (ar := ar) c 0 hc ⟨by omega, by omega⟩).1
      have hm := (greatC_mem d 0).2 x hx
      have hok := hd x hx
      have a1 := raised_ok (ar := ar) h0 _ x.2.1 (Nat.le_refl _) hok.1.2 (by omega)
      have a2 := raised_ok (ar := ar) h0 _ x.2.2 (Nat.le_refl _) hok.2.2 (by omega)
      exact ⟨⟨by show (raisedT _ _).sz ≤ 120; rw [a1.2]; exact hok.1.1, a1.1⟩, ⟨by show (raisedT _ _).sz ≤ 120; rw [a2.2]; exact hok.2.1, a2.1⟩⟩
theorem hasN_at {α : Type} {l : List α} {n : Int} (z : α) (h : hasN n l.length = true) : ∃ k : Nat, n = (k : Int) ∧ n.toNat = k ∧ l[k]? = some (l.getD n.toNat z) := by
  rw [hasN] at h
  have h1 := of_decide_eq_true h
  refine ⟨n.toNat, by omega, rfl, ?_⟩
  rw [List.getD_eq_getElem?_getD, List.getElem?_eq_getElem (by omega)]; rfl
theorem cls_ok {ar : List Int} : ∀ {cs : List (List Lit)}, clErr ar cs = 0 → ∀ c, c ∈ cs → c.length ≤ 8 ∧ LitsOk ar c := by
  intro cs
  induction cs with
  | nil => intro _ c hc; cases hc
  | cons d cs ih =>
    intro h c hc
    rw [clErr] at h
    by_cases h1 : clauseErr ar d = 0
    · rw [if_pos h1] at h
      rcases List.mem_cons.1 hc with rfl | hc
      · rw [clauseErr] at h1
        split at h1
        · cases h1
        · exact ⟨by omega, litsErr_ok h1⟩
      · exact ih h c hc
    · rw [if_neg h1] at h; exact absurd h h1
theorem clauses_all {ar : List Int} {cs : List (List Lit)} (h : clausesErr ar cs = 0) : sigErr ar = 0 ∧ cs.length ≤ 60 ∧ ∀ c, c ∈ cs → c.length ≤ 8 ∧ LitsOk ar c := by
  rw [clausesErr] at h
  split at h
  · rename_i h1
    split at h
    · cases h
    · exact ⟨h1, by omega, cls_ok h⟩
  · rename_i h1; exact absurd h h1
end Go.Proofs.YtbkedppkdhfpoabGreat

namespace Go.Proofs.YtbkedppkdhfpoabGreat
open Go.RowKit
theorem Tryz.fieldT0 (a b : Int) (s : Value) (w : World) : (Instr.field 77 (.agg #[.int .i64 a, .int .i64 b, s]) 0).run Tryz.prog w = .ok (.int .i64 a) w := by kernel_rfl
attribute [local go_sem ↓] Go.wp_at_zero Go.wp_at_succ
set_option maxRecDepth 100000 in
set_option maxHeartbeats 1000000 in
theorem fit_any (c : List Lit) (ca : Option Addr) (cc : Nat) (d : List Lit) (da : Option Addr) (dc : Nat) (i : Inf) (pa : Option Addr) (pc : Nat) (w : World) (hkk : i.kind = 1 ∨ i.kind = 2 ∨ i.kind = 3) (hcl : c.length ≤ 1000) (hdl : d.length ≤ 1000) (hla : hasN i.la c.length = true) (h2 : i.kind = 2 → hasN i.ra c.length = true) (h3 : i.kind = 3 → hasN i.ra d.length = true ∧ ∃ p, atT (side1 (litAt d i.ra) i.rt) i.place = some p) (hpl : i.place.length ≤ 100000) (hp : Ints w i.place pa) (hc : LitsP w c ca) (hd : LitsP w d da) :
    Calls Tryz.prog 73 #[.slice ca c.length cc, .slice da d.length dc, infV i pa pc] w fun e w' => e = .returned (.bool (fitS c d i)) ∧ Below w.heap.size w w' := by
  obtain ⟨W1, hW1⟩ : ∃ W1, W1 = w.alloc (.cells #[.int .i64 i.kind, .int .i64 i.left, .int .i64 i.right, .int .i64 i.la, .int .i64 i.ra, .bool i.lt, .bool i.rt, .slice pa i.place.length pc] 47) := ⟨_, rfl⟩
  have hbW : Below w.heap.size w W1 := by rw [hW1]; exact below1 _ _
  have h8 : I8 W1 w.heap.size i pa pc := by rw [hW1]; exact I8.new _ rfl
  obtain ⟨k, hk, ek, hx⟩ := hasN_at zeroL hla
  have hltk := (List.getElem?_eq_some_iff.1 hx).1
  obtain ⟨b, off, rfl⟩ := LitsP_some hc (by omega)
  obtain ⟨x, hxx⟩ : ∃ x, x = litAt c i.la := ⟨_, rfl⟩
  have hx2 : c[k]? = some x := by rw [hx, hxx]
  obtain ⟨a1, c1, a2, c2, k0, -, -, -, -, -, -, -, -⟩ := LitsP_at (LitsP_below hbW hc) hx2
  have hkI : (k : Int) < c.length := by omega
  have hk0 : (0 : Int) ≤ k := by omega
  have Hxx := hide hxx
  have HW1 := hide hW1
  have HbW := hide hbW
  have H8 := hide h8
  obtain ⟨e0, -, -, e3, e4, -, e6, e7⟩ := h8
  have e3k : W1.cell? ⟨w.heap.size, 3, none⟩ = some (.int .i64 (k : Int)) := by rw [← hk]; exact e3
  clear hx2 hx hxx hbW
  rcases hkk with hkd | hkd | hkd
  · have ek1 : (i.kind == 1) = true := by simpa using hkd
    have Hsp : Hid (fitS c d i = !x.1) := by show _ = _; rw [fitS, if_pos hkd, Hxx.out]
    clear hW1 e3 e4 e6 e7 hk ek hkd
    go_enter Tryz.func73, Tryz.ntmps73
    go_upto_region 1 with fail
    rw [← HW1.out]
    go_wp2_with fail
    go_ret
    exact ⟨ret_bool Hsp.out.symm, HbW.out⟩
  · have ek1 : (i.kind == 1) = false := by rw [hkd]; rfl
    have ek2 : (i.kind == 2) = true := by simpa using hkd
    obtain ⟨m, hm, em, hy⟩ := hasN_at zeroL (h2 hkd)
    have hltm := (List.getElem?_eq_some_iff.1 hy).1
    obtain ⟨y, hyy⟩ : ∃ y, y = litAt c i.ra := ⟨_, rfl⟩
    have hy2 : c[m]? = some y := by rw [hy, hyy]
    obtain ⟨a3, c3, a4, c4, j0, -, -, -, -, -, -, -, -⟩ := LitsP_at (LitsP_below HbW.out hc) hy2
    have hmI : (m : Int) < c.length := by omega
    have hm0 : (0 : Int) ≤ m := by omega
    have e4m : W1.cell? ⟨w.heap.size, 4, none⟩ = some (.int .i64 (m : Int)) := by rw [← hm]; exact e4
    have Hsp : Hid (fitS c d i = (x.1 && y.1 && ((k : Int) != (m : Int)))) := by show _ = _; rw [fitS, if_neg (by omega), if_pos hkd, Hxx.out, hyy, ← hk, ← hm]
    clear hW1 e3 e4 e6 e7 hk ek hm em hy2 hyy hy hkd
    obtain ⟨X, hX⟩ : ∃ X, X = x.1 := ⟨_, rfl⟩
    obtain ⟨Y, hY⟩ : ∃ Y, Y = y.1 := ⟨_, rfl⟩
    obtain ⟨Z, hZ⟩ : ∃ Z, Z = ((k : Int) != (m : Int)) := ⟨_, rfl⟩
    rw [← hX] at k0 Hsp
    rw [← hY] at j0 Hsp
    rw [← hZ] at Hsp
    have hZ2 := hZ.symm
    clear hX hY hZ
    go_enter Tryz.func73, Tryz.ntmps73
    go_upto_region 1 with fail
    rw [← HW1.out]
    cases X <;> cases Y
    all_goals
      go_wp2_with fail
      go_ret
      exact ⟨ret_bool (by rw [Hsp.out]; simp), HbW.out⟩
  · have ek1 : (i.kind == 1) = false := by rw [hkd]; rfl
    have ek2 : (i.kind == 2) = false := by rw [hkd]; rfl
    obtain ⟨hra, p, hat⟩ := h3 hkd
    obtain ⟨m, hm, em, hy⟩ := hasN_at zeroL hra
    have hltm := (List.getElem?_eq_some_iff.1 hy).1
    obtain ⟨b3, off3, rfl⟩ := LitsP_some hd (by omega)
    obtain ⟨y, hyy⟩ : ∃ y, y = litAt d i.ra := ⟨_, rfl⟩
    have hy2 : d[m]? = some y := by rw [hy, hyy]
    obtain ⟨a3, c3, a4, c4, j0, j1, j2, j3, j4, j5, j6, i3, i4⟩ := LitsP_at (LitsP_below HbW.out hd) hy2
    have hmI : (m : Int) < d.length := by omega
    have hm0 : (0 : Int) ≤ m := by omega
    rw [← hyy] at hat
    have e4m : W1.cell? ⟨w.heap.size, 4, none⟩ = some (.int .i64 (m : Int)) := by rw [← hm]; exact e4
    have Hsp : Hid (fitS c d i = (x.1 && (p.v == 0))) := by show _ = _; rw [fitS, if_neg (by omega), if_neg (by omega), Hxx.out, ← hyy, partS, hat]; rfl
    have HSy := hide (fun (w' : World) => sides_any y a3 c3 a4 c4 i.rt w')
    have HL2 := hide (fun (w' : World) (hb : Below W1.heap.size W1 w') => (show w'.cell? ⟨w.heap.size, 4, none⟩ = some (.int .i64 (m : Int)) ∧ w'.cell? ⟨w.heap.size, 6, none⟩ = some (.bool i.rt) ∧ w'.cell? ⟨b3, off3 + m * 7, none⟩ = some (.bool y.1) ∧ w'.cell? ⟨b3, off3 + m * 7 + 1, none⟩ = some (.int .i64 y.2.1.v) ∧ w'.cell? ⟨b3, off3 + m * 7 + 2, none⟩ = some (.int .i64 y.2.1.f) ∧ w'.cell? ⟨b3, off3 + m * 7 + 3, none⟩ = some (.slice a3 y.2.1.args.length c3) ∧ w'.cell? ⟨b3, off3 + m * 7 + 4, none⟩ = some (.int .i64 y.2.2.v) ∧ w'.cell? ⟨b3, off3 + m * 7 + 5, none⟩ = some (.int .i64 y.2.2.f) ∧ w'.cell? ⟨b3, off3 + m * 7 + 6, none⟩ = some (.slice a4 y.2.2.args.length c4) from
      ⟨cellB hb e4m, cellB hb e6, cellB hb j0, cellB hb j1, cellB hb j2, cellB hb j3, cellB hb j4, cellB hb j5, cellB hb j6⟩))
    obtain ⟨u, hu1⟩ : ∃ u, u = side1 y i.rt := ⟨_, rfl⟩
    obtain ⟨v, hv1⟩ : ∃ v, v = side2 y i.rt := ⟨_, rfl⟩
    obtain ⟨ua, hua⟩ : ∃ ua, ua = if i.rt then a4 else a3 := ⟨_, rfl⟩
    obtain ⟨uc, huc⟩ : ∃ uc, uc = if i.rt then c4 else c3 := ⟨_, rfl⟩
    obtain ⟨va, hva⟩ : ∃ va, va = if i.rt then a3 else a4 := ⟨_, rfl⟩
    obtain ⟨vc, hvc⟩ : ∃ vc, vc = if i.rt then c3 else c4 := ⟨_, rfl⟩
    rw [← hu1, ← hv1, ← hua, ← huc, ← hva, ← hvc] at HSy
    rw [← hu1] at hat
    have Hju : Hid (InL W1 u.args ua) := by show InL _ _ _; rw [hu1, hua]; exact (side_in _ i3 i4).1
    have HPt := hide (fun (w' : World) (hb : Below W1.heap.size W1 w') => part_any u p ua uc i.place pa pc w' hat hpl (InP_below hb Hju.out) (Ints_below (HbW.out.trans (hb.mono HbW.out.size)) hp))
    have He7 := hide e7
    obtain ⟨X, hX⟩ : ∃ X, X = x.1 := ⟨_, rfl⟩
    rw [← hX] at k0 Hsp
    clear hX hu1 hv1 hua huc hva hvc hy2 hyy hy hm em hra hk ek hW1 e3 e4 e4m e6 e7 j0 j1 j2 j3 j4 j5 j6 i3 i4 hat hkd
    go_enter Tryz.func73, Tryz.ntmps73
    go_upto_region 1 with fail
    rw [← HW1.out]
    go_upto_region 7 with fail
    clear k0 e0 e3k
    have hL := HL2.out
    have b0 := fun (w' : World) (hb : Below W1.heap.size W1 w') => (hL w' hb).1
    have b1 := fun (w' : World) (hb : Below W1.heap.size W1 w') => (hL w' hb).2.1
    have b2 := fun (w' : World) (hb : Below W1.heap.size W1 w') => (hL w' hb).2.2.1
    have b3 := fun (w' : World) (hb : Below W1.heap.size W1 w') => (hL w' hb).2.2.2.1
    have b4 := fun (w' : World) (hb : Below W1.heap.size W1 w') => (hL w' hb).2.2.2.2.1
    have b5 := fun (w' : World) (hb : Below W1.heap.size W1 w') => (hL w' hb).2.2.2.2.2.1
    have b6 := fun (w' : World) (hb : Below W1.heap.size W1 w') => (hL w' hb).2.2.2.2.2.2.1
    have b7 := fun (w' : World) (hb : Below W1.heap.size W1 w') => (hL w' hb).2.2.2.2.2.2.2.1
    have b8 := fun (w' : World) (hb : Below W1.heap.size W1 w') => (hL w' hb).2.2.2.2.2.2.2.2
    have hbr := Below.refl W1.heap.size W1
    clear hL
    go_cut [8, 9] (fun p q wc => ∃ Bp Bq, p = .pointer (some ⟨Bp, 0, none⟩) ∧ q = .pointer (some ⟨Bq, 0, none⟩) ∧ Hid (TwoV W1 wc Bp Bq (.int .i64 u.v) (.int .i64 u.f) (.slice ua u.args.length uc) (.int .i64 v.v) (.int .i64 v.f) (.slice va v.args.length vc)))
    case first =>
      go_region_held3 (fun w' => Below W1.heap.size W1 w') ((first | with_reducible exact HK2.out _ _ | with_reducible exact HK1.out _ | ((repeat' (first | with_reducible exact HbA.out | with_reducible exact HK1.out _ | with_reducible exact HK2.out _ _ | with_reducible exact Below.refl _ _ | (with_reducible refine Below.drew ?_) | (with_reducible refine Below.setCell ?_ ?_ _; rotate_left; focus (first | exact Nat.le_refl _ | exact hzA | exact hn3 | (show W1.heap.size ≤ _; omega) | (simp; omega))) | (refine Below.alloc ?_ ?_ _; rotate_left; focus (first | omega | (simp; omega) | (simp; done))))); done) | go_keep)) ((first
          | (go_at_call 134
             with_reducible refine (HSy.out _).mono ?_
             rintro e wA ⟨rfl, hbA⟩
             have HbA : Hid (Below W1.heap.size W1 wA) := by
               refine Below.trans (b := _) ?_ (hbA.mono ?_)
               · repeat' (first | with_reducible exact Below.refl _ _ | (with_reducible refine Below.drew ?_) | (refine Below.alloc ?_ ?_ _; rotate_left; focus (first | omega | (simp; omega) | (simp; done))))
               · first | omega | (simp; omega) | (simp; done)
             have HK1 := hide (fun o => HbA.out.trans ((below1 wA o).mono HbA.out.size))
             have HK2 := hide (fun o1 o2 => HbA.out.trans ((below2 wA o1 o2).mono HbA.out.size))
             have hzA := HbA.out.size
             first
               | (have h3a := three_at hbA (heap_alloc_old W1 _ _)
                  have h3b := three_at hbA (heap_alloc_two W1 _ _)
                  have hz9 : W1.heap.size + 1 < wA.heap.size := by
                    have h9 := hbA.size
                    simp at h9
                    omega
                  have hn1 : W1.heap.size ≠ W1.heap.size + 1 := by omega
                  have hn2 : W1.heap.size + 1 ≠ W1.heap.size := by omega
                  have hn3 : W1.heap.size ≤ W1.heap.size + 1 := by omega
                  generalize hH2 : W1.heap.size + 1 = H2 at h3b hz9 hn1 hn2 hn3 ⊢
                  have H3a := hide h3a
                  have H3b := hide h3b
                  obtain ⟨_, _, _, _, _, _⟩ := h3a
                  obtain ⟨_, _, _, _, _, _⟩ := h3b
                  clear hH2)
               | (have h3a := three_at hbA (heap_alloc_self W1 _)
                  have h3b := fun o => h3a.alloc o
                  have r0 := fun o => (h3b o).c0
                  have r1 := fun o => (h3b o).c1
                  have r2 := fun o => (h3b o).c2
                  have r3 := fun o => (h3b o).f0
                  have r4 := fun o => (h3b o).f1
                  have r5 := fun o => (h3b o).f2
                  have hz9 : W1.heap.size < wA.heap.size := by
                    have h9 := hbA.size
                    simp at h9
                    omega
                  have hn1 : W1.heap.size ≠ wA.heap.size := by omega
                  have hn2 : wA.heap.size ≠ W1.heap.size := by omega
                  have H3a := hide h3a
                  obtain ⟨_, _, _, _, _, _⟩ := h3a
                  clear h3b)
               | skip
             clear b0 b1 b2 b3 b4 b5 b6 b7 b8 hbr hbA)))
      all_goals (go_wp2_with fail; go_meet)
      all_goals first
        | with_reducible exact ⟨_, _, rfl, rfl, hide (twoV_new HbA.out _ _ _ _ _ _ _ _)⟩
        | with_reducible exact ⟨_, _, rfl, rfl, hide (TwoV.swap (twoV_new HbA.out _ _ _ _ _ _ _ _))⟩
        | with_reducible exact ⟨_, _, rfl, rfl, hide (twoV_one HbA.out (Nat.le_refl _) H3a.out _ _ _ _ _ _ _)⟩
        | with_reducible exact ⟨_, _, rfl, rfl, hide (TwoV.swap (twoV_one HbA.out (Nat.le_refl _) H3a.out _ _ _ _ _ _ _))⟩
        | with_reducible exact ⟨_, _, rfl, rfl, hide (twoV_two HbA.out (Nat.le_refl _) hn3 hn1 H3a.out H3b.out _ _ _ _ _ _)⟩
        | with_reducible exact ⟨_, _, rfl, rfl, hide (twoV_two HbA.out hn3 (Nat.le_refl _) hn2 H3b.out H3a.out _ _ _ _ _ _)⟩
    case rest =>
      obtain ⟨B7, B8, rfl, rfl, HX⟩ := hcut
      clear b0 b1 b2 b3 b4 b5 b6 b7 b8 hbr
      obtain ⟨V3, hV3⟩ : ∃ V3, V3 = wc := ⟨_, rfl⟩
      rw [← hV3] at HX ⊢
      clear hV3
      have HB3 := hide HX.out.below
      have HBw := hide (HbW.out.trans (HB3.out.mono HbW.out.size))
      have HA1 := hide (HPt.out V3 HB3.out)
      have e7 := cell_below HB3.out He7.out
      obtain ⟨p0, p1, p2, _, _, _⟩ := HX.out.one
      clear HPt
      cases X
      · go_wp2_with fail
        go_ret
        exact ⟨ret_bool Hsp.out.symm, HBw.out⟩
      · go_wp2_with fail
        refine HA1.out.mono ?_
        rintro e w1 ⟨xa, xc, he, _, hb1⟩
        obtain rfl : e = .returned (.agg #[.int .i64 p.v, .int .i64 p.f, .slice xa p.args.length xc]) := he
        have Hf := hide (HBw.out.trans (hb1.mono HBw.out.size))
        clear hb1 HA1
        have hfd := Tryz.fieldT0 p.v p.f (.slice xa p.args.length xc)
        go_wp2_with fail
        go_ret
        exact ⟨ret_bool Hsp.out.symm, Hf.out⟩
end Go.Proofs.YtbkedppkdhfpoabGreat

namespace Go.Proofs.YtbkedppkdhfpoabGreat
open Go.RowKit
theorem infoW : (Tryz.prog.info? 232).map (fun i => (i.zero, i.size, i.bytes)) = some (some (.agg #[.int .i64 0, .bool false]), 2, 16) := by kernel_rfl
attribute [local go_sem ↓] Go.wp_at_zero Go.wp_at_succ
set_option maxRecDepth 100000 in
set_option maxHeartbeats 400000 in
theorem either_one (ca : Option Addr) (cc : Nat) (w : World) : Calls Tryz.prog 149 #[.slice ca 1 cc] w fun e w' =>
    ∃ g cap, e = .returned (.slice (some ⟨g, 0, none⟩) 2 cap) ∧ w'.ownsRow w.heap.size 232 2 (.slice (some ⟨g, 0, none⟩) 2 cap) 2 [.int .i64 0, .bool false, .int .i64 0, .bool true] ∧ Below w.heap.size w w' := by
  obtain ⟨ti, hi, hzz⟩ := Option.map_eq_some_iff.1 infoW
  simp only [Prod.mk.injEq] at hzz
  obtain ⟨hz0, hz1, hz2⟩ := hzz
  go_enter Tryz.func149, Tryz.ntmps149
  go_wp2_with fail
  go_loopw [3, 7] (fun s i wr => (i = .int .i64 0 ∧ s = .slice none 0 0 ∧ wr = w) ∨ (i = .int .i64 1 ∧ ∃ g cap, s = .slice (some ⟨g, 0, none⟩) 2 cap ∧ Hid (wr.ownsRow w.heap.size 232 2 (.slice (some ⟨g, 0, none⟩) 2 cap) 2 [.int .i64 0, .bool false, .int .i64 0, .bool true] ∧ Below w.heap.size w wr))) (fun _ i _ => 1 - (intOf i).toNat)
  case atStart => exact Or.inl ⟨rfl, rfl, rfl⟩
  case round =>
    rcases hrel with ⟨rfl, rfl, rfl⟩ | ⟨rfl, g, cap, rfl, HO⟩
    · go_wp2_with (at_builtin; go_must (refine wpList_append_lies _ rfl (.tmp 10) (.tmp 15) 185 rfl wr.heap.size 232 ti (.agg #[.int .i64 0, .bool false]) 2 16 Go.Proofs.Tryz.underlying185 hi hz0 hz1 hz2 rfl (by decide) (.slice none 0 0) 0 [] rfl ⟨rfl, Or.inl ⟨rfl, rfl⟩⟩ ⟨wr.heap.size, 0, none⟩ 2 2 [.int .i64 0, .bool false, .int .i64 0, .bool true] rfl rfl (World.news_of_block (heap_alloc_new wr _)) (by simp [Value.oneCell']) (by decide) (by unfold maxLen; omega) (by omega) (by simp) _ rfl ?_))
      intro g capg wD hownD hgrD hatD hltD
      have hgr2 : (wr.alloc (.cells #[.int .i64 0, .bool false, .int .i64 0, .bool true] 232)).grownBy wD none := hgrD
      have HD : Hid (wD.ownsRow wr.heap.size 232 2 (.slice (some ⟨g, 0, none⟩) 2 capg) 2 [.int .i64 0, .bool false, .int .i64 0, .bool true] ∧ Below wr.heap.size wr wD) := hide ⟨hownD, by
        refine ⟨hgr2.os, hgr2.tape, hgr2.output, Nat.le_trans (below1 wr _).size hgr2.size, fun k hk => ?_⟩
        rw [hgr2.block k (by simp; omega) (by simp)]
        exact (below1 wr _).block k hk⟩
      clear hownD hgrD hgr2 hatD hltD
      go_wp2_with fail
      go_roundw
      case rel => exact Or.inr ⟨rfl, g, capg, rfl, HD⟩
      case measure => simp [intOf]
    · go_wp2_with fail
      go_ret
      exact ⟨g, cap, rfl, HO.out⟩
set_option maxRecDepth 100000 in
set_option maxHeartbeats 1000000 in
theorem falling1_any (ar : List Int) (ga : Option Addr) (gcap : Nat) (x : Lit) (b off cc Bc Bg : Nat) (tu : Bool) (w : World) (hg : Ints w ar ga) (hx : LitsP w [x] (some ⟨b, off, none⟩)) (hc : w.cell? ⟨Bc, 0, none⟩ = some (.slice (some ⟨b, off, none⟩) 1 cc)) (hgb : w.cell? ⟨Bg, 0, none⟩ = some (.slice ga ar.length gcap)) :
    Calls Tryz.prog 189 #[.agg #[.int .i64 0, .bool tu], .pointer (some ⟨Bc, 0, none⟩), .pointer (some ⟨Bg, 0, none⟩)] w fun e w' => e = .returned (.bool (grSpec ar (side2 x tu) (side1 x tu))) ∧ Below w.heap.size w w' := by
  obtain ⟨W1, hW1⟩ : ∃ W1, W1 = w.alloc (.cells #[.int .i64 0, .bool tu] 232) := ⟨_, rfl⟩
  have HbW : Hid (Below w.heap.size w W1) := hide (by rw [hW1]; exact below1 _ _)
  have e0 : W1.cell? ⟨w.heap.size, 0, none⟩ = some (.int .i64 0) := by rw [hW1]; exact cell_new 0 rfl
  have e1 : W1.cell? ⟨w.heap.size, 1, none⟩ = some (.bool tu) := by rw [hW1]; exact cell_new 1 rfl
  have ec := cell_below HbW.out hc
  have HW1 := hide hW1
  obtain ⟨a3, c3, a4, c4, j0, j1, j2, j3, j4, j5, j6, i3, i4⟩ := LitsP_at (k := 0) (LitsP_below HbW.out hx) rfl
  simp only [Nat.zero_mul, Nat.add_zero] at j0 j1 j2 j3 j4 j5 j6
  have HSy := hide (fun (w' : World) => sides_any x a3 c3 a4 c4 tu w')
  have HL2 := hide (fun (w' : World) (hb : Below W1.heap.size W1 w') => (show w'.cell? ⟨w.heap.size, 0, none⟩ = some (.int .i64 0) ∧ w'.cell? ⟨w.heap.size, 1, none⟩ = some (.bool tu) ∧ w'.cell? ⟨b, off, none⟩ = some (.bool x.1) ∧ w'.cell? ⟨b, off + 1, none⟩ = some (.int .i64 x.2.1.v) ∧ w'.cell? ⟨b, off + 2, none⟩ = some (.int .i64 x.2.1.f) ∧ w'.cell? ⟨b, off + 3, none⟩ = some (.slice a3 x.2.1.args.length c3) ∧ w'.cell? ⟨b, off + 4, none⟩ = some (.int .i64 x.2.2.v) ∧ w'.cell? ⟨b, off + 5, none⟩ = some (.int .i64 x.2.2.f) ∧ w'.cell? ⟨b, off + 6, none⟩ = some (.slice a4 x.2.2.args.length c4) ∧ w'.cell? ⟨Bc, 0, none⟩ = some (.slice (some ⟨b, off, none⟩) 1 cc) from
    ⟨cellB hb e0, cellB hb e1, cellB hb j0, cellB hb j1, cellB hb j2, cellB hb j3, cellB hb j4, cellB hb j5, cellB hb j6, cellB hb ec⟩))
  obtain ⟨u, hu1⟩ : ∃ u, u = side1 x tu := ⟨_, rfl⟩
  obtain ⟨v, hv1⟩ : ∃ v, v = side2 x tu := ⟨_, rfl⟩
  obtain ⟨ua, hua⟩ : ∃ ua, ua = if tu then a4 else a3 := ⟨_, rfl⟩
  obtain ⟨uc, huc⟩ : ∃ uc, uc = if tu then c4 else c3 := ⟨_, rfl⟩
  obtain ⟨va, hva⟩ : ∃ va, va = if tu then a3 else a4 := ⟨_, rfl⟩
  obtain ⟨vc, hvc⟩ : ∃ vc, vc = if tu then c3 else c4 := ⟨_, rfl⟩
  rw [← hu1, ← hv1, ← hua, ← huc, ← hva, ← hvc] at HSy
  rw [← hu1, ← hv1]
  have Hju : Hid (InL W1 u.args ua ∧ InL W1 v.args va) := by show _ ∧ _; rw [hu1, hua, hv1, hva]; exact side_in _ i3 i4
  have HG := hide (fun (w' : World) (hb : Below W1.heap.size W1 w') => Greater_any ar ga gcap v va vc u ua uc w' (Ints_below (HbW.out.trans (hb.mono HbW.out.size)) hg) (InP_below hb Hju.out.2) (InP_below hb Hju.out.1))
  have Hgb := hide (cell_below HbW.out hgb)
  clear hu1 hv1 hua huc hva hvc j0 j1 j2 j3 j4 j5 j6 i3 i4 e0 e1 ec hx hc hgb hW1
  go_enter Tryz.func189, Tryz.ntmps189
  go_upto_region 1 with fail
  rw [← HW1.out]
  have hL := HL2.out
  have b0 := fun (w' : World) (hb : Below W1.heap.size W1 w') => (hL w' hb).1
  have b1 := fun (w' : World) (hb : Below W1.heap.size W1 w') => (hL w' hb).2.1
  have b2 := fun (w' : World) (hb : Below W1.heap.size W1 w') => (hL w' hb).2.2.1
  have b3 := fun (w' : World) (hb : Below W1.heap.size W1 w') => (hL w' hb).2.2.2.1
  have b4 := fun (w' : World) (hb : Below W1.heap.size W1 w') => (hL w' hb).2.2.2.2.1
  have b5 := fun (w' : World) (hb : Below W1.heap.size W1 w') => (hL w' hb).2.2.2.2.2.1
  have b6 := fun (w' : World) (hb : Below W1.heap.size W1 w') => (hL w' hb).2.2.2.2.2.2.1
  have b7 := fun (w' : World) (hb : Below W1.heap.size W1 w') => (hL w' hb).2.2.2.2.2.2.2.1
  have b8 := fun (w' : World) (hb : Below W1.heap.size W1 w') => (hL w' hb).2.2.2.2.2.2.2.2.1
  have b9 := fun (w' : World) (hb : Below W1.heap.size W1 w') => (hL w' hb).2.2.2.2.2.2.2.2.2
  have hbr := Below.refl W1.heap.size W1
  clear hL
  go_cut [5, 6] (fun p q wc => ∃ Bp Bq, p = .pointer (some ⟨Bp, 0, none⟩) ∧ q = .pointer (some ⟨Bq, 0, none⟩) ∧ Hid (TwoV W1 wc Bp Bq (.int .i64 u.v) (.int .i64 u.f) (.slice ua u.args.length uc) (.int .i64 v.v) (.int .i64 v.f) (.slice va v.args.length vc)))
  case first =>
    go_region_held3 (fun w' => Below W1.heap.size W1 w') ((first | with_reducible exact HK2.out _ _ | with_reducible exact HK1.out _ | ((repeat' (first | with_reducible exact HbA.out | with_reducible exact HK1.out _ | with_reducible exact HK2.out _ _ | with_reducible exact Below.refl _ _ | (with_reducible refine Below.drew ?_) | (with_reducible refine Below.setCell ?_ ?_ _; rotate_left; focus (first | exact Nat.le_refl _ | exact hzA | exact hn3 | (show W1.heap.size ≤ _; omega) | (simp; omega))) | (refine Below.alloc ?_ ?_ _; rotate_left; focus (first | omega | (simp; omega) | (simp; done))))); done) | go_keep)) ((first
        | (go_at_call 134
           with_reducible refine (HSy.out _).mono ?_
           rintro e wA ⟨rfl, hbA⟩
           have HbA : Hid (Below W1.heap.size W1 wA) := by
             refine Below.trans (b := _) ?_ (hbA.mono ?_)
             · repeat' (first | with_reducible exact Below.refl _ _ | (with_reducible refine Below.drew ?_) | (refine Below.alloc ?_ ?_ _; rotate_left; focus (first | omega | (simp; omega) | (simp; done))))
             · first | omega | (simp; omega) | (simp; done)
           have HK1 := hide (fun o => HbA.out.trans ((below1 wA o).mono HbA.out.size))
           have HK2 := hide (fun o1 o2 => HbA.out.trans ((below2 wA o1 o2).mono HbA.out.size))
           have hzA := HbA.out.size
           first
             | (have h3a := three_at hbA (heap_alloc_old W1 _ _)
                have h3b := three_at hbA (heap_alloc_two W1 _ _)
                have hz9 : W1.heap.size + 1 < wA.heap.size := by
                  have h9 := hbA.size
                  simp at h9
                  omega
                have hn1 : W1.heap.size ≠ W1.heap.size + 1 := by omega
                have hn2 : W1.heap.size + 1 ≠ W1.heap.size := by omega
                have hn3 : W1.heap.size ≤ W1.heap.size + 1 := by omega
                generalize hH2 : W1.heap.size + 1 = H2 at h3b hz9 hn1 hn2 hn3 ⊢
                have H3a := hide h3a
                have H3b := hide h3b
                obtain ⟨_, _, _, _, _, _⟩ := h3a
                obtain ⟨_, _, _, _, _, _⟩ := h3b
                clear hH2)
             | (have h3a := three_at hbA (heap_alloc_self W1 _)
                have h3b := fun o => h3a.alloc o
                have r0 := fun o => (h3b o).c0
                have r1 := fun o => (h3b o).c1
                have r2 := fun o => (h3b o).c2
                have r3 := fun o => (h3b o).f0
                have r4 := fun o => (h3b o).f1
                have r5 := fun o => (h3b o).f2
                have hz9 : W1.heap.size < wA.heap.size := by
                  have h9 := hbA.size
                  simp at h9
                  omega
                have hn1 : W1.heap.size ≠ wA.heap.size := by omega
                have hn2 : wA.heap.size ≠ W1.heap.size := by omega
                have H3a := hide h3a
                obtain ⟨_, _, _, _, _, _⟩ := h3a
                clear h3b)
             | skip
           clear b0 b1 b2 b3 b4 b5 b6 b7 b8 b9 hbr hbA)))
    all_goals (go_wp2_with fail; go_meet)
    all_goals first
      | with_reducible exact ⟨_, _, rfl, rfl, hide (twoV_new HbA.out _ _ _ _ _ _ _ _)⟩
      | with_reducible exact ⟨_, _, rfl, rfl, hide (TwoV.swap (twoV_new HbA.out _ _ _ _ _ _ _ _))⟩
      | with_reducible exact ⟨_, _, rfl, rfl, hide (twoV_one HbA.out (Nat.le_refl _) H3a.out _ _ _ _ _ _ _)⟩
      | with_reducible exact ⟨_, _, rfl, rfl, hide (TwoV.swap (twoV_one HbA.out (Nat.le_refl _) H3a.out _ _ _ _ _ _ _))⟩
      | with_reducible exact ⟨_, _, rfl, rfl, hide (twoV_two HbA.out (Nat.le_refl _) hn3 hn1 H3a.out H3b.out _ _ _ _ _ _)⟩
      | with_reducible exact ⟨_, _, rfl, rfl, hide (twoV_two HbA.out hn3 (Nat.le_refl _) hn2 H3b.out H3a.out _ _ _ _ _ _)⟩
  case rest =>
    obtain ⟨B7, B8, rfl, rfl, HX⟩ := hcut
    clear b0 b1 b2 b3 b4 b5 b6 b7 b8 b9 hbr
    obtain ⟨V3, hV3⟩ : ∃ V3, V3 = wc := ⟨_, rfl⟩
    rw [← hV3] at HX ⊢
    clear hV3
    have HB3 := hide HX.out.below
    have HBw := hide (HbW.out.trans (HB3.out.mono HbW.out.size))
    have HA1 := hide (HG.out V3 HB3.out)
    have g0 := cell_below HB3.out Hgb.out
    obtain ⟨p0, p1, p2, _, _, _⟩ := HX.out.one
    obtain ⟨q0, q1, q2, _, _, _⟩ := HX.out.two
    clear HG
    go_wp2_with fail
    refine HA1.out.mono ?_
    rintro e w1 ⟨rfl, hb1⟩
    have Hf := hide (HBw.out.trans (hb1.mono HBw.out.size))
    clear hb1 HA1
    go_wp2_with fail
    go_ret
    exact ⟨rfl, Hf.out⟩
end Go.Proofs.YtbkedppkdhfpoabGreat

namespace Go.Proofs.YtbkedppkdhfpoabGreat
open Go.RowKit
attribute [local go_sem ↓] Go.wp_at_zero Go.wp_at_succ
set_option maxRecDepth 100000 in
set_option maxHeartbeats 400000 in
theorem index_way (g cap Bc Bg : Nat) (w : World) (h0 : w.cell? ⟨g, 0, none⟩ = some (.int .i64 0)) (h1 : w.cell? ⟨g, 1, none⟩ = some (.bool false)) (h2 : w.cell? ⟨g, 2, none⟩ = some (.int .i64 0)) (h3 : w.cell? ⟨g, 3, none⟩ = some (.bool true))
    (hp : ∀ (tu : Bool) (w' : World), Below w.heap.size w w' → Calls Tryz.prog 189 #[.agg #[.int .i64 0, .bool tu], .pointer (some ⟨Bc, 0, none⟩), .pointer (some ⟨Bg, 0, none⟩)] w' fun e w'' => e = .returned (.bool tu) ∧ Below w'.heap.size w' w'') :
    Calls Tryz.prog 232 #[.slice (some ⟨g, 0, none⟩) 2 cap, .func (.func 189) #[] #[.pointer (some ⟨Bc, 0, none⟩), .pointer (some ⟨Bg, 0, none⟩)]] w fun e w' => e = .returned (.int .i64 1) ∧ Below w.heap.size w w' := by
  have HP := hide hp
  have H2 := hide h2
  have H3 := hide h3
  clear hp h2 h3
  go_enter Tryz.func232, Tryz.ntmps232
  go_wp2_with fail
  go_loopw [8] (fun i wr => (i = .int .i64 0 ∧ wr = w) ∨ (i = .int .i64 1 ∧ Hid (Below w.heap.size w wr))) (fun i _ => 1 - (intOf i).toNat)
  case atStart => exact Or.inl ⟨rfl, rfl⟩
  case round =>
    rcases hrel with ⟨rfl, rfl⟩ | ⟨rfl, HB⟩
    · go_wp2_with fail
      refine (HP.out false wr (Below.refl _ _)).mono ?_
      rintro e w1 ⟨rfl, hb1⟩
      have HB1 := hide hb1
      clear hb1
      go_wp2_with fail
      go_roundw
      case rel => exact Or.inr ⟨rfl, HB1⟩
      case measure => simp [intOf]
    · have k2 := cell_below HB.out H2.out
      have k3 := cell_below HB.out H3.out
      go_wp2_with fail
      refine (HP.out true wr HB.out).mono ?_
      rintro e w1 ⟨rfl, hb1⟩
      have HB1 := hide (HB.out.trans (hb1.mono HB.out.size))
      clear hb1
      go_wp2_with fail
      go_ret
      exact ⟨rfl, HB1.out⟩
set_option maxRecDepth 100000 in
set_option maxHeartbeats 400000 in
theorem delete_way (g cap Bc Bg : Nat) (w : World) (hown : w.ownsRow g 232 2 (.slice (some ⟨g, 0, none⟩) 2 cap) 2 [.int .i64 0, .bool false, .int .i64 0, .bool true])
    (hp : ∀ (tu : Bool) (w' : World), Below w.heap.size w w' → Calls Tryz.prog 189 #[.agg #[.int .i64 0, .bool tu], .pointer (some ⟨Bc, 0, none⟩), .pointer (some ⟨Bg, 0, none⟩)] w' fun e w'' => e = .returned (.bool tu) ∧ Below w'.heap.size w' w'') :
    Calls Tryz.prog 188 #[.slice (some ⟨g, 0, none⟩) 2 cap, .func (.func 189) #[] #[.pointer (some ⟨Bc, 0, none⟩), .pointer (some ⟨Bg, 0, none⟩)]] w fun e w' => e = .returned (.slice (some ⟨g, 0, none⟩) 1 cap) ∧ w'.cell? ⟨g, 0, none⟩ = some (.int .i64 0) ∧ w'.cell? ⟨g, 1, none⟩ = some (.bool false) ∧ Below g w w' := by
  have hc2 : 2 ≤ cap := by
    rcases hown.2 with ⟨_, h0⟩ | ⟨g', cap', cur, he, _, _, hc, _⟩
    · omega
    · simp only [Value.slice.injEq, Option.some.injEq, Addr.mk.injEq] at he
      omega
  have hc1 : ¬ cap = 1 := by omega
  obtain ⟨g', cap', he, -, hlt, hcell⟩ := own_cellsN hown (by omega)
  simp only [Value.slice.injEq, Option.some.injEq, Addr.mk.injEq] at he
  obtain ⟨⟨rfl, -, -⟩, -, rfl⟩ := he
  have HI := hide (index_way g cap Bc Bg w (hcell 0 _ rfl) (hcell 1 _ rfl) (hcell 2 _ rfl) (hcell 3 _ rfl) hp)
  have HO := hide hown
  clear hp hown hcell
  go_enter Tryz.func188, Tryz.ntmps188
  go_wp2_with fail
  refine HI.out.mono ?_
  rintro e w1 ⟨rfl, hb1⟩
  have HB1 := hide hb1
  clear hb1 HI
  go_wp2_with fail
  go_loopw [5, 6] (fun k i wr => k = .int .i64 1 ∧ i = .int .i64 2 ∧ wr = w1) (fun _ _ _ => 0)
  case atStart => exact ⟨rfl, rfl, rfl⟩
  case round =>
    obtain ⟨rfl, rfl, rfl⟩ := hrel
    have hO1 := own_same HO.out (w' := wr) (fun g2 hg2 => HB1.out.block g2 (own_lt HO.out g2 hg2).2)
    obtain ⟨g', cap', he, -, -, hcell⟩ := own_cellsN hO1 (by omega)
    simp only [Value.slice.injEq, Option.some.injEq, Addr.mk.injEq] at he
    obtain ⟨⟨rfl, -, -⟩, -, rfl⟩ := he
    have hfz : ∀ j, wr.frozen? ⟨g, j, none⟩ = false := by
      intro j
      rcases hO1.2 with ⟨_, h0⟩ | ⟨g', cap', cur, he, _, hh, _⟩
      · omega
      · simp only [Value.slice.injEq, Option.some.injEq, Addr.mk.injEq] at he
        obtain ⟨⟨rfl, -, -⟩, -, rfl⟩ := he
        simp [World.frozen?, hh]
    have d0 := hcell 0 _ rfl
    have d1 := hcell 1 _ rfl
    have hcl : ∀ ty, (Builtin.clear_ #[185] ty #[.slice (some ⟨g, 2, none⟩) 1 (cap - 1)]).run Tryz.prog wr = .ok (.tuple #[]) ((wr.setCell ⟨g, 2, none⟩ (.int .i64 0)).setCell ⟨g, 3, none⟩ (.bool false)) := by
      intro ty
      have hst := run_storeCells_cells (P := Tryz.prog) g 2 [.int .i64 0, .bool false] 0 wr (fun j hj => by
        have hj2 : j < 2 := hj
        obtain rfl | rfl : j = 0 ∨ j = 1 := by omega
        · show (wr.cell? ⟨g, 2, none⟩).isSome = true; rw [hcell 2 _ rfl]; rfl
        · show (wr.cell? ⟨g, 3, none⟩).isSome = true; rw [hcell 3 _ rfl]; rfl) (fun j _ => hfz _) (by simp [Value.oneCell'])
      have hzc : (Builtin.zeroCells (Value.agg #[.int .i64 0, .bool false]).cells 1).toList = [.int .i64 0, .bool false] := by kernel_rfl
      simp [Builtin.clear_, run_underlying Go.Proofs.Tryz.underlying185, Go.Proofs.Tryz.zeroValue232, hzc, hst]
      rfl
    have Hd0 := hide d0
    have Hd1 := hide d1
    clear hfz hcell hO1 d0 d1
    go_wp2_with fail
    go_ret
    refine ⟨rfl, ?_, ?_, ?_⟩
    · simp [go_sem, Hd0.out]
    · simp [go_sem, Hd1.out]
    · exact Below.setCell (Below.setCell (HB1.out.mono (Nat.le_of_lt hlt)) (Nat.le_refl _) _) (Nat.le_refl _) _
set_option maxRecDepth 100000 in
set_option maxHeartbeats 400000 in
theorem falling_one (ar : List Int) (ga : Option Addr) (gcap : Nat) (x : Lit) (b off cc : Nat) (w : World) (hg : Ints w ar ga) (hx : LitsP w [x] (some ⟨b, off, none⟩)) (hf : grSpec ar (side2 x false) (side1 x false) = false) (ht : grSpec ar (side2 x true) (side1 x true) = true) :
    Calls Tryz.prog 148 #[.agg #[.slice ga ar.length gcap], .slice (some ⟨b, off, none⟩) 1 cc] w fun e w' => ∃ g cap, e = .returned (.slice (some ⟨g, 0, none⟩) 1 cap) ∧ w'.cell? ⟨g, 0, none⟩ = some (.int .i64 0) ∧ w'.cell? ⟨g, 1, none⟩ = some (.bool false) ∧ w.heap.size ≤ g ∧ Below w.heap.size w w' := by
  obtain ⟨W1, hW1⟩ : ∃ W1, W1 = (w.alloc (.cells #[.slice ga ar.length gcap] 24)).alloc (.cells #[.slice (some ⟨b, off, none⟩) 1 cc] 26) := ⟨_, rfl⟩
  have HbW : Hid (Below w.heap.size w W1) := hide (by rw [hW1]; exact below2 _ _ _)
  have e0 : W1.cell? ⟨w.heap.size, 0, none⟩ = some (.slice ga ar.length gcap) := by rw [hW1, cell_alloc_lt (by simp)]; exact cell_new 0 rfl
  have e1 : W1.cell? ⟨w.heap.size + 1, 0, none⟩ = some (.slice (some ⟨b, off, none⟩) 1 cc) := by rw [hW1]; exact cell_new 0 (by simp)
  have HP : Hid (∀ (tu : Bool) (w' : World), Below W1.heap.size W1 w' → Calls Tryz.prog 189 #[.agg #[.int .i64 0, .bool tu], .pointer (some ⟨w.heap.size + 1, 0, none⟩), .pointer (some ⟨w.heap.size, 0, none⟩)] w' fun e w'' => e = .returned (.bool tu) ∧ Below w'.heap.size w' w'') := hide (fun tu w' hb => by
    have hb2 := HbW.out.trans (hb.mono HbW.out.size)
    refine (falling1_any ar ga gcap x b off cc (w.heap.size + 1) w.heap.size tu w' (Ints_below hb2 hg) (LitsP_below hb2 hx) (cell_below hb e1) (cell_below hb e0)).mono ?_
    rintro e w'' ⟨rfl, hbb⟩
    refine ⟨?_, hbb⟩
    cases tu
    · rw [hf]
    · rw [ht])
  have HW1 := hide hW1
  have HE := hide (either_one (some ⟨b, off, none⟩) cc W1)
  clear hW1 e0 hg hx
  go_enter Tryz.func148, Tryz.ntmps148
  go_upto_region 1 with fail
  rw [← HW1.out]
  go_wp2_with (first
    | (go_at_call 149
       refine HE.out.mono ?_
       rintro e w2 ⟨g, cap, rfl, hown, hb2⟩
       have hlt := own_lt hown g rfl
       have HD := hide (delete_way g cap (w.heap.size + 1) w.heap.size w2 ⟨hown.1, by
         rcases hown.2 with ⟨h, _⟩ | ⟨g', cap', cur, he, _, r⟩
         · cases h
         · have he' := he
           simp only [Value.slice.injEq, Option.some.injEq, Addr.mk.injEq] at he'
           exact Or.inr ⟨g', cap', cur, he, by omega, r⟩⟩ (fun tu w' hb => HP.out tu w' (hb2.trans (hb.mono hb2.size))))
       have Hb2 := hide (And.intro hb2 hlt)
       clear hown hb2 hlt HE)
    | (go_at_call 188
       refine HD.out.mono ?_
       rintro e w3 ⟨rfl, h0, h1, hb3⟩
       have HF : Hid (w3.cell? ⟨g, 0, none⟩ = some (.int .i64 0) ∧ w3.cell? ⟨g, 1, none⟩ = some (.bool false) ∧ w.heap.size ≤ g ∧ Below w.heap.size w w3) := hide (by
         have q1 := Hb2.out.2
         have q2 := HbW.out.size
         refine ⟨h0, h1, by omega, ?_⟩
         exact HbW.out.trans ((Hb2.out.1.mono q2).trans (hb3.mono (by omega))))
       clear h0 h1 hb3 HD))
  go_ret
  exact ⟨g, cap, rfl, HF.out⟩
end Go.Proofs.YtbkedppkdhfpoabGreat

namespace Go.Proofs.YtbkedppkdhfpoabGreat
open Go.RowKit
theorem greatL_step {ts : List T} {k : Nat} {x : T} {m : Int} (hx : ts[k]? = some x) : greatT.greatL (ts.take (k + 1)) m = max (greatT.greatL (ts.take k) m) (greatT x) := by
  have e : ts.take (k + 1) = ts.take k ++ [x] := by rw [List.take_add_one, hx]; rfl
  rw [e]
  have hA : ∀ (l : List T) (m : Int), greatT.greatL (l ++ [x]) m = max (greatT.greatL l m) (greatT x) := by
    intro l
    induction l with
    | nil => intro m; rfl
    | cons a l ih => intro m; exact ih _
  exact hA _ _
theorem max_up {a b : Int} (h : a < b) : max a b = b := by omega
theorem max_dn {a b : Int} (h : ¬ a < b) : max a b = a := by omega
attribute [local go_sem ↓] Go.wp_at_zero Go.wp_at_succ
set_option maxRecDepth 100000 in
set_option maxHeartbeats 1000000 in
theorem greatest_any (N : Nat) : ∀ (t : T) (a : Option Addr) (cap : Nat) (w : World), t.sz ≤ N → t.sz ≤ 1000 → InL w t.args a →
    Calls Tryz.prog 176 #[.agg #[.int .i64 t.v, .int .i64 t.f, .slice a t.args.length cap]] w fun e w' => e = .returned (.int .i64 (greatT t)) ∧ Below w.heap.size w w' := by
  induction N with
  | zero => intro t a cap w h; have := t.sz_pos; omega
  | succ N ih =>
    intro t a cap w hN h1000 hin
    have hts := T.sz_eq t
    have hal : t.args.length ≤ 1000 := by have := T.length_le t.args; omega
    have Hih := hide ih
    have Hin := hide hin
    have HZ := hide (greatT_eq t)
    have HN := hide (And.intro hN (And.intro h1000 hts))
    clear ih hin hN h1000 hts
    go_enter Tryz.func176, Tryz.ntmps176
    go_wp2_with fail
    go_loopw [3, 11] (fun m i wr => ∃ k : Nat, k ≤ t.args.length ∧ i = .int .i64 k ∧ m = .int .i64 (greatT.greatL (t.args.take k) t.v) ∧ Hid (Below w.heap.size w wr)) (fun _ i _ => t.args.length - (intOf i).toNat)
    case atStart => exact ⟨0, Nat.zero_le _, rfl, rfl, hide (below1 _ _)⟩
    case round =>
      obtain ⟨k, hk, rfl, rfl, Hb⟩ := hrel
      by_cases hlt : k < t.args.length
      · have hin' := InP_below Hb.out Hin.out
        obtain ⟨b, off, rfl⟩ := InP_some Hin.out (by omega)
        obtain ⟨x, hx⟩ : ∃ x, t.args[k]? = some x := ⟨t.args[k], List.getElem?_eq_getElem hlt⟩
        obtain ⟨a1, cap1, _, c0, c1, c2, hin1⟩ := InP_at hin' hx
        have hxs := arg_sz (List.mem_of_getElem? hx)
        have HC := hide (fun o => Hih.out x a1 cap1 (wr.alloc o) (by have := HN.out; omega) (by have := HN.out; omega) (InP_alloc o hin1))
        have Hst := hide (greatL_step (m := t.v) hx)
        obtain ⟨G, hG⟩ : ∃ G, G = greatT x := ⟨_, rfl⟩
        obtain ⟨M, hM⟩ : ∃ M, M = greatT.greatL (t.args.take k) t.v := ⟨_, rfl⟩
        rw [← hG] at HC Hst
        rw [← hM] at Hst ⊢
        clear hG hM hxs hx hin' hin1
        by_cases hgm : M < G
        · have hmx := hide (max_up hgm)
          go_wp2_with fail
          refine (HC.out _).mono ?_
          rintro e w1 ⟨rfl, hb1⟩
          have Hf := hide ((Hb.out.alloc Hb.out.size _).trans (hb1.mono (by simp; have := Hb.out.size; omega)))
          clear hb1 HC c0 c1 c2
          go_wp2_with fail
          go_roundw
          case rel => exact ⟨k + 1, by omega, by go_num, by rw [Hst.out, hmx.out], hide Hf.out⟩
          case measure => simp [intOf]; omega
        · have hmx := hide (max_dn hgm)
          go_wp2_with fail
          refine (HC.out _).mono ?_
          rintro e w1 ⟨rfl, hb1⟩
          have Hf := hide ((Hb.out.alloc Hb.out.size _).trans (hb1.mono (by simp; have := Hb.out.size; omega)))
          clear hb1 HC c0 c1 c2
          go_wp2_with fail
          go_roundw
          case rel => exact ⟨k + 1, by omega, by go_num, by rw [Hst.out, hmx.out], hide Hf.out⟩
          case measure => simp [intOf]; omega
      · obtain rfl : k = t.args.length := by omega
        rw [List.take_length, ← HZ.out]
        go_wp2_with fail
        go_ret
        exact ⟨rfl, Hb.out⟩
theorem greatC_step {c : List Lit} {k : Nat} {x : Lit} {m : Int} (hx : c[k]? = some x) : greatC (c.take (k + 1)) m = max (max (greatC (c.take k) m) (greatT x.2.1)) (greatT x.2.2) := by
  have e : c.take (k + 1) = c.take k ++ [x] := by rw [List.take_add_one, hx]; rfl
  rw [e]
  have hA : ∀ (l : List Lit) (m : Int), greatC (l ++ [x]) m = max (max (greatC l m) (greatT x.2.1)) (greatT x.2.2) := by
    intro l
    induction l with
    | nil => intro m; rfl
    | cons a l ih => intro m; exact ih _
  exact hA _ _
set_option maxRecDepth 100000 in
set_option maxHeartbeats 1000000 in
theorem Greatest_any (c : List Lit) (ca : Option Addr) (cc : Nat) (w : World) (hcl : c.length ≤ 1000) (hsz : ∀ x, x ∈ c → LitSz x) (hc : LitsP w c ca) :
    Calls Tryz.prog 136 #[.slice ca c.length cc] w fun e w' => e = .returned (.int .i64 (greatC c 0)) ∧ Below w.heap.size w w' := by
  have Hc := hide hc
  have Hsz := hide hsz
  clear hc hsz
  go_enter Tryz.func136, Tryz.ntmps136
  go_wp2_with fail
  go_loopw [3, 8] (fun m i wr => ∃ k : Nat, k ≤ c.length ∧ i = .int .i64 k ∧ m = .int .i64 (greatC (c.take k) 0) ∧ Hid (Below w.heap.size w wr)) (fun _ i _ => c.length - (intOf i).toNat)
  case atStart => exact ⟨0, Nat.zero_le _, rfl, rfl, hide (Below.refl _ _)⟩
  case round =>
    obtain ⟨k, hk, rfl, rfl, Hb⟩ := hrel
    by_cases hlt : k < c.length
    · obtain ⟨x, hx⟩ : ∃ x, c[k]? = some x := ⟨c[k], List.getElem?_eq_getElem hlt⟩
      obtain ⟨b, off, rfl⟩ := LitsP_some Hc.out (by omega)
      obtain ⟨a1, c1, a2, c2, k0, k1, k2, k3, k4, k5, k6, i1, i2⟩ := LitsP_at (LitsP_below Hb.out Hc.out) hx
      have hkI : (k : Int) < c.length := by omega
      have hk0 : (0 : Int) ≤ k := by omega
      obtain ⟨W1, hW1⟩ : ∃ W1, W1 = wr.alloc (.cells #[.bool x.1, .int .i64 x.2.1.v, .int .i64 x.2.1.f, .slice a1 x.2.1.args.length c1, .int .i64 x.2.2.v, .int .i64 x.2.2.f, .slice a2 x.2.2.args.length c2] 79) := ⟨_, rfl⟩
      have HW1 := hide hW1
      have hbW : Below wr.heap.size wr W1 := by rw [hW1]; exact below1 _ _
      have hx7 : L7 W1 wr.heap.size 0 x a1 c1 a2 c2 := by rw [hW1]; exact L7.new _ rfl
      have HBW := hide (Hb.out.trans (hbW.mono Hb.out.size))
      have hxz := Hsz.out x (List.mem_of_getElem? hx)
      have HC1 := hide (fun (w' : World) (hb : Below W1.heap.size W1 w') => greatest_any _ x.2.1 a1 c1 w' (Nat.le_refl _) hxz.1 (InP_below hb (InP_below hbW i1)))
      have HC2 := hide (fun (w' : World) (hb : Below W1.heap.size W1 w') => greatest_any _ x.2.2 a2 c2 w' (Nat.le_refl _) hxz.2 (InP_below hb (InP_below hbW i2)))
      have Hst := hide (greatC_step (m := 0) hx)
      obtain ⟨G, hG⟩ : ∃ G, G = greatT x.2.1 := ⟨_, rfl⟩
      obtain ⟨H, hH⟩ : ∃ H, H = greatT x.2.2 := ⟨_, rfl⟩
      obtain ⟨M, hM⟩ : ∃ M, M = greatC (c.take k) 0 := ⟨_, rfl⟩
      rw [← hG] at HC1 Hst
      rw [← hH] at HC2 Hst
      rw [← hM] at Hst ⊢
      obtain ⟨p0, p1, p2, p3, p4, p5, p6⟩ := hx7
      simp only [Nat.zero_add] at p1 p2 p3 p4 p5 p6
      have b1 := fun (w' : World) (hb : Below W1.heap.size W1 w') => cellB hb p1
      have b2 := fun (w' : World) (hb : Below W1.heap.size W1 w') => cellB hb p2
      have b3 := fun (w' : World) (hb : Below W1.heap.size W1 w') => cellB hb p3
      have b4 := fun (w' : World) (hb : Below W1.heap.size W1 w') => cellB hb p4
      have b5 := fun (w' : World) (hb : Below W1.heap.size W1 w') => cellB hb p5
      have b6 := fun (w' : World) (hb : Below W1.heap.size W1 w') => cellB hb p6
      have hbr := Below.refl W1.heap.size W1
      clear hG hH hM hW1 hbW i1 i2 hx hxz p0 p1 p2 p3 p4 p5 p6
      go_upto_region 5 with fail
      rw [← HW1.out]
      clear k0 k1 k2 k3 k4 k5 k6
      go_region_held3 (fun w' => Below W1.heap.size W1 w') ((first | with_reducible exact HbB.out | with_reducible exact HbA.out | ((repeat' (first | with_reducible exact HbB.out | with_reducible exact HbA.out | with_reducible exact Below.refl _ _ | (with_reducible refine Below.drew ?_))); done) | go_keep)) ((first
        | (go_at_call 176
           with_reducible refine (HC1.out _ ?_).mono ?_
           focus ((repeat' (first | with_reducible exact Below.refl _ _ | (with_reducible refine Below.drew ?_))); done)
           rintro e wA ⟨rfl, hbA⟩
           have HbA : Hid (Below W1.heap.size W1 wA) := by
             refine Below.trans (b := _) ?_ (hbA.mono ?_)
             · repeat' (first | with_reducible exact Below.refl _ _ | (with_reducible refine Below.drew ?_))
             · first | omega | (simp; done)
           clear hbA)
        | (go_at_call 176
           with_reducible refine (HC2.out _ ?_).mono ?_
           focus ((repeat' (first | with_reducible exact HbA.out | with_reducible exact Below.refl _ _ | (with_reducible refine Below.drew ?_))); done)
           rintro e wB ⟨rfl, hbB⟩
           have HbB : Hid (Below W1.heap.size W1 wB) := by
             refine Below.trans (b := _) ?_ (hbB.mono ?_)
             · repeat' (first | with_reducible exact HbA.out | with_reducible exact Below.refl _ _ | (with_reducible refine Below.drew ?_))
             · first | omega | (have := HbA.out.size; simp; omega) | (simp; done)
           clear hbB)))
      all_goals
        go_wp2_with fail
        go_roundw
        case rel => exact ⟨k + 1, by omega, by go_num, by rw [Hst.out]; congr 1; omega, hide (HBW.out.trans (HbB.out.mono HBW.out.size))⟩
        case measure => simp [intOf]; omega
    · obtain rfl : k = c.length := by omega
      rw [List.take_length]
      go_wp2_with fail
      go_ret
      exact ⟨rfl, Hb.out⟩
end Go.Proofs.YtbkedppkdhfpoabGreat
