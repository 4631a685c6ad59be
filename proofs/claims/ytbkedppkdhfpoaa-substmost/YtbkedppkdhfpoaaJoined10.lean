/- The unifier counts the parts of what a part has become. The order of terms: nothing is greater than itself; what is greater than a greater one is; a term is greater than what stands in it; of two without variables one is. No word of the program's memory here. Putting in, as plain data: what stays right, how big it becomes, and that the order stays. No word of the program's memory here. Matching, as plain data: by which bindings is a pattern a term? No word of the program's memory here. How bindings lie in memory; which one a variable has. What is wrong with bindings: the document's check, and the program's. -/
import Derived.BigQuiet
import Derived.Deep.DeepCutAuto
import Derived.Deep.RegionHeld3
import Derived.Test.YtbkedppkdhfpoaaJoined9
namespace Go.Proofs.Ytbkedppkdhfpoaa
open Go.RowKit

/-- Nothing but block b has changed. -/
structure Upon (b : Nat) (w w' : World) : Prop where
  os : w'.os = w.os
  tape : w'.tape = w.tape
  output : w'.output = w.output
  size : w'.heap.size = w.heap.size
  block : ∀ k, k ≠ b → w'.heap[k]? = w.heap[k]?
theorem Upon.refl (b : Nat) (w : World) : Upon b w w := ⟨rfl, rfl, rfl, rfl, fun _ _ => rfl⟩
theorem Upon.trans {b : Nat} {w w' w'' : World} (h : Upon b w w') (h' : Upon b w' w'') : Upon b w w'' :=
  ⟨h'.os.trans h.os, h'.tape.trans h.tape, h'.output.trans h.output, h'.size.trans h.size, fun k hk => (h'.block k hk).trans (h.block k hk)⟩
theorem Upon.below {b n : Nat} {w w' : World} (h : Upon b w w') (hn : n ≤ b) : Below n w w' := ⟨h.os, h.tape, h.output, by rw [h.size]; exact Nat.le_refl _, fun k hk => h.block k (by omega)⟩
theorem Upon.set {b : Nat} {w w' : World} (h : Upon b w w') (o : Nat) (v : Value) : Upon b w (w'.setCell ⟨b, o, none⟩ v) :=
  h.trans ⟨rfl, rfl, rfl, by simp [World.setCell], fun k hk => Below.heap_setCell _ _ _ _ hk⟩
theorem Upon.cell {b : Nat} {w w' : World} (h : Upon b w w') {k o : Nat} (hk : k ≠ b) : w'.cell? ⟨k, o, none⟩ = w.cell? ⟨k, o, none⟩ := World.cell?_of_block (w := w) (a := ⟨k, o, none⟩) (h.block k hk)

theorem NumsQ_upon {q : Nat → Prop} {w w' : World} {b : Nat} (h : Upon b w w') (hq : ∀ k, q k → k ≠ b) {ns : List Nat} {a : Option Addr} (hn : NumsQ q w ns a) : NumsQ q w' ns a := by
  obtain ⟨hl, hn⟩ := hn
  rcases hn with h0 | ⟨x, off, h1, h2, h3⟩
  · exact ⟨hl, Or.inl h0⟩
  · exact ⟨hl, Or.inr ⟨x, off, h1, h2, fun i hi => by rw [h.cell (hq x h2)]; exact h3 i hi⟩⟩

/-- A part's size is written. -/
theorem UAt.setSize {q : Nat → Prop} {w : World} {u b c : Nat} {P : List Pt} (h : UAt q w u b c P) {k : Nat} {p : Pt} (hp : P[k]? = some p) (s : Int) : UAt q (w.setCell ⟨b, k * 6 + 5, none⟩ (.int .i64 s)) u b c (P.set k { p with size := s }) := by
  have hU := (Upon.refl b w).set (k * 6 + 5) (.int .i64 s)
  have hq : ∀ x, q x → x ≠ b := fun x hx => (h.qu x hx).2
  refine ⟨by rw [hU.cell h.ub, List.length_set]; exact h.list, fun j r hr => ?_, h.qu, h.ub, by rw [List.length_set]; exact h.len, fun j => by rw [World.frozen?_setCell]; exact h.frb j, fun j => by rw [World.frozen?_setCell]; exact h.fru j, by rw [hU.size]; exact h.ltb⟩
  by_cases e : j = k
  · subst e
    have hl := (List.getElem?_eq_some_iff.1 hp).1
    rw [List.getElem?_set_self hl] at hr
    cases hr
    obtain ⟨ta, tl, tc, aa, ac, c0, c1, c2, c3, c4, c5, hn⟩ := h.at6 j p hp
    refine ⟨ta, tl, tc, aa, ac, ?_, ?_, ?_, ?_, ?_, World.cell?_setCell_same _ _ _ c5, NumsQ_upon hU hq hn⟩
    all_goals (rw [World.cell?_setCell_other _ _ _ _ (by simp)]; assumption)
  · rw [List.getElem?_set_ne (fun h' => e h'.symm)] at hr
    obtain ⟨ta, tl, tc, aa, ac, c0, c1, c2, c3, c4, c5, hn⟩ := h.at6 j r hr
    refine ⟨ta, tl, tc, aa, ac, ?_, ?_, ?_, ?_, ?_, ?_, NumsQ_upon hU hq hn⟩
    all_goals (rw [World.cell?_setCell_other _ _ _ _ (by simp <;> omega)]; assumption)
/-- What a part is like is written. -/
theorem UAt.setLike {q : Nat → Prop} {w : World} {u b c : Nat} {P : List Pt} (h : UAt q w u b c P) {k : Nat} {p : Pt} (hp : P[k]? = some p) (s : Nat) : UAt q (w.setCell ⟨b, k * 6 + 4, none⟩ (.int .i64 (s : Int))) u b c (P.set k { p with like := s }) := by
  have hU := (Upon.refl b w).set (k * 6 + 4) (.int .i64 (s : Int))
  have hq : ∀ x, q x → x ≠ b := fun x hx => (h.qu x hx).2
  refine ⟨by rw [hU.cell h.ub, List.length_set]; exact h.list, fun j r hr => ?_, h.qu, h.ub, by rw [List.length_set]; exact h.len, fun j => by rw [World.frozen?_setCell]; exact h.frb j, fun j => by rw [World.frozen?_setCell]; exact h.fru j, by rw [hU.size]; exact h.ltb⟩
  by_cases e : j = k
  · subst e
    have hl := (List.getElem?_eq_some_iff.1 hp).1
    rw [List.getElem?_set_self hl] at hr
    cases hr
    obtain ⟨ta, tl, tc, aa, ac, c0, c1, c2, c3, c4, c5, hn⟩ := h.at6 j p hp
    refine ⟨ta, tl, tc, aa, ac, ?_, ?_, ?_, ?_, World.cell?_setCell_same _ _ _ c4, ?_, NumsQ_upon hU hq hn⟩
    all_goals (rw [World.cell?_setCell_other _ _ _ _ (by simp)]; assumption)
  · rw [List.getElem?_set_ne (fun h' => e h'.symm)] at hr
    obtain ⟨ta, tl, tc, aa, ac, c0, c1, c2, c3, c4, c5, hn⟩ := h.at6 j r hr
    refine ⟨ta, tl, tc, aa, ac, ?_, ?_, ?_, ?_, ?_, ?_, NumsQ_upon hU hq hn⟩
    all_goals (rw [World.cell?_setCell_other _ _ _ _ (by simp <;> omega)]; assumption)

/-- The sizes of arguments, added up; at the end the size is written down at h. -/
def measL (rec : List Pt → Nat → Option (Int × List Pt)) (h : Nat) : List Nat → Int → List Pt → Option (Int × List Pt)
  | [], s, P => match P[h]? with
    | none => none
    | some p => some (s, P.set h { p with size := s })
  | a :: l, s, P => match rec P a with
    | none => none
    | some x => if x.1 = -1 then some (-1, x.2) else if 0 ≤ x.1 ∧ x.1 ≤ 121 then measL rec h l (min (s + x.1) 121) x.2 else none
/-- The size of what a part has become, and the parts behind that; none: more than n steps. -/
def measF : Nat → List Pt → Nat → Option (Int × List Pt)
  | 0, _, _ => none
  | n + 1, P, k => match headF P (P.length + 1) k with
    | none => none
    | some h => match P[h]? with
      | none => none
      | some p => if p.size = 0 then measL (measF n) h p.args 1 (P.set h { p with size := -1 }) else some (p.size, P)
theorem measF_some {n : Nat} {P : List Pt} {k : Nat} {x : Int × List Pt} (hm : measF n P k = some x) : ∃ m h p, n = m + 1 ∧ headF P (P.length + 1) k = some h ∧ P[h]? = some p ∧ (if p.size = 0 then measL (measF m) h p.args 1 (P.set h { p with size := -1 }) else some (p.size, P)) = some x := by
  cases n with
  | zero => cases hm
  | succ n =>
    rw [measF] at hm
    split at hm
    · cases hm
    · rename_i h hh
      split at hm
      · cases hm
      · rename_i p hp
        exact ⟨n, h, p, rfl, hh, hp, hm⟩
theorem measL_nil {rec : List Pt → Nat → Option (Int × List Pt)} {h : Nat} {s : Int} {P : List Pt} {x : Int × List Pt} (hm : measL rec h [] s P = some x) : ∃ p, P[h]? = some p ∧ x = (s, P.set h { p with size := s }) := by
  rw [measL] at hm
  split at hm
  · cases hm
  · rename_i p hp; exact ⟨p, hp, (Option.some.inj hm).symm⟩
theorem measL_cons {rec : List Pt → Nat → Option (Int × List Pt)} {h a : Nat} {l : List Nat} {s : Int} {P : List Pt} {x : Int × List Pt} (hm : measL rec h (a :: l) s P = some x) : ∃ y, rec P a = some y ∧ (if y.1 = -1 then some (-1, y.2) else if 0 ≤ y.1 ∧ y.1 ≤ 121 then measL rec h l (min (s + y.1) 121) y.2 else none) = some x := by
  rw [measL] at hm
  split at hm
  · cases hm
  · rename_i y hy; exact ⟨y, hy, hm⟩

theorem NumsQ_at {q : Nat → Prop} {w : World} {ns : List Nat} {a : Option Addr} (h : NumsQ q w ns a) (hl : 0 < ns.length) : ∃ b off, a = some ⟨b, off, none⟩ ∧ q b ∧ ∀ i, i < ns.length → w.cell? ⟨b, off + i, none⟩ = some (.int .i64 (ns.getD i 0 : Nat)) := by
  rcases h.2 with h | h
  · rw [h] at hl; simp at hl
  · exact h

set_option maxRecDepth 100000 in
set_option maxHeartbeats 1000000 in
theorem meas_any (q : Nat → Prop) (u b c : Nat) (N : Nat) : ∀ (P : List Pt) (k : Nat) (x : Int × List Pt) (w : World), UAt q w u b c P → measF N P k = some x →
    Calls Try.prog 76 #[.pointer (some ⟨u, 0, none⟩), .int .i64 (k : Int)] w fun e w' => e = .returned (.int .i64 x.1) ∧ UAt q w' u b c x.2 ∧ Upon b w w' := by
  induction N with
  | zero => intro P k x w _ h; cases h
  | succ N ih =>
    intro P k x w hU hm
    obtain ⟨m, h, p, hN, hh, hp, hx⟩ := measF_some hm
    obtain rfl : N = m := by omega
    have Hh := hide (head_any q w u b c P _ k h hU hh)
    have hhl := (List.getElem?_eq_some_iff.1 hp).1
    obtain ⟨ta, tl, tc, aa, ac, c0, c1, c2, c3, c4, c5, hn⟩ := hU.at6 h p hp
    have hlen := hU.len
    have cu := hU.list
    have hfb := hide hU.frb
    have hf5 := hU.frb (h * 6 + 5)
    have hub := hU.ub
    have hhI : (h : Int) < P.length := by omega
    have hh0 : (0 : Int) ≤ h := by omega
    have HU := hide hU
    have Hp := hide hp
    have Hx := hide hx
    have hal := hn.1
    have Hn := hide hn
    have Hih := hide ih
    clear hU hp hx hn ih hm hh hN
    go_enter Try.func76, Try.ntmps76
    go_wp2_with fail
    refine Hh.out.mono ?_
    rintro e w' ⟨rfl, hw'⟩
    obtain rfl := hw'.symm
    clear hw' Hh
    by_cases hs : p.size = 0
    · have hx2 := Hx.out
      rw [if_pos hs] at hx2
      have e0 : (p.size != 0) = false := by simpa using hs
      have Hx2 := hide hx2
      clear hs hx2 Hx
      go_wp2_with fail
      obtain ⟨W1, hW1⟩ : ∃ W1, W1 = w.setCell ⟨b, h * 6 + 5, none⟩ (.int .i64 (-1)) := ⟨_, rfl⟩
      have HU1 : Hid (UAt q W1 u b c (P.set h { p with size := -1 })) := by rw [hW1]; exact HU.out.setSize Hp.out (-1)
      have HO1 : Hid (Upon b w W1) := by rw [hW1]; exact (Upon.refl b w).set _ _
      have Hn1 := hide (NumsQ_upon HO1.out (fun k hk => (HU.out.qu k hk).2) Hn.out)
      have hqu := hide HU.out.qu
      rw [← hW1]
      clear hW1 HU Hp Hn c0 c1 c2 c3 c4 c5 cu hf5 hfb e0
      go_loopw [6, 46] (fun sv i wr => ∃ (j : Nat) (S : Int) (Q : List Pt), j ≤ p.args.length ∧ i = .int .i64 (j : Int) ∧ sv = .int .i64 S ∧ 0 ≤ S ∧ S ≤ 121 ∧ Hid (measL (measF N) h (p.args.drop j) S Q = some x) ∧ Hid (UAt q wr u b c Q) ∧ Hid (Upon b W1 wr)) (fun _ i _ => p.args.length - (intOf i).toNat)
      case atStart => exact ⟨0, 1, _, Nat.zero_le _, rfl, rfl, by omega, by omega, Hx2, HU1, Upon.refl _ _⟩
      case round =>
        obtain ⟨j, S, Q, hj, rfl, rfl, hS0, hS1, HL, HUr, HOr⟩ := hrel
        by_cases hlt : j < p.args.length
        · obtain ⟨nb, noff, rfl, hqn, hcell⟩ := NumsQ_at (NumsQ_upon HOr.out (fun k hk => (hqu.out k hk).2) Hn1.out) (show 0 < p.args.length by omega)
          have cj := hcell j hlt
          have hd : p.args.drop j = p.args.getD j 0 :: p.args.drop (j + 1) := by
            rw [List.drop_eq_getElem_cons hlt]; simp [List.getD, List.getElem?_eq_getElem hlt]
          have hL := HL.out
          rw [hd] at hL
          obtain ⟨y, hy, hx⟩ := measL_cons hL
          have Hc := hide (Hih.out Q (p.args.getD j 0) y wr HUr.out hy)
          have Hx := hide hx
          generalize p.args.getD j 0 = aj at *
          have hjI : (j : Int) < p.args.length := by omega
          have hj0 : (0 : Int) ≤ j := by omega
          clear hL hd hx hy HL hcell
          go_wp2_with fail
          refine Hc.out.mono ?_
          rintro e w2 ⟨rfl, hU2, hO2⟩
          have HU2 := hide hU2
          have HO2 := hide (HOr.out.trans hO2)
          clear hU2 hO2 Hc HUr HOr
          by_cases hy1 : y.1 = -1
          · have e1 : (y.1 == -1) = true := by simpa using hy1
            have hx9 := Hx.out
            rw [if_pos hy1] at hx9
            have Hx9 := hide (Option.some.inj hx9)
            clear hy1 Hx hx9
            go_wp2_with fail
            go_ret
            rw [← Hx9.out]
            exact ⟨rfl, HU2.out, HO1.out.trans HO2.out⟩
          · have e1 : (y.1 == -1) = false := by simpa using hy1
            have hx9 := Hx.out
            rw [if_neg hy1] at hx9
            by_cases hy2 : 0 ≤ y.1 ∧ y.1 ≤ 121
            · rw [if_pos hy2] at hx9
              have Hx9 := hide hx9
              obtain ⟨hy3, hy4⟩ := hy2
              clear hy1 Hx hx9
              go_wp2_with fail
              go_roundw
              case rel => exact ⟨j + 1, min (S + y.1) 121, y.2, by omega, by go_num, by go_num, by omega, by omega, Hx9, HU2, HO2⟩
              case measure => simp [intOf]; omega
            · rw [if_neg hy2] at hx9; cases hx9
        · have hj2 : j = p.args.length := by omega
          subst hj2
          have hL := HL.out
          rw [List.drop_length] at hL
          obtain ⟨p', hp', hx'⟩ := measL_nil hL
          have hhl' := (List.getElem?_eq_some_iff.1 hp').1
          obtain ⟨ta', tl', tc', aa', ac', c0', c1', c2', c3', c4', c5', _⟩ := HUr.out.at6 h p' hp'
          have hlen' := HUr.out.len
          have cu' := HUr.out.list
          have hf5' := HUr.out.frb (h * 6 + 5)
          have hhI' : (h : Int) < Q.length := by omega
          have HUe := hide (HUr.out.setSize hp' S)
          have HOe := hide (HO1.out.trans (HOr.out.set (h * 6 + 5) (.int .i64 S)))
          have Hx' := hide hx'
          clear hL HL hp' hx' HUr HOr
          go_wp2_with fail
          go_ret
          rw [Hx'.out]
          exact ⟨rfl, HUe.out, HOe.out⟩
    · have hx2 := Hx.out
      rw [if_neg hs] at hx2
      have e0 : (p.size != 0) = true := by simpa using hs
      have Hx2 := hide (Option.some.inj hx2)
      clear hs hx2 Hx
      go_wp2_with fail
      go_ret
      rw [← Hx2.out]
      exact ⟨rfl, HU.out, Upon.refl _ _⟩

end Go.Proofs.Ytbkedppkdhfpoaa

namespace Go.Proofs.Ytbkedppkdhfpoaa

theorem sameL_eq_aux : ∀ (n : Nat), (∀ t u : T, t.sz ≤ n → sameT t u = true → t = u) ∧ (∀ ts us : List T, T.sz.szL ts ≤ n → sameT.sameL ts us = true → ts = us) := by
  intro n
  induction n with
  | zero =>
    refine ⟨fun t u h => by have := t.sz_pos; omega, fun ts us h hs => ?_⟩
    cases ts with
    | nil =>
      cases us with
      | nil => rfl
      | cons u us => rw [sameL_length (by simp)] at hs; cases hs
    | cons t ts => have := t.sz_pos; rw [T.szL_cons] at h; omega
  | succ n ih =>
    have h1 : ∀ t u : T, t.sz ≤ n + 1 → sameT t u = true → t = u := fun t u h hs => by
      have hte := T.sz_eq t
      rw [sameT_eq] at hs
      simp only [Bool.and_eq_true, beq_iff_eq] at hs
      have := ih.2 t.args u.args (by omega) hs.2
      cases t; cases u
      simp_all
    refine ⟨h1, fun ts => ?_⟩
    induction ts with
    | nil =>
      intro us _ hs
      cases us with
      | nil => rfl
      | cons u us => rw [sameL_length (by simp)] at hs; cases hs
    | cons t ts iht =>
      intro us h hs
      rw [T.szL_cons] at h
      cases us with
      | nil => rw [sameL_length (by simp)] at hs; cases hs
      | cons u us =>
        rw [sameL_cons, Bool.and_eq_true] at hs
        rw [h1 t u (by omega) hs.1, iht us (by omega) hs.2]
theorem sameT_iff {t u : T} : sameT t u = true ↔ t = u := ⟨(sameL_eq_aux t.sz).1 t u (Nat.le_refl _), fun h => by rw [h]; exact sameT_refl u⟩
theorem sameT_ne {t u : T} : sameT t u = false ↔ t ≠ u := by
  constructor
  · intro h e; rw [sameT_iff.2 e] at h; cases h
  · intro h
    rcases Bool.eq_false_or_eq_true (sameT t u) with h1 | h1
    · exact absurd (sameT_iff.1 h1) h
    · exact h1

theorem gt_iff {ar : List Int} {s t : T} (hs : okP ar s) (ht : okP ar t) : gt s t = true ↔
    (s.v = 0 ∧ ∃ a, a ∈ s.args ∧ (gt a t = true ∨ a = t)) ∨ (s.v = 0 ∧ t.v = 0 ∧ t.f ≤ s.f ∧ (∀ c, c ∈ t.args → gt s c = true) ∧ (t.f < s.f ∨ (s.f = t.f ∧ firstN gt s.args t.args = true))) := by
  rw [gt_ref hs ht, refBody]
  simp only [Bool.or_eq_true, Bool.and_eq_true, decide_eq_true_eq, List.any_eq_true, List.all_eq_true, sameT_iff]
  constructor
  · rintro (h | ⟨⟨⟨⟨h1, h2⟩, h3⟩, h4⟩, h5⟩)
    · exact Or.inl h
    · exact Or.inr ⟨h1, h2, h3, h4, h5⟩
  · rintro (h | ⟨h1, h2, h3, h4, h5⟩)
    · exact Or.inl h
    · exact Or.inr ⟨⟨⟨⟨h1, h2⟩, h3⟩, h4⟩, h5⟩

/-- Where of two lists the first ones that are not the same part. -/
theorem firstN_iff {g : T → T → Bool} : ∀ {xs ys : List T}, firstN g xs ys = true ↔ ∃ (k : Nat) (a b : T), xs[k]? = some a ∧ ys[k]? = some b ∧ a ≠ b ∧ g a b = true ∧ (∀ i, i < k → xs[i]? = ys[i]?) := by
  intro xs
  induction xs with
  | nil =>
    intro ys
    constructor
    · intro h; simp [firstN] at h
    · rintro ⟨k, a, b, h, _⟩; simp at h
  | cons x xs ih =>
    intro ys
    cases ys with
    | nil =>
      constructor
      · intro h; simp [firstN] at h
      · rintro ⟨k, a, b, _, h, _⟩; simp at h
    | cons y ys =>
      rw [firstN]
      by_cases h : sameT x y = true
      · rw [if_pos h, ih]
        have e := sameT_iff.1 h
        subst e
        constructor
        · rintro ⟨k, a, b, h1, h2, h3, h4, h5⟩
          refine ⟨k + 1, a, b, by simpa using h1, by simpa using h2, h3, h4, fun i hi => ?_⟩
          cases i with
          | zero => rfl
          | succ i => simpa using h5 i (by omega)
        · rintro ⟨k, a, b, h1, h2, h3, h4, h5⟩
          cases k with
          | zero =>
            simp at h1 h2
            exact absurd (h1.symm.trans h2) h3
          | succ k =>
            refine ⟨k, a, b, by simpa using h1, by simpa using h2, h3, h4, fun i hi => ?_⟩
            have := h5 (i + 1) (by omega)
            simpa using this
      · rw [if_neg h]
        have hne : x ≠ y := fun e => h (sameT_iff.2 e)
        constructor
        · intro hg
          exact ⟨0, x, y, rfl, rfl, hne, hg, fun i hi => by omega⟩
        · rintro ⟨k, a, b, h1, h2, h3, h4, h5⟩
          cases k with
          | zero =>
            simp at h1 h2
            subst h1; subst h2; exact h4
          | succ k =>
            have := h5 0 (by omega)
            simp at this
            exact absurd this hne

theorem okArg {ar : List Int} {s a : T} (hs : okP ar s) (ha : a ∈ s.args) : okP ar a := okL_mem.1 (okP_iff.1 hs).2 a ha
theorem v_of_arg {ar : List Int} {s a : T} (hs : okP ar s) (ha : a ∈ s.args) : s.v = 0 := by
  by_cases h : s.v = 0
  · exact h
  · rw [(ok_var hs h).2] at ha; cases ha

/-- A term is greater than what stands in it. -/
theorem gt_arg {ar : List Int} {s a : T} (hs : okP ar s) (ha : a ∈ s.args) : gt s a = true :=
  (gt_iff hs (okArg hs ha)).2 (Or.inl ⟨v_of_arg hs ha, a, ha, Or.inr rfl⟩)

/-- What is greater than a greater one is. -/
theorem gt_trans_aux {ar : List Int} : ∀ (n : Nat) (s t u : T), s.sz + t.sz + u.sz ≤ n → okP ar s → okP ar t → okP ar u → gt s t = true → gt t u = true → gt s u = true := by
  intro n
  induction n with
  | zero => intro s t u h; have := s.sz_pos; omega
  | succ n ih =>
    intro s t u hn hs ht hu h1 h2
    rcases (gt_iff hs ht).1 h1 with ⟨hv, a, ha, h3⟩ | ⟨hv, htv, hf, hall, hlast⟩
    · have hasz := arg_sz ha
      refine (gt_iff hs hu).2 (Or.inl ⟨hv, a, ha, ?_⟩)
      rcases h3 with h3 | rfl
      · exact Or.inl (ih a t u (by omega) (okArg hs ha) ht hu h3 h2)
      · exact Or.inl h2
    · rcases (gt_iff ht hu).1 h2 with ⟨_, b, hb, h4⟩ | ⟨_, huv, hf2, hall2, hlast2⟩
      · have hbsz := arg_sz hb
        rcases h4 with h4 | rfl
        · exact ih s b u (by omega) hs (okArg ht hb) hu (hall b hb) h4
        · exact hall _ hb
      · have hall3 : ∀ c, c ∈ u.args → gt s c = true := fun c hc => by
          have hcsz := arg_sz hc
          exact ih s t c (by omega) hs ht (okArg hu hc) h1 (hall2 c hc)
        refine (gt_iff hs hu).2 (Or.inr ⟨hv, huv, by omega, hall3, ?_⟩)
        rcases hlast with hl | ⟨hl, hx⟩
        · exact Or.inl (by omega)
        · rcases hlast2 with hl2 | ⟨hl2, hx2⟩
          · exact Or.inl (by omega)
          · refine Or.inr ⟨by omega, ?_⟩
            obtain ⟨k, a, b, q1, q2, q3, q4, q5⟩ := firstN_iff.1 hx
            obtain ⟨k2, b2, c, r1, r2, r3, r4, r5⟩ := firstN_iff.1 hx2
            have ma := List.mem_of_getElem? q1
            have mb := List.mem_of_getElem? q2
            have mb2 := List.mem_of_getElem? r1
            have mc := List.mem_of_getElem? r2
            have za := arg_sz ma
            have zb := arg_sz mb
            have zb2 := arg_sz mb2
            have zc := arg_sz mc
            refine firstN_iff.2 ?_
            rcases Nat.lt_trichotomy k k2 with hk | hk | hk
            · have e := r5 k hk
              refine ⟨k, a, b, q1, e.symm.trans q2, q3, q4, fun i hi => (q5 i hi).trans (r5 i (by omega))⟩
            · subst hk
              rw [q2] at r1
              simp only [Option.some.injEq] at r1
              subst r1
              have hac := ih a b c (by omega) (okArg hs ma) (okArg ht mb) (okArg hu mc) q4 r4
              refine ⟨k, a, c, q1, r2, ?_, hac, fun i hi => (q5 i hi).trans (r5 i hi)⟩
              intro e
              subst e
              -- a > b > a, so the lesser of both is greater than itself: by what is shown of lesser ones this cannot be
              have irr : ∀ (m : Nat) (x : T), x.sz ≤ m → 3 * x.sz ≤ n + 2 → okP ar x → gt x x = true → False := by
                intro m
                induction m with
                | zero => intro x h; have := x.sz_pos; omega
                | succ m ihm =>
                  intro x hxm hxa hox hxx
                  rcases (gt_iff hox hox).1 hxx with ⟨hxv, d, hd, h9⟩ | ⟨_, _, _, _, h9⟩
                  · have hdsz := arg_sz hd
                    rcases h9 with h9 | h9
                    · exact ihm d (by omega) (by omega) (okArg hox hd) (ih d x d (by omega) (okArg hox hd) hox (okArg hox hd) h9 (gt_arg hox hd))
                    · rw [h9] at hdsz; omega
                  · rcases h9 with h9 | ⟨_, h9⟩
                    · omega
                    · obtain ⟨_, d, e, w1, w2, w3, _⟩ := firstN_iff.1 h9
                      rw [w1] at w2
                      exact w3 (by simpa using w2)
              rcases Nat.le_total a.sz b.sz with hab | hab
              · exact irr a.sz a (Nat.le_refl _) (by omega) (okArg hs ma) hac
              · exact irr b.sz b (Nat.le_refl _) (by omega) (okArg ht mb) (ih b a b (by omega) (okArg ht mb) (okArg hs ma) (okArg ht mb) r4 q4)
            · have e := q5 k2 hk
              exact ⟨k2, b2, c, e.trans r1, r2, r3, r4, fun i hi => (q5 i (by omega)).trans (r5 i hi)⟩
theorem gt_trans {ar : List Int} {s t u : T} (hs : okP ar s) (ht : okP ar t) (hu : okP ar u) (h1 : gt s t = true) (h2 : gt t u = true) : gt s u = true := gt_trans_aux _ s t u (Nat.le_refl _) hs ht hu h1 h2

/-- Nothing is greater than itself. -/
theorem gt_irr_aux {ar : List Int} : ∀ (m : Nat) (x : T), x.sz ≤ m → okP ar x → gt x x = true → False := by
  intro m
  induction m with
  | zero => intro x h; have := x.sz_pos; omega
  | succ m ihm =>
    intro x hxm hox hxx
    rcases (gt_iff hox hox).1 hxx with ⟨hxv, d, hd, h9⟩ | ⟨_, _, _, _, h9⟩
    · have hdsz := arg_sz hd
      rcases h9 with h9 | h9
      · exact ihm d (by omega) (okArg hox hd) (gt_trans (okArg hox hd) hox (okArg hox hd) h9 (gt_arg hox hd))
      · rw [h9] at hdsz; omega
    · rcases h9 with h9 | ⟨_, h9⟩
      · omega
      · obtain ⟨_, d, e, w1, w2, w3, _⟩ := firstN_iff.1 h9
        rw [w1] at w2
        exact w3 (by simpa using w2)
theorem gt_irr {ar : List Int} {s : T} (hs : okP ar s) : gt s s = false := by
  rcases Bool.eq_false_or_eq_true (gt s s) with h | h
  · exact (gt_irr_aux _ s (Nat.le_refl _) hs h).elim
  · exact h
theorem gt_asym {ar : List Int} {s t : T} (hs : okP ar s) (ht : okP ar t) (h : gt s t = true) : gt t s = false := by
  rcases Bool.eq_false_or_eq_true (gt t s) with h1 | h1
  · have := gt_trans hs ht hs h h1
    rw [gt_irr hs] at this; cases this
  · exact h1

/-- No variables stand in a term. -/
def ground : T → Bool
  | ⟨v, _, args⟩ => v == 0 && groundL args
  where
  groundL : List T → Bool
    | [] => true
    | t :: ts => ground t && groundL ts
theorem ground_eq (t : T) : ground t = (t.v == 0 && ground.groundL t.args) := by cases t; rfl
theorem groundL_mem {ts : List T} : ground.groundL ts = true ↔ ∀ t, t ∈ ts → ground t = true := by
  induction ts with
  | nil => simp [ground.groundL]
  | cons t ts ih => rw [ground.groundL, Bool.and_eq_true, ih]; simp
theorem ground_arg {s a : T} (h : ground s = true) (ha : a ∈ s.args) : ground a = true := by
  rw [ground_eq, Bool.and_eq_true] at h
  exact groundL_mem.1 h.2 a ha
theorem ground_v {s : T} (h : ground s = true) : s.v = 0 := by
  rw [ground_eq, Bool.and_eq_true] at h
  simpa using h.1
/-- The first place at which two lists of one length part; else they are the same. -/
theorem parts_or_same : ∀ (xs ys : List T), xs.length = ys.length → xs = ys ∨ ∃ (k : Nat) (a b : T), xs[k]? = some a ∧ ys[k]? = some b ∧ a ≠ b ∧ ∀ i, i < k → xs[i]? = ys[i]? := by
  intro xs
  induction xs with
  | nil => intro ys h; left; exact (List.length_eq_zero_iff.1 h.symm).symm
  | cons x xs ih =>
    intro ys h
    cases ys with
    | nil => simp at h
    | cons y ys =>
      by_cases e : x = y
      · subst e
        rcases ih ys (by simpa using h) with rfl | ⟨k, a, b, h1, h2, h3, h4⟩
        · exact Or.inl rfl
        · refine Or.inr ⟨k + 1, a, b, by simpa using h1, by simpa using h2, h3, fun i hi => ?_⟩
          cases i with
          | zero => rfl
          | succ i => simpa using h4 i (by omega)
      · exact Or.inr ⟨0, x, y, rfl, rfl, e, fun i hi => by omega⟩
theorem gt_total_aux {ar : List Int} : ∀ (n : Nat) (s t : T), s.sz + t.sz ≤ n → okP ar s → okP ar t → ground s = true → ground t = true → s = t ∨ gt s t = true ∨ gt t s = true := by
  intro n
  induction n with
  | zero => intro s t h; have := s.sz_pos; omega
  | succ n ih =>
    intro s t hn hs ht gs gt'
    by_cases h1 : ∃ a, a ∈ s.args ∧ (gt a t = true ∨ a = t)
    · exact Or.inr (Or.inl ((gt_iff hs ht).2 (Or.inl ⟨ground_v gs, h1⟩)))
    · by_cases h2 : ∃ b, b ∈ t.args ∧ (gt b s = true ∨ b = s)
      · exact Or.inr (Or.inr ((gt_iff ht hs).2 (Or.inl ⟨ground_v gt', h2⟩)))
      · have ha : ∀ a, a ∈ s.args → gt t a = true := fun a ha => by
          have := arg_sz ha
          rcases ih a t (by omega) (okArg hs ha) ht (ground_arg gs ha) gt' with h | h | h
          · exact absurd ⟨a, ha, Or.inr h⟩ h1
          · exact absurd ⟨a, ha, Or.inl h⟩ h1
          · exact h
        have hb : ∀ b, b ∈ t.args → gt s b = true := fun b hb => by
          have := arg_sz hb
          rcases ih b s (by omega) (okArg ht hb) hs (ground_arg gt' hb) gs with h | h | h
          · exact absurd ⟨b, hb, Or.inr h⟩ h2
          · exact absurd ⟨b, hb, Or.inl h⟩ h2
          · exact h
        rcases Int.lt_trichotomy s.f t.f with hf | hf | hf
        · exact Or.inr (Or.inr ((gt_iff ht hs).2 (Or.inr ⟨ground_v gt', ground_v gs, by omega, ha, Or.inl hf⟩)))
        · rcases parts_or_same s.args t.args (same_arity hs ht (ground_v gs) (ground_v gt') hf) with e | ⟨k, a, b, q1, q2, q3, q4⟩
          · left
            have e1 := ground_v gs
            have e2 := ground_v gt'
            cases s; cases t; simp_all
          · have ma := List.mem_of_getElem? q1
            have mb := List.mem_of_getElem? q2
            have za := arg_sz ma
            have zb := arg_sz mb
            rcases ih a b (by omega) (okArg hs ma) (okArg ht mb) (ground_arg gs ma) (ground_arg gt' mb) with h | h | h
            · exact absurd h q3
            · exact Or.inr (Or.inl ((gt_iff hs ht).2 (Or.inr ⟨ground_v gs, ground_v gt', by omega, hb, Or.inr ⟨hf, firstN_iff.2 ⟨k, a, b, q1, q2, q3, h, q4⟩⟩⟩)))
            · exact Or.inr (Or.inr ((gt_iff ht hs).2 (Or.inr ⟨ground_v gt', ground_v gs, by omega, ha, Or.inr ⟨hf.symm, firstN_iff.2 ⟨k, b, a, q2, q1, q3.symm, h, fun i hi => (q4 i hi).symm⟩⟩⟩)))
        · exact Or.inr (Or.inl ((gt_iff hs ht).2 (Or.inr ⟨ground_v gs, ground_v gt', by omega, hb, Or.inl hf⟩)))
/-- Of two without variables one is greater, or they are the same. -/
theorem gt_total {ar : List Int} {s t : T} (hs : okP ar s) (ht : okP ar t) (gs : ground s = true) (gt' : ground t = true) : s = t ∨ gt s t = true ∨ gt t s = true := gt_total_aux _ s t (Nat.le_refl _) hs ht gs gt'

end Go.Proofs.Ytbkedppkdhfpoaa

namespace Go.Proofs.Ytbkedppkdhfpoaa

/-- What a variable is bound to. -/
def lookB : List (Int × T) → Int → Option T
  | [], _ => none
  | (w, u) :: bs, v => if w = v then some u else lookB bs v
/-- What is put in for a term alone, if it is a variable that is bound. -/
def putIn (bs : List (Int × T)) (v : Int) : Option T := if 0 < v then lookB bs v else none
def applyT (bs : List (Int × T)) : T → T
  | ⟨v, f, args⟩ => match putIn bs v with
    | some u => u
    | none => ⟨v, f, applyL args⟩
  where
  applyL : List T → List T
    | [] => []
    | t :: ts => applyT bs t :: applyL ts
theorem applyT_eq (bs : List (Int × T)) (t : T) : applyT bs t = match putIn bs t.v with
    | some u => u
    | none => ⟨t.v, t.f, applyT.applyL bs t.args⟩ := by cases t; rfl
theorem applyL_map (bs : List (Int × T)) (ts : List T) : applyT.applyL bs ts = ts.map (applyT bs) := by
  induction ts with
  | nil => rfl
  | cons t ts ih => rw [applyT.applyL, ih]; rfl
theorem applyT_some {bs : List (Int × T)} {t u : T} (h : putIn bs t.v = some u) : applyT bs t = u := by rw [applyT_eq, h]
theorem applyT_none {bs : List (Int × T)} {t : T} (h : putIn bs t.v = none) : applyT bs t = ⟨t.v, t.f, t.args.map (applyT bs)⟩ := by rw [applyT_eq, h, applyL_map]
theorem putIn_fn {bs : List (Int × T)} {v : Int} (h : v = 0) : putIn bs v = none := by rw [putIn, if_neg (by omega)]
theorem applyT_fn {bs : List (Int × T)} {t : T} (h : t.v = 0) : applyT bs t = ⟨0, t.f, t.args.map (applyT bs)⟩ := by rw [applyT_none (putIn_fn h), h]
theorem lookB_mem {bs : List (Int × T)} {v : Int} {u : T} (h : lookB bs v = some u) : (v, u) ∈ bs := by
  induction bs with
  | nil => cases h
  | cons b bs ih =>
    obtain ⟨w, x⟩ := b
    rw [lookB] at h
    by_cases e : w = v
    · rw [if_pos e] at h
      simp only [Option.some.injEq] at h
      rw [e, h]; exact List.mem_cons_self
    · rw [if_neg e] at h
      exact List.mem_cons_of_mem _ (ih h)
theorem putIn_mem {bs : List (Int × T)} {v : Int} {u : T} (h : putIn bs v = some u) : (v, u) ∈ bs ∧ 0 < v := by
  rw [putIn] at h
  by_cases h0 : 0 < v
  · rw [if_pos h0] at h; exact ⟨lookB_mem h, h0⟩
  · rw [if_neg h0] at h; cases h

/-- Right terms put into a right term make a right one. -/
theorem okP_apply_aux {ar : List Int} {bs : List (Int × T)} (hb : ∀ v u, (v, u) ∈ bs → okP ar u) : ∀ (n : Nat) (t : T), t.sz ≤ n → okP ar t → okP ar (applyT bs t) := by
  intro n
  induction n with
  | zero => intro t h; have := t.sz_pos; omega
  | succ n ih =>
    intro t hn ht
    cases h : putIn bs t.v with
    | some u => rw [applyT_some h]; exact hb _ _ (putIn_mem h).1
    | none =>
      rw [applyT_none h]
      refine okP_iff.2 ⟨?_, okL_mem.2 fun a ha => ?_⟩
      · have := (okP_iff.1 ht).1
        simpa using this
      · obtain ⟨c, hc, rfl⟩ := List.mem_map.1 ha
        have := arg_sz hc
        exact ih c (by omega) (okArg ht hc)
theorem okP_apply {ar : List Int} {bs : List (Int × T)} (hb : ∀ v u, (v, u) ∈ bs → okP ar u) {t : T} (ht : okP ar t) : okP ar (applyT bs t) := okP_apply_aux hb _ t (Nat.le_refl _) ht

/-- The order stays, whatever is put in. -/
theorem gt_stable_aux {ar : List Int} {bs : List (Int × T)} (hb : ∀ v u, (v, u) ∈ bs → okP ar u) : ∀ (n : Nat) (s t : T), s.sz + t.sz ≤ n → okP ar s → okP ar t → gt s t = true → gt (applyT bs s) (applyT bs t) = true := by
  intro n
  induction n with
  | zero => intro s t h; have := s.sz_pos; omega
  | succ n ih =>
    intro s t hn hs ht h
    have os := okP_apply hb hs
    have ot := okP_apply hb ht
    rcases (gt_iff hs ht).1 h with ⟨hv, a, ha, h3⟩ | ⟨hv, htv, hf, hall, hlast⟩
    · have hasz := arg_sz ha
      have hm : applyT bs a ∈ (applyT bs s).args := by rw [applyT_fn hv]; exact List.mem_map_of_mem ha
      refine (gt_iff os ot).2 (Or.inl ⟨by rw [applyT_fn hv], applyT bs a, hm, ?_⟩)
      rcases h3 with h3 | rfl
      · exact Or.inl (ih a t (by omega) (okArg hs ha) ht h3)
      · exact Or.inr rfl
    · have hall2 : ∀ c, c ∈ (applyT bs t).args → gt (applyT bs s) c = true := fun c hc => by
        rw [applyT_fn htv] at hc
        obtain ⟨d, hd, rfl⟩ := List.mem_map.1 hc
        have := arg_sz hd
        exact ih s d (by omega) hs (okArg ht hd) (hall d hd)
      refine (gt_iff os ot).2 (Or.inr ⟨by rw [applyT_fn hv], by rw [applyT_fn htv], by rw [applyT_fn hv, applyT_fn htv]; exact hf, hall2, ?_⟩)
      rw [applyT_fn hv, applyT_fn htv]
      rcases hlast with hl | ⟨hl, hx⟩
      · exact Or.inl hl
      · refine Or.inr ⟨hl, ?_⟩
        obtain ⟨k, a, b, q1, q2, q3, q4, q5⟩ := firstN_iff.1 hx
        have ma := List.mem_of_getElem? q1
        have mb := List.mem_of_getElem? q2
        have za := arg_sz ma
        have zb := arg_sz mb
        have hg := ih a b (by omega) (okArg hs ma) (okArg ht mb) q4
        refine firstN_iff.2 ⟨k, applyT bs a, applyT bs b, by simp [q1], by simp [q2], fun e => ?_, hg, fun i hi => by simp [q5 i hi]⟩
        rw [e, gt_irr (okP_apply hb (okArg ht mb))] at hg
        cases hg
theorem gt_stable {ar : List Int} {bs : List (Int × T)} (hb : ∀ v u, (v, u) ∈ bs → okP ar u) {s t : T} (hs : okP ar s) (ht : okP ar t) (h : gt s t = true) : gt (applyT bs s) (applyT bs t) = true := gt_stable_aux hb _ s t (Nat.le_refl _) hs ht h

end Go.Proofs.Ytbkedppkdhfpoaa

namespace Go.Proofs.Ytbkedppkdhfpoaa

/-- Bindings grown so that the pattern becomes the term; none: they can't. -/
def growT : T → T → List (Int × T) → Option (List (Int × T))
  | ⟨pv, pf, pargs⟩, t, bs =>
    if pv ≠ 0 then (match lookB bs pv with
      | some u => if sameT u t then some bs else none
      | none => some (bs ++ [(pv, t)]))
    else if t.v ≠ 0 ∨ pf ≠ t.f then none else growL pargs t.args bs
  where
  growL : List T → List T → List (Int × T) → Option (List (Int × T))
    | [], [], bs => some bs
    | p :: ps, t :: ts, bs => match growT p t bs with
      | some b2 => growL ps ts b2
      | none => none
    | _, _, _ => none
theorem growT_eq (p t : T) (bs : List (Int × T)) : growT p t bs = if p.v ≠ 0 then (match lookB bs p.v with
      | some u => if sameT u t then some bs else none
      | none => some (bs ++ [(p.v, t)]))
    else if t.v ≠ 0 ∨ p.f ≠ t.f then none else growT.growL p.args t.args bs := by cases p; rfl
theorem growL_cons (p t : T) (ps ts : List T) (bs : List (Int × T)) : growT.growL (p :: ps) (t :: ts) bs = match growT p t bs with
    | some b2 => growT.growL ps ts b2
    | none => none := rfl
theorem growL_length : ∀ {ps ts : List T} {bs : List (Int × T)}, ps.length ≠ ts.length → growT.growL ps ts bs = none := by
  intro ps
  induction ps with
  | nil =>
    intro ts bs h
    cases ts with
    | nil => simp at h
    | cons t ts => rfl
  | cons p ps ih =>
    intro ts bs h
    cases ts with
    | nil => rfl
    | cons t ts =>
      rw [growL_cons]
      cases growT p t bs with
      | none => rfl
      | some b2 => exact ih (by simpa using h)
theorem growL_append : ∀ {ps ts ps2 ts2 : List T} {bs : List (Int × T)}, ps.length = ts.length → growT.growL (ps ++ ps2) (ts ++ ts2) bs = match growT.growL ps ts bs with
    | some b2 => growT.growL ps2 ts2 b2
    | none => none := by
  intro ps
  induction ps with
  | nil =>
    intro ts ps2 ts2 bs h
    cases ts with
    | nil => rfl
    | cons t ts => simp at h
  | cons p ps ih =>
    intro ts ps2 ts2 bs h
    cases ts with
    | nil => simp at h
    | cons t ts =>
      rw [List.cons_append, List.cons_append, growL_cons, growL_cons]
      cases growT p t bs with
      | none => rfl
      | some b2 => exact ih (by simpa using h)
/-- One more pair. -/
theorem growL_step {ps ts : List T} {bs b1 : List (Int × T)} {k : Nat} {p t : T} (hl : ps.length = ts.length) (hp : ps[k]? = some p) (ht : ts[k]? = some t) (h : growT.growL (ps.take k) (ts.take k) bs = some b1) :
    (∀ b2, growT p t b1 = some b2 → growT.growL (ps.take (k + 1)) (ts.take (k + 1)) bs = some b2) ∧ (growT p t b1 = none → growT.growL ps ts bs = none) := by
  have hlp : k < ps.length := by
    rcases Nat.lt_or_ge k ps.length with h1 | h1
    · exact h1
    · rw [List.getElem?_eq_none h1] at hp; cases hp
  constructor
  · intro b2 h2
    rw [List.take_add_one, List.take_add_one, hp, ht]
    show growT.growL (ps.take k ++ [p]) (ts.take k ++ [t]) bs = _
    rw [growL_append (by simp [hl]), h]
    show growT.growL [p] [t] b1 = _
    rw [growL_cons, h2]; rfl
  · intro h2
    have e1 : ps = ps.take k ++ p :: ps.drop (k + 1) := by
      rw [List.getElem?_eq_getElem hlp] at hp
      simp only [Option.some.injEq] at hp
      rw [← hp, List.getElem_cons_drop, List.take_append_drop]
    have e2 : ts = ts.take k ++ t :: ts.drop (k + 1) := by
      rw [List.getElem?_eq_getElem (by omega)] at ht
      simp only [Option.some.injEq] at ht
      rw [← ht, List.getElem_cons_drop, List.take_append_drop]
    rw [e1, e2, growL_append (by simp [hl]), h]
    show growT.growL (p :: _) (t :: _) b1 = none
    rw [growL_cons, h2]
/-- How many bindings come. -/
theorem grow_size : ∀ (n : Nat), (∀ (p t : T) (bs b2 : List (Int × T)), p.sz ≤ n → growT p t bs = some b2 → b2.length ≤ bs.length + p.sz) ∧ (∀ (ps ts : List T) (bs b2 : List (Int × T)), T.sz.szL ps ≤ n → growT.growL ps ts bs = some b2 → b2.length ≤ bs.length + T.sz.szL ps) := by
  intro n
  induction n with
  | zero =>
    refine ⟨fun p t bs b2 h => by have := p.sz_pos; omega, fun ps ts bs b2 h hg => ?_⟩
    cases ps with
    | nil =>
      cases ts with
      | nil => simp [growT.growL] at hg; rw [hg]; simp [T.szL_nil]
      | cons t ts => cases hg
    | cons p ps => have := p.sz_pos; rw [T.szL_cons] at h; omega
  | succ n ih =>
    have h1 : ∀ (p t : T) (bs b2 : List (Int × T)), p.sz ≤ n + 1 → growT p t bs = some b2 → b2.length ≤ bs.length + p.sz := fun p t bs b2 h hg => by
      have hpe := T.sz_eq p
      rw [growT_eq] at hg
      by_cases hv : p.v ≠ 0
      · rw [if_pos hv] at hg
        cases hl : lookB bs p.v with
        | some u =>
          rw [hl] at hg
          by_cases hs : sameT u t = true
          · simp only [hs, if_true, Option.some.injEq] at hg
            rw [← hg]; omega
          · simp [hs] at hg
        | none =>
          rw [hl] at hg
          simp only [Option.some.injEq] at hg
          rw [← hg, List.length_append]; simp; omega
      · rw [if_neg hv] at hg
        by_cases hc : t.v ≠ 0 ∨ p.f ≠ t.f
        · rw [if_pos hc] at hg; cases hg
        · rw [if_neg hc] at hg
          have := ih.2 p.args t.args bs b2 (by omega) hg
          omega
    refine ⟨h1, fun ps => ?_⟩
    induction ps with
    | nil =>
      intro ts bs b2 _ hg
      cases ts with
      | nil => simp [growT.growL] at hg; rw [hg]; simp [T.szL_nil]
      | cons t ts => cases hg
    | cons p ps iht =>
      intro ts bs b2 h hg
      rw [T.szL_cons] at h ⊢
      cases ts with
      | nil => cases hg
      | cons t ts =>
        rw [growL_cons] at hg
        cases hgt : growT p t bs with
        | none => rw [hgt] at hg; cases hg
        | some b3 =>
          rw [hgt] at hg
          have g1 := h1 p t bs b3 (by omega) hgt
          have g2 := iht ts b3 b2 (by omega) hg
          omega

end Go.Proofs.Ytbkedppkdhfpoaa

namespace Go.Proofs.Ytbkedppkdhfpoaa
open Go.RowKit

/-- Bindings lie one behind the other from an address on, four cells each, in blocks of which p holds. -/
def Binds (p : Nat → Prop) (w : World) : List (Int × T) → Option Addr → Prop
  | [], _ => True
  | x :: bs, a => ∃ b off a1 cap, a = some ⟨b, off, none⟩ ∧ p b ∧ w.cell? ⟨b, off, none⟩ = some (.int .i64 x.1) ∧ w.cell? ⟨b, off + 1, none⟩ = some (.int .i64 x.2.v) ∧ w.cell? ⟨b, off + 2, none⟩ = some (.int .i64 x.2.f) ∧ w.cell? ⟨b, off + 3, none⟩ = some (.slice a1 x.2.args.length cap) ∧ InP p w x.2.args a1 ∧ Binds p w bs (some ⟨b, off + 4, none⟩)
theorem Binds_some {p : Nat → Prop} {w : World} {bs : List (Int × T)} {a : Option Addr} (h : Binds p w bs a) (hp : 0 < bs.length) : ∃ b off, a = some ⟨b, off, none⟩ := by
  cases bs with
  | nil => simp at hp
  | cons x bs => obtain ⟨b, off, _, _, rfl, _⟩ := h; exact ⟨b, off, rfl⟩
theorem Binds_mono {p q : Nat → Prop} {w w' : World} (hs : ∀ b o v, p b → w.cell? ⟨b, o, none⟩ = some v → q b ∧ w'.cell? ⟨b, o, none⟩ = some v) : ∀ {bs : List (Int × T)} {a : Option Addr}, Binds p w bs a → Binds q w' bs a := by
  intro bs
  induction bs with
  | nil => intro a _; trivial
  | cons x bs ih =>
    intro a h
    obtain ⟨b, off, a1, cap, rfl, hp, h0, h1, h2, h3, hin, hr⟩ := h
    exact ⟨b, off, a1, cap, rfl, (hs _ _ _ hp h0).1, (hs _ _ _ hp h0).2, (hs _ _ _ hp h1).2, (hs _ _ _ hp h2).2, (hs _ _ _ hp h3).2, InP_mono hs _ _ _ (Nat.le_refl _) hin, ih hr⟩
theorem Binds_below {p : Nat → Prop} {w w' : World} {bs : List (Int × T)} {a : Option Addr} (hb : Below w.heap.size w w') (h : Binds p w bs a) : Binds p w' bs a :=
  Binds_mono (fun _ _ _ hp hv => ⟨hp, cell_below hb hv⟩) h
theorem Binds_imp {p q : Nat → Prop} {w : World} {bs : List (Int × T)} {a : Option Addr} (hpq : ∀ k, p k → q k) (h : Binds p w bs a) : Binds q w bs a :=
  Binds_mono (fun _ _ _ hp hv => ⟨hpq _ hp, hv⟩) h
theorem Binds_lt {p : Nat → Prop} {w : World} {bs : List (Int × T)} {a : Option Addr} (h : Binds p w bs a) : Binds (fun k => p k ∧ k < w.heap.size) w bs a :=
  Binds_mono (fun _ _ _ hp hv => ⟨⟨hp, lt_of_cell hv⟩, hv⟩) h
/-- The binding at index k: its four cells. -/
theorem Binds_at {p : Nat → Prop} {w : World} : ∀ {bs : List (Int × T)} {b off k : Nat} {x : Int × T}, Binds p w bs (some ⟨b, off, none⟩) → bs[k]? = some x →
    ∃ a cap, p b ∧ w.cell? ⟨b, off + k * 4, none⟩ = some (.int .i64 x.1) ∧ w.cell? ⟨b, off + k * 4 + 1, none⟩ = some (.int .i64 x.2.v) ∧ w.cell? ⟨b, off + k * 4 + 2, none⟩ = some (.int .i64 x.2.f) ∧ w.cell? ⟨b, off + k * 4 + 3, none⟩ = some (.slice a x.2.args.length cap) ∧ InP p w x.2.args a := by
  intro bs
  induction bs with
  | nil => intro b off k x _ h; simp at h
  | cons y bs ih =>
    intro b off k x h hk
    obtain ⟨b', off', a1, cap, hb, hp, h0, h1, h2, h3, hin, hr⟩ := h
    simp only [Option.some.injEq, Addr.mk.injEq] at hb
    obtain ⟨rfl, rfl, _⟩ := hb
    cases k with
    | zero =>
      simp at hk; subst hk
      exact ⟨a1, cap, hp, by simpa using h0, by simpa using h1, by simpa using h2, by simpa using h3, hin⟩
    | succ k =>
      simp at hk
      obtain ⟨a, c, _, g0, g1, g2, g3, gl⟩ := ih hr hk
      have e : off + (k + 1) * 4 = off + 4 + k * 4 := by omega
      exact ⟨a, c, hp, by rw [e]; exact g0, by rw [e]; exact g1, by rw [e]; exact g2, by rw [e]; exact g3, gl⟩

/-- Which binding a variable has, counted from n on; -1: none. -/
def idxB (v : Int) : List (Int × T) → Nat → Int
  | [], _ => -1
  | x :: bs, n => if x.1 = v then n else idxB v bs (n + 1)
theorem idxB_none {v : Int} : ∀ {bs : List (Int × T)} {n : Nat}, lookB bs v = none → idxB v bs n = -1 := by
  intro bs
  induction bs with
  | nil => intro n _; rfl
  | cons x bs ih =>
    intro n h
    obtain ⟨w, u⟩ := x
    rw [lookB] at h
    by_cases e : w = v
    · rw [if_pos e] at h; cases h
    · rw [if_neg e] at h
      rw [idxB, if_neg e]; exact ih h
theorem idxB_some {v : Int} {u : T} : ∀ {bs : List (Int × T)} {n : Nat}, lookB bs v = some u → ∃ k : Nat, idxB v bs n = ((n + k : Nat) : Int) ∧ k < bs.length ∧ bs[k]? = some (v, u) := by
  intro bs
  induction bs with
  | nil => intro n h; cases h
  | cons x bs ih =>
    intro n h
    obtain ⟨w, u'⟩ := x
    rw [lookB] at h
    by_cases e : w = v
    · rw [if_pos e] at h
      simp only [Option.some.injEq] at h
      exact ⟨0, by rw [idxB, if_pos e]; rfl, by simp, by rw [e, h]; rfl⟩
    · rw [if_neg e] at h
      obtain ⟨k, h1, h2, h3⟩ := ih (n := n + 1) h
      exact ⟨k + 1, by rw [idxB, if_neg e, h1]; congr 1; omega, by simp; omega, by simpa using h3⟩
theorem idxB_step {v : Int} {bs : List (Int × T)} {k : Nat} {x : Int × T} (hx : bs[k]? = some x) : idxB v (bs.drop k) k = if x.1 = v then (k : Int) else idxB v (bs.drop (k + 1)) (k + 1) := by
  have hlt : k < bs.length := by
    rcases Nat.lt_or_ge k bs.length with h1 | h1
    · exact h1
    · rw [List.getElem?_eq_none h1] at hx; cases hx
  have e : bs.drop k = x :: bs.drop (k + 1) := by
    rw [List.getElem?_eq_getElem hlt] at hx
    simp only [Option.some.injEq] at hx
    rw [← hx, List.getElem_cons_drop]
  rw [e, idxB]

theorem Try.underlying51 : Try.prog.underlying 51 = some (.slice 95) := by kernel_rfl
set_option maxRecDepth 100000 in
set_option maxHeartbeats 1000000 in
theorem boundTo_any (bs : List (Int × T)) (a : Option Addr) (cap : Nat) (v : Int) (w : World) (p : Nat → Prop) (hl : bs.length ≤ 9223372036854775807) (hin : Binds p w bs a) :
    Calls Try.prog 70 #[.slice a bs.length cap, .int .i64 v] w fun e w' => e = .returned (.int .i64 (idxB v bs 0)) ∧ w' = w := by
  go_enter Try.func70, Try.ntmps70
  go_wp2_with fail
  go_loop [5] (fun i => ∃ k : Nat, k ≤ bs.length ∧ i = .int .i64 k ∧ Hid (idxB v bs 0 = idxB v (bs.drop k) k)) (fun i => bs.length - (intOf i).toNat)
  case atStart => exact ⟨0, Nat.zero_le _, rfl, rfl⟩
  case round =>
    obtain ⟨k, hk, rfl, HS⟩ := hrel
    by_cases hlt : k < bs.length
    · obtain ⟨b, off, rfl⟩ := Binds_some hin (by omega)
      obtain ⟨x, hx⟩ : ∃ x, bs[k]? = some x := ⟨bs[k], List.getElem?_eq_getElem hlt⟩
      obtain ⟨_, _, _, k0, _, _, _, _⟩ := Binds_at hin hx
      have hkI : (k : Int) < bs.length := by omega
      have hk0 : (0 : Int) ≤ k := by omega
      have HS2 := hide (HS.out.trans (idxB_step hx))
      clear hx HS
      by_cases hv : x.1 = v
      · have e0 : (x.1 == v) = true := by simpa using hv
        rw [if_pos hv] at HS2
        clear hv
        go_wp2_with fail
        go_ret
        exact ⟨ret_int HS2.out.symm, rfl⟩
      · have e0 : (x.1 == v) = false := by simpa using hv
        rw [if_neg hv] at HS2
        clear hv
        go_wp2_with fail
        go_round
        case rel => exact ⟨k + 1, by omega, by go_num, HS2.out⟩
        case measure => simp [intOf]; omega
    · have hk2 : k = bs.length := by omega
      subst hk2
      have HS2 : Hid (idxB v bs 0 = -1) := by show _ = _; rw [HS.out, List.drop_length]; rfl
      go_wp2_with fail
      go_ret
      exact ⟨ret_int HS2.out.symm, rfl⟩

end Go.Proofs.Ytbkedppkdhfpoaa

namespace Go.Proofs.Ytbkedppkdhfpoaa
open Go.RowKit

/-- What is wrong with bindings behind one of a variable. -/
def bindErr (ar : List Int) : Int → List (Int × T) → Int
  | _, [] => 0
  | last, x :: bs => if x.1 < 1 ∨ 1000 < x.1 then 3 else if x.1 ≤ last then 4 else if termErr ar x.2 = 0 then bindErr ar x.1 bs else termErr ar x.2
def bindsErr (ar : List Int) (bs : List (Int × T)) : Int := if sigErr ar = 0 then bindErr ar 0 bs else sigErr ar
/-- The variable ahead of the k-th binding. -/
def lastB (bs : List (Int × T)) (k : Nat) : Int := if k = 0 then 0 else ((bs[k - 1]?).map (·.1)).getD 0
theorem lastB_succ {bs : List (Int × T)} {k : Nat} {x : Int × T} (hx : bs[k]? = some x) : lastB bs (k + 1) = x.1 := by
  rw [lastB, if_neg (by omega), Nat.add_sub_cancel, hx]; rfl
theorem bindErr_step {ar : List Int} {last : Int} {bs : List (Int × T)} {k : Nat} {x : Int × T} (hx : bs[k]? = some x) : bindErr ar last (bs.drop k) = if x.1 < 1 ∨ 1000 < x.1 then 3 else if x.1 ≤ last then 4 else if termErr ar x.2 = 0 then bindErr ar x.1 (bs.drop (k + 1)) else termErr ar x.2 := by
  have hlt : k < bs.length := by
    rcases Nat.lt_or_ge k bs.length with h1 | h1
    · exact h1
    · rw [List.getElem?_eq_none h1] at hx; cases hx
  have e : bs.drop k = x :: bs.drop (k + 1) := by
    rw [List.getElem?_eq_getElem hlt] at hx
    simp only [Option.some.injEq] at hx
    rw [← hx, List.getElem_cons_drop]
  rw [e, bindErr]
theorem bindErr_ok {ar : List Int} : ∀ {bs : List (Int × T)} {last : Int}, bindErr ar last bs = 0 → ∀ v u, (v, u) ∈ bs → 1 ≤ v ∧ v ≤ 1000 ∧ u.sz ≤ 120 ∧ okP ar u := by
  intro bs
  induction bs with
  | nil => intro last _ v u h; cases h
  | cons x bs ih =>
    intro last h v u hm
    rw [bindErr] at h
    by_cases h1 : x.1 < 1 ∨ 1000 < x.1
    · rw [if_pos h1] at h; cases h
    · rw [if_neg h1] at h
      by_cases h2 : x.1 ≤ last
      · rw [if_pos h2] at h; cases h
      · rw [if_neg h2] at h
        by_cases h3 : termErr ar x.2 = 0
        · rw [if_pos h3] at h
          rcases List.mem_cons.1 hm with e | hm
          · subst e
            exact ⟨by omega, by omega, (termErr_iff.1 h3).1, (termErr_iff.1 h3).2⟩
          · exact ih h v u hm
        · rw [if_neg h3] at h; exact absurd h h3

attribute [local go_sem ↓] Go.wp_at_zero Go.wp_at_succ
set_option maxRecDepth 100000 in
set_option maxHeartbeats 1000000 in
theorem refCheckBindings_any (ar : List Int) (ga : Option Addr) (gcap : Nat) (bs : List (Int × T)) (a : Option Addr) (cap : Nat) (w : World) (p : Nat → Prop) (hl : bs.length ≤ 9223372036854775807) (hg : Ints w ar ga) (hin : Binds p w bs a) :
    Calls Try.prog 30 #[.agg #[.slice ga ar.length gcap], .slice a bs.length cap] w fun e w' => e = .returned (.int .i64 (bindsErr ar bs)) ∧ Below w.heap.size w w' := by
  go_enter Try.func30, Try.ntmps30
  go_wp2_with fail
  refine (checkSignature_any ar ga gcap _ (Ints_alloc _ hg)).mono ?_
  rintro e w1 ⟨rfl, hb1⟩
  have hz1 : w.heap.size < w1.heap.size := by have := hb1.size; simp at this; omega
  have hbw : Below w.heap.size w w1 := (below1 _ _).trans (hb1.mono (by simp))
  have cg : w1.cell? ⟨w.heap.size, 0, none⟩ = some (.slice ga ar.length gcap) := by
    rw [hb1.cell (p := ⟨w.heap.size, 0, none⟩) (by simp), cell_new _ rfl]; rfl
  clear hb1
  by_cases hs : sigErr ar = 0
  · have hgl := sig_len hs
    have hfin : bindsErr ar bs = bindErr ar 0 bs := by rw [bindsErr, if_pos hs]
    have Hfin := hide hfin
    rw [hs]
    clear hfin hs
    go_wp2_with fail
    go_loopw [5, 6] (fun e i wr => ∃ (k : Nat) (ek : Int), k ≤ bs.length ∧ i = .int .i64 k ∧ e = .int .i64 ek ∧ Hid ((ek = 0 → bindErr ar 0 bs = bindErr ar (lastB bs k) (bs.drop k)) ∧ (ek ≠ 0 → bindErr ar 0 bs = ek)) ∧ Below w1.heap.size w1 wr) (fun _ i _ => bs.length - (intOf i).toNat)
    case atStart => exact ⟨0, 0, Nat.zero_le _, rfl, rfl, ⟨fun _ => rfl, fun h => absurd rfl h⟩, Below.refl _ _⟩
    case round =>
      obtain ⟨k, ek, hk, rfl, rfl, HL, hb⟩ := hrel
      have hzr := hb.size
      by_cases hlt : k < bs.length
      · by_cases hek : ek = 0
        · subst hek
          have hin' := Binds_below hb (Binds_below hbw hin)
          have hg' := Ints_below hb (Ints_below hbw hg)
          obtain ⟨b, off, rfl⟩ := Binds_some hin (by omega)
          obtain ⟨x, hx⟩ : ∃ x, bs[k]? = some x := ⟨bs[k], List.getElem?_eq_getElem hlt⟩
          obtain ⟨a1, cap1, _, c0, c1, c2, c3, hin1⟩ := Binds_at hin' hx
          have Hst := hide ((HL.out.1 rfl).trans (bindErr_step hx))
          have Hls := hide (lastB_succ hx)
          have cg' : wr.cell? ⟨w.heap.size, 0, none⟩ = some (.slice ga ar.length gcap) := cell_below hb cg
          have hkI : (k : Int) < bs.length := by omega
          have hk0 : (0 : Int) ≤ k := by omega
          have hbR : Below w.heap.size w wr := hbw.trans (hb.mono (by omega))
          by_cases h1 : x.1 < 1 ∨ 1000 < x.1
          · rw [if_pos h1] at Hst
            have H1 : Hid (¬ (1 ≤ x.1 ∧ x.1 ≤ 1000)) := fun h => by omega
            clear h1 hx HL
            go_wp2_with (go_at_call 63; refine (between_no _ _ _ _ H1.out).mono ?_; rintro e w' ⟨rfl, rfl⟩)
            go_ret
            exact ⟨ret_int (by rw [Hfin.out, Hst.out]), hbR⟩
          · rw [if_neg h1] at Hst
            have H1 : Hid (1 ≤ x.1 ∧ x.1 ≤ 1000) := ⟨by omega, by omega⟩
            clear h1
            have hS := hide (fun (w' : World) (hbb : Below wr.heap.size wr w') => (show w'.cell? ⟨w.heap.size, 0, none⟩ = some (.slice ga ar.length gcap) ∧ w'.cell? ⟨b, off + k * 4 + 1, none⟩ = some (.int .i64 x.2.v) ∧ w'.cell? ⟨b, off + k * 4 + 1 + 1, none⟩ = some (.int .i64 x.2.f) ∧ w'.cell? ⟨b, off + k * 4 + 1 + 2, none⟩ = some (.slice a1 x.2.args.length cap1) from ⟨cell_below hbb cg', cell_below hbb c1, cell_below hbb c2, cell_below hbb c3⟩))
            have HL0 : Hid (k = 0 → lastB bs k = 0) := fun h => by rw [h]; rfl
            have Hx1 : Hid (∀ (k' : Nat), k = k' + 1 → ∃ y0, wr.cell? ⟨b, off + k' * 4, none⟩ = some (.int .i64 y0) ∧ lastB bs k = y0) := fun k' e => by
              obtain ⟨y, hy⟩ : ∃ y, bs[k']? = some y := ⟨bs[k']'(by omega), List.getElem?_eq_getElem _⟩
              obtain ⟨_, _, _, d0, _⟩ := Binds_at hin' hy
              exact ⟨y.1, d0, by rw [e, lastB_succ hy]⟩
            have Hin1 := hide (InP_imp (q := fun _ => True) (fun _ _ => trivial) hin1)
            clear hx HL hin hin' hin1
            go_upto_region 7 with (go_at_call 63; refine (between_yes _ _ _ _ H1.out.1 H1.out.2).mono ?_; rintro e w' ⟨rfl, hw'⟩; obtain rfl := hw'.symm; clear hw')
            go_cut [41] (fun v41 wc => v41 = .bool (decide (x.1 ≤ lastB bs k)) ∧ Hid (Below wr.heap.size wr wc))
            case first =>
              by_cases hk1 : 0 < k
              · obtain ⟨k', rfl⟩ : ∃ k', k = k' + 1 := ⟨k - 1, by omega⟩
                obtain ⟨y0, d0, hy0⟩ := Hx1.out k' rfl
                have hk'I : (k' : Int) < bs.length := by omega
                have hk'0 : (0 : Int) ≤ k' := by omega
                have hd1 : decide ((0 : Int) < (k' : Int) + 1) = true := decide_eq_true (by omega)
                have Hy0 := hide hy0
                clear Hx1 HL0 hy0 hk1
                go_wp2_with fail
                go_quiet (fail)
                go_wp2_with fail
                go_meet
                exact ⟨by rw [Hy0.out], drewB _ _ _⟩
              · obtain rfl : k = 0 := by omega
                have Hl0 := hide (HL0.out rfl)
                clear Hx1 HL0 hk1
                go_wp2_with fail
                go_quiet (fail)
                go_wp2_with fail
                go_meet
                exact ⟨by rw [Hl0.out, decide_eq_false (by have := H1.out; omega)], drewB _ _ _⟩
            case rest =>
              obtain ⟨rfl, HBc⟩ := hcut
              have hzc := HBc.out.size
              by_cases h2 : x.1 ≤ lastB bs k
              · rw [if_pos h2] at Hst
                rw [decide_eq_true h2]
                clear h2
                go_wp2_with fail
                go_ret
                exact ⟨ret_int (by rw [Hfin.out, Hst.out]), hbR.trans (HBc.out.mono hbR.size)⟩
              · rw [if_neg h2] at Hst
                rw [decide_eq_false h2]
                have hSc := hide (fun (w' : World) (hbb : Below wc.heap.size wc w') => hS.out w' (HBc.out.trans (hbb.mono hzc)))
                have Hgc := hide (Ints_below HBc.out hg')
                have Hic := hide (InP_below HBc.out Hin1.out)
                clear h2 c0 c1 c2 c3 cg' hS
                go_wp2_with fail
                go_region_held3 (fun w' => w'.cell? ⟨w.heap.size, 0, none⟩ = some (.slice ga ar.length gcap) ∧ w'.cell? ⟨b, off + k * 4 + 1, none⟩ = some (.int .i64 x.2.v) ∧ w'.cell? ⟨b, off + k * 4 + 1 + 1, none⟩ = some (.int .i64 x.2.f) ∧ w'.cell? ⟨b, off + k * 4 + 1 + 2, none⟩ = some (.slice a1 x.2.args.length cap1)) ((first | (refine hSc.out _ ?_; (repeat' (first | with_reducible exact Hid.out ‹Hid (Below _ _ _)› | with_reducible exact Below.refl _ _ | (with_reducible refine Below.drew ?_))); done) | go_keep)) ((first
                  | (go_at_call 31
                     refine (refCheckTerm_any ar ga gcap x.2 a1 cap1 _ ?_ hgl ?_).mono ?_
                     · exact Ints_below (w := wc) ⟨rfl, rfl, rfl, Nat.le_refl _, fun _ _ => rfl⟩ Hgc.out
                     · exact InP_heap (w := wc) rfl Hic.out
                     rintro e w3 ⟨rfl, hb3⟩
                     have Hbb : Hid (Below wc.heap.size wc w3) := below_undrew hb3)))
                have hb4 : Below w1.heap.size w1 w3 := hb.trans ((HBc.out.trans (Hbb.out.mono hzc)).mono hzr)
                have Hrel : Hid ((termErr ar x.2 = 0 → bindErr ar 0 bs = bindErr ar (lastB bs (k + 1)) (bs.drop (k + 1))) ∧ (termErr ar x.2 ≠ 0 → bindErr ar 0 bs = termErr ar x.2)) := ⟨fun h => by rw [Hst.out, if_pos h, Hls.out], fun h => by rw [Hst.out, if_neg h]⟩
                clear Hst Hls
                go_wp2_with fail
                go_roundw
                case rel => exact ⟨k + 1, _, by omega, by go_num, rfl, Hrel, hb4⟩
                case measure => simp [intOf]; omega
        · have hek' : (ek == 0) = false := by simpa using hek
          have He := hide (HL.out.2 hek)
          clear hek
          go_wp2_with fail
          go_ret
          exact ⟨ret_int (by rw [Hfin.out, He.out]), hbw.trans (hb.mono (by omega))⟩
      · have hlt' : ¬ (k : Int) < bs.length := by omega
        have hk2 : k = bs.length := by omega
        have Hek : Hid (bindErr ar 0 bs = ek) := by
          show _ = _
          by_cases h0 : ek = 0
          · rw [HL.out.1 h0, hk2, List.drop_length, h0]; rfl
          · exact HL.out.2 h0
        go_wp2_with fail
        go_ret
        exact ⟨ret_int (by rw [Hfin.out, Hek.out]), hbw.trans (hb.mono (by omega))⟩
  · have hfin : bindsErr ar bs = sigErr ar := by rw [bindsErr, if_neg hs]
    have Hfin := hide hfin
    have hs1 : (sigErr ar == 0) = false := by simpa using hs
    clear hfin hs
    generalize sigErr ar = sg at *
    go_wp2_with fail
    refine wp_loop_rounds 1 ?_
    rw [rounds_succ]
    by_cases h0 : 0 < bs.length
    · have h0' : (0 : Int) < bs.length := by omega
      go_wp2_with fail
      go_ret
      exact ⟨ret_int Hfin.out.symm, hbw⟩
    · have h0' : ¬ (0 : Int) < bs.length := by omega
      go_wp2_with fail
      go_ret
      exact ⟨ret_int Hfin.out.symm, hbw⟩

end Go.Proofs.Ytbkedppkdhfpoaa
