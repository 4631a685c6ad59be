/- The unifier counts the parts of what a part has become. Matching, as plain data: by which bindings is a pattern a term? No word of the program's memory here. The program's own matching: by a map that grows. The unifier makes parts the same. The unifier's join. A list of bindings of the call's own. -/
import Derived.BigQuiet
import Derived.Test.YtbkedppkdhfpoaaJoined10
namespace Go.Proofs.Ytbkedppkdhfpoaa
open Go.RowKit

/-- Nothing but block b has changed. -/
structure Upon (b : Nat) (w w' : World) : Prop where
  os : w'.os = w.os
  tape : w'.tape = w.tape
  output : w'.output = w.output
  size : w'.heap.size = w.heap.size
  block : ∀ k, k ≠ b → w'.heap[k]? = w.heap[k]?
theorem Upon.refl (b : Nat) (w : World) : Upon b w w := ⟨rfl, rfl, rfl, rfl, fun _ _ => rfl⟩
theorem Upon.trans {b : Nat} {w w' w'' : World} (h : Upon b w w') (h' : Upon b w' w'') : Upon b w w'' :=
  ⟨h'.os.trans h.os, h'.tape.trans h.tape, h'.output.trans h.output, h'.size.trans h.size, fun k hk => (h'.block k hk).trans (h.block k hk)⟩
theorem Upon.below {b n : Nat} {w w' : World} (h : Upon b w w') (hn : n ≤ b) : Below n w w' := ⟨h.os, h.tape, h.output, by rw [h.size]; exact Nat.le_refl _, fun k hk => h.block k (by omega)⟩
theorem Upon.set {b : Nat} {w w' : World} (h : Upon b w w') (o : Nat) (v : Value) : Upon b w (w'.setCell ⟨b, o, none⟩ v) :=
  h.trans ⟨rfl, rfl, rfl, by simp [World.setCell], fun k hk => Below.heap_setCell _ _ _ _ hk⟩
theorem Upon.cell {b : Nat} {w w' : World} (h : Upon b w w') {k o : Nat} (hk : k ≠ b) : w'.cell? ⟨k, o, none⟩ = w.cell? ⟨k, o, none⟩ := World.cell?_of_block (w := w) (a := ⟨k, o, none⟩) (h.block k hk)

theorem NumsQ_upon {q : Nat → Prop} {w w' : World} {b : Nat} (h : Upon b w w') (hq : ∀ k, q k → k ≠ b) {ns : List Nat} {a : Option Addr} (hn : NumsQ q w ns a) : NumsQ q w' ns a := by
  obtain ⟨hl, hn⟩ := hn
  rcases hn with h0 | ⟨x, off, h1, h2, h3⟩
  · exact ⟨hl, Or.inl h0⟩
  · exact ⟨hl, Or.inr ⟨x, off, h1, h2, fun i hi => by rw [h.cell (hq x h2)]; exact h3 i hi⟩⟩

/-- A part's size is written. -/
theorem UAt.setSize {q : Nat → Prop} {w : World} {u b c : Nat} {P : List Pt} (h : UAt q w u b c P) {k : Nat} {p : Pt} (hp : P[k]? = some p) (s : Int) : UAt q (w.setCell ⟨b, k * 6 + 5, none⟩ (.int .i64 s)) u b c (P.set k { p with size := s }) := by
  have hU := (Upon.refl b w).set (k * 6 + 5) (.int .i64 s)
  have hq : ∀ x, q x → x ≠ b := fun x hx => (h.qu x hx).2
  refine ⟨by rw [hU.cell h.ub, List.length_set]; exact h.list, fun j r hr => ?_, h.qu, h.ub, by rw [List.length_set]; exact h.len, fun j => by rw [World.frozen?_setCell]; exact h.frb j, fun j => by rw [World.frozen?_setCell]; exact h.fru j, by rw [hU.size]; exact h.ltb⟩
  by_cases e : j = k
  · subst e
    have hl := (List.getElem?_eq_some_iff.1 hp).1
    rw [List.getElem?_set_self hl] at hr
    cases hr
    obtain ⟨ta, tl, tc, aa, ac, c0, c1, c2, c3, c4, c5, hn⟩ := h.at6 j p hp
    refine ⟨ta, tl, tc, aa, ac, ?_, ?_, ?_, ?_, ?_, World.cell?_setCell_same _ _ _ c5, NumsQ_upon hU hq hn⟩
    all_goals (rw [World.cell?_setCell_other _ _ _ _ (by simp)]; assumption)
  · rw [List.getElem?_set_ne (fun h' => e h'.symm)] at hr
    obtain ⟨ta, tl, tc, aa, ac, c0, c1, c2, c3, c4, c5, hn⟩ := h.at6 j r hr
    refine ⟨ta, tl, tc, aa, ac, ?_, ?_, ?_, ?_, ?_, ?_, NumsQ_upon hU hq hn⟩
    all_goals (rw [World.cell?_setCell_other _ _ _ _ (by simp <;> omega)]; assumption)
/-- What a part is like is written. -/
theorem UAt.setLike {q : Nat → Prop} {w : World} {u b c : Nat} {P : List Pt} (h : UAt q w u b c P) {k : Nat} {p : Pt} (hp : P[k]? = some p) (s : Nat) : UAt q (w.setCell ⟨b, k * 6 + 4, none⟩ (.int .i64 (s : Int))) u b c (P.set k { p with like := s }) := by
  have hU := (Upon.refl b w).set (k * 6 + 4) (.int .i64 (s : Int))
  have hq : ∀ x, q x → x ≠ b := fun x hx => (h.qu x hx).2
  refine ⟨by rw [hU.cell h.ub, List.length_set]; exact h.list, fun j r hr => ?_, h.qu, h.ub, by rw [List.length_set]; exact h.len, fun j => by rw [World.frozen?_setCell]; exact h.frb j, fun j => by rw [World.frozen?_setCell]; exact h.fru j, by rw [hU.size]; exact h.ltb⟩
  by_cases e : j = k
  · subst e
    have hl := (List.getElem?_eq_some_iff.1 hp).1
    rw [List.getElem?_set_self hl] at hr
    cases hr
    obtain ⟨ta, tl, tc, aa, ac, c0, c1, c2, c3, c4, c5, hn⟩ := h.at6 j p hp
    refine ⟨ta, tl, tc, aa, ac, ?_, ?_, ?_, ?_, World.cell?_setCell_same _ _ _ c4, ?_, NumsQ_upon hU hq hn⟩
    all_goals (rw [World.cell?_setCell_other _ _ _ _ (by simp)]; assumption)
  · rw [List.getElem?_set_ne (fun h' => e h'.symm)] at hr
    obtain ⟨ta, tl, tc, aa, ac, c0, c1, c2, c3, c4, c5, hn⟩ := h.at6 j r hr
    refine ⟨ta, tl, tc, aa, ac, ?_, ?_, ?_, ?_, ?_, ?_, NumsQ_upon hU hq hn⟩
    all_goals (rw [World.cell?_setCell_other _ _ _ _ (by simp <;> omega)]; assumption)

/-- The sizes of arguments, added up; at the end the size is written down at h. -/
def measL (rec : List Pt → Nat → Option (Int × List Pt)) (h : Nat) : List Nat → Int → List Pt → Option (Int × List Pt)
  | [], s, P => match P[h]? with
    | none => none
    | some p => some (s, P.set h { p with size := s })
  | a :: l, s, P => match rec P a with
    | none => none
    | some x => if x.1 = -1 then some (-1, x.2) else if 0 ≤ x.1 ∧ x.1 ≤ 121 then measL rec h l (min (s + x.1) 121) x.2 else none
/-- The size of what a part has become, and the parts behind that; none: more than n steps. -/
def measF : Nat → List Pt → Nat → Option (Int × List Pt)
  | 0, _, _ => none
  | n + 1, P, k => match headF P (P.length + 1) k with
    | none => none
    | some h => match P[h]? with
      | none => none
      | some p => if p.size = 0 then measL (measF n) h p.args 1 (P.set h { p with size := -1 }) else some (p.size, P)
theorem measF_some {n : Nat} {P : List Pt} {k : Nat} {x : Int × List Pt} (hm : measF n P k = some x) : ∃ m h p, n = m + 1 ∧ headF P (P.length + 1) k = some h ∧ P[h]? = some p ∧ (if p.size = 0 then measL (measF m) h p.args 1 (P.set h { p with size := -1 }) else some (p.size, P)) = some x := by
  cases n with
  | zero => cases hm
  | succ n =>
    rw [measF] at hm
    split at hm
    · cases hm
    · rename_i h hh
      split at hm
      · cases hm
      · rename_i p hp
        exact ⟨n, h, p, rfl, hh, hp, hm⟩
theorem measL_nil {rec : List Pt → Nat → Option (Int × List Pt)} {h : Nat} {s : Int} {P : List Pt} {x : Int × List Pt} (hm : measL rec h [] s P = some x) : ∃ p, P[h]? = some p ∧ x = (s, P.set h { p with size := s }) := by
  rw [measL] at hm
  split at hm
  · cases hm
  · rename_i p hp; exact ⟨p, hp, (Option.some.inj hm).symm⟩
theorem measL_cons {rec : List Pt → Nat → Option (Int × List Pt)} {h a : Nat} {l : List Nat} {s : Int} {P : List Pt} {x : Int × List Pt} (hm : measL rec h (a :: l) s P = some x) : ∃ y, rec P a = some y ∧ (if y.1 = -1 then some (-1, y.2) else if 0 ≤ y.1 ∧ y.1 ≤ 121 then measL rec h l (min (s + y.1) 121) y.2 else none) = some x := by
  rw [measL] at hm
  split at hm
  · cases hm
  · rename_i y hy; exact ⟨y, hy, hm⟩

theorem NumsQ_at {q : Nat → Prop} {w : World} {ns : List Nat} {a : Option Addr} (h : NumsQ q w ns a) (hl : 0 < ns.length) : ∃ b off, a = some ⟨b, off, none⟩ ∧ q b ∧ ∀ i, i < ns.length → w.cell? ⟨b, off + i, none⟩ = some (.int .i64 (ns.getD i 0 : Nat)) := by
  rcases h.2 with h | h
  · rw [h] at hl; simp at hl
  · exact h

set_option maxRecDepth 100000 in
set_option maxHeartbeats 1000000 in
theorem meas_any (q : Nat → Prop) (u b c : Nat) (N : Nat) : ∀ (P : List Pt) (k : Nat) (x : Int × List Pt) (w : World), UAt q w u b c P → measF N P k = some x →
    Calls Try.prog 76 #[.pointer (some ⟨u, 0, none⟩), .int .i64 (k : Int)] w fun e w' => e = .returned (.int .i64 x.1) ∧ UAt q w' u b c x.2 ∧ Upon b w w' := by
  induction N with
  | zero => intro P k x w _ h; cases h
  | succ N ih =>
    intro P k x w hU hm
    obtain ⟨m, h, p, hN, hh, hp, hx⟩ := measF_some hm
    obtain rfl : N = m := by omega
    have Hh := hide (head_any q w u b c P _ k h hU hh)
    have hhl := (List.getElem?_eq_some_iff.1 hp).1
    obtain ⟨ta, tl, tc, aa, ac, c0, c1, c2, c3, c4, c5, hn⟩ := hU.at6 h p hp
    have hlen := hU.len
    have cu := hU.list
    have hfb := hide hU.frb
    have hf5 := hU.frb (h * 6 + 5)
    have hub := hU.ub
    have hhI : (h : Int) < P.length := by omega
    have hh0 : (0 : Int) ≤ h := by omega
    have HU := hide hU
    have Hp := hide hp
    have Hx := hide hx
    have hal := hn.1
    have Hn := hide hn
    have Hih := hide ih
    clear hU hp hx hn ih hm hh hN
    go_enter Try.func76, Try.ntmps76
    go_wp2_with fail
    refine Hh.out.mono ?_
    rintro e w' ⟨rfl, hw'⟩
    obtain rfl := hw'.symm
    clear hw' Hh
    by_cases hs : p.size = 0
    · have hx2 := Hx.out
      rw [if_pos hs] at hx2
      have e0 : (p.size != 0) = false := by simpa using hs
      have Hx2 := hide hx2
      clear hs hx2 Hx
      go_wp2_with fail
      obtain ⟨W1, hW1⟩ : ∃ W1, W1 = w.setCell ⟨b, h * 6 + 5, none⟩ (.int .i64 (-1)) := ⟨_, rfl⟩
      have HU1 : Hid (UAt q W1 u b c (P.set h { p with size := -1 })) := by rw [hW1]; exact HU.out.setSize Hp.out (-1)
      have HO1 : Hid (Upon b w W1) := by rw [hW1]; exact (Upon.refl b w).set _ _
      have Hn1 := hide (NumsQ_upon HO1.out (fun k hk => (HU.out.qu k hk).2) Hn.out)
      have hqu := hide HU.out.qu
      rw [← hW1]
      clear hW1 HU Hp Hn c0 c1 c2 c3 c4 c5 cu hf5 hfb e0
      go_loopw [6, 46] (fun sv i wr => ∃ (j : Nat) (S : Int) (Q : List Pt), j ≤ p.args.length ∧ i = .int .i64 (j : Int) ∧ sv = .int .i64 S ∧ 0 ≤ S ∧ S ≤ 121 ∧ Hid (measL (measF N) h (p.args.drop j) S Q = some x) ∧ Hid (UAt q wr u b c Q) ∧ Hid (Upon b W1 wr)) (fun _ i _ => p.args.length - (intOf i).toNat)
      case atStart => exact ⟨0, 1, _, Nat.zero_le _, rfl, rfl, by omega, by omega, Hx2, HU1, Upon.refl _ _⟩
      case round =>
        obtain ⟨j, S, Q, hj, rfl, rfl, hS0, hS1, HL, HUr, HOr⟩ := hrel
        by_cases hlt : j < p.args.length
        · obtain ⟨nb, noff, rfl, hqn, hcell⟩ := NumsQ_at (NumsQ_upon HOr.out (fun k hk => (hqu.out k hk).2) Hn1.out) (show 0 < p.args.length by omega)
          have cj := hcell j hlt
          have hd : p.args.drop j = p.args.getD j 0 :: p.args.drop (j + 1) := by
            rw [List.drop_eq_getElem_cons hlt]; simp [List.getD, List.getElem?_eq_getElem hlt]
          have hL := HL.out
          rw [hd] at hL
          obtain ⟨y, hy, hx⟩ := measL_cons hL
          have Hc := hide (Hih.out Q (p.args.getD j 0) y wr HUr.out hy)
          have Hx := hide hx
          generalize p.args.getD j 0 = aj at *
          have hjI : (j : Int) < p.args.length := by omega
          have hj0 : (0 : Int) ≤ j := by omega
          clear hL hd hx hy HL hcell
          go_wp2_with fail
          refine Hc.out.mono ?_
          rintro e w2 ⟨rfl, hU2, hO2⟩
          have HU2 := hide hU2
          have HO2 := hide (HOr.out.trans hO2)
          clear hU2 hO2 Hc HUr HOr
          by_cases hy1 : y.1 = -1
          · have e1 : (y.1 == -1) = true := by simpa using hy1
            have hx9 := Hx.out
            rw [if_pos hy1] at hx9
            have Hx9 := hide (Option.some.inj hx9)
            clear hy1 Hx hx9
            go_wp2_with fail
            go_ret
            rw [← Hx9.out]
            exact ⟨rfl, HU2.out, HO1.out.trans HO2.out⟩
          · have e1 : (y.1 == -1) = false := by simpa using hy1
            have hx9 := Hx.out
            rw [if_neg hy1] at hx9
            by_cases hy2 : 0 ≤ y.1 ∧ y.1 ≤ 121
            · rw [if_pos hy2] at hx9
              have Hx9 := hide hx9
              obtain ⟨hy3, hy4⟩ := hy2
              clear hy1 Hx hx9
              go_wp2_with fail
              go_roundw
              case rel => exact ⟨j + 1, min (S + y.1) 121, y.2, by omega, by go_num, by go_num, by omega, by omega, Hx9, HU2, HO2⟩
              case measure => simp [intOf]; omega
            · rw [if_neg hy2] at hx9; cases hx9
        · have hj2 : j = p.args.length := by omega
          subst hj2
          have hL := HL.out
          rw [List.drop_length] at hL
          obtain ⟨p', hp', hx'⟩ := measL_nil hL
          have hhl' := (List.getElem?_eq_some_iff.1 hp').1
          obtain ⟨ta', tl', tc', aa', ac', c0', c1', c2', c3', c4', c5', _⟩ := HUr.out.at6 h p' hp'
          have hlen' := HUr.out.len
          have cu' := HUr.out.list
          have hf5' := HUr.out.frb (h * 6 + 5)
          have hhI' : (h : Int) < Q.length := by omega
          have HUe := hide (HUr.out.setSize hp' S)
          have HOe := hide (HO1.out.trans (HOr.out.set (h * 6 + 5) (.int .i64 S)))
          have Hx' := hide hx'
          clear hL HL hp' hx' HUr HOr
          go_wp2_with fail
          go_ret
          rw [Hx'.out]
          exact ⟨rfl, HUe.out, HOe.out⟩
    · have hx2 := Hx.out
      rw [if_neg hs] at hx2
      have e0 : (p.size != 0) = true := by simpa using hs
      have Hx2 := hide (Option.some.inj hx2)
      clear hs hx2 Hx
      go_wp2_with fail
      go_ret
      rw [← Hx2.out]
      exact ⟨rfl, HU.out, Upon.refl _ _⟩

end Go.Proofs.Ytbkedppkdhfpoaa

namespace Go.Proofs.Ytbkedppkdhfpoaa

/-- Bindings grown so that the pattern becomes the term; none: they can't. -/
def growT : T → T → List (Int × T) → Option (List (Int × T))
  | ⟨pv, pf, pargs⟩, t, bs =>
    if pv ≠ 0 then (match lookB bs pv with
      | some u => if sameT u t then some bs else none
      | none => some (bs ++ [(pv, t)]))
    else if t.v ≠ 0 ∨ pf ≠ t.f then none else growL pargs t.args bs
  where
  growL : List T → List T → List (Int × T) → Option (List (Int × T))
    | [], [], bs => some bs
    | p :: ps, t :: ts, bs => match growT p t bs with
      | some b2 => growL ps ts b2
      | none => none
    | _, _, _ => none
theorem growT_eq (p t : T) (bs : List (Int × T)) : growT p t bs = if p.v ≠ 0 then (match lookB bs p.v with
      | some u => if sameT u t then some bs else none
      | none => some (bs ++ [(p.v, t)]))
    else if t.v ≠ 0 ∨ p.f ≠ t.f then none else growT.growL p.args t.args bs := by cases p; rfl
theorem growL_cons (p t : T) (ps ts : List T) (bs : List (Int × T)) : growT.growL (p :: ps) (t :: ts) bs = match growT p t bs with
    | some b2 => growT.growL ps ts b2
    | none => none := rfl
theorem growL_length : ∀ {ps ts : List T} {bs : List (Int × T)}, ps.length ≠ ts.length → growT.growL ps ts bs = none := by
  intro ps
  induction ps with
  | nil =>
    intro ts bs h
    cases ts with
    | nil => simp at h
    | cons t ts => rfl
  | cons p ps ih =>
    intro ts bs h
    cases ts with
    | nil => rfl
    | cons t ts =>
      rw [growL_cons]
      cases growT p t bs with
      | none => rfl
      | some b2 => exact ih (by simpa using h)
theorem growL_append : ∀ {ps ts ps2 ts2 : List T} {bs : List (Int × T)}, ps.length = ts.length → growT.growL (ps ++ ps2) (ts ++ ts2) bs = match growT.growL ps ts bs with
    | some b2 => growT.growL ps2 ts2 b2
    | none => none := by
  intro ps
  induction ps with
  | nil =>
    intro ts ps2 ts2 bs h
    cases ts with
    | nil => rfl
    | cons t ts => simp at h
  | cons p ps ih =>
    intro ts ps2 ts2 bs h
    cases ts with
    | nil => simp at h
    | cons t ts =>
      rw [List.cons_append, List.cons_append, growL_cons, growL_cons]
      cases growT p t bs with
      | none => rfl
      | some b2 => exact ih (by simpa using h)
/-- One more pair. -/
theorem growL_step {ps ts : List T} {bs b1 : List (Int × T)} {k : Nat} {p t : T} (hl : ps.length = ts.length) (hp : ps[k]? = some p) (ht : ts[k]? = some t) (h : growT.growL (ps.take k) (ts.take k) bs = some b1) :
    (∀ b2, growT p t b1 = some b2 → growT.growL (ps.take (k + 1)) (ts.take (k + 1)) bs = some b2) ∧ (growT p t b1 = none → growT.growL ps ts bs = none) := by
  have hlp : k < ps.length := by
    rcases Nat.lt_or_ge k ps.length with h1 | h1
    · exact h1
    · rw [List.getElem?_eq_none h1] at hp; cases hp
  constructor
  · intro b2 h2
    rw [List.take_add_one, List.take_add_one, hp, ht]
    show growT.growL (ps.take k ++ [p]) (ts.take k ++ [t]) bs = _
    rw [growL_append (by simp [hl]), h]
    show growT.growL [p] [t] b1 = _
    rw [growL_cons, h2]; rfl
  · intro h2
    have e1 : ps = ps.take k ++ p :: ps.drop (k + 1) := by
      rw [List.getElem?_eq_getElem hlp] at hp
      simp only [Option.some.injEq] at hp
      rw [← hp, List.getElem_cons_drop, List.take_append_drop]
    have e2 : ts = ts.take k ++ t :: ts.drop (k + 1) := by
      rw [List.getElem?_eq_getElem (by omega)] at ht
      simp only [Option.some.injEq] at ht
      rw [← ht, List.getElem_cons_drop, List.take_append_drop]
    rw [e1, e2, growL_append (by simp [hl]), h]
    show growT.growL (p :: _) (t :: _) b1 = none
    rw [growL_cons, h2]
/-- How many bindings come. -/
theorem grow_size : ∀ (n : Nat), (∀ (p t : T) (bs b2 : List (Int × T)), p.sz ≤ n → growT p t bs = some b2 → b2.length ≤ bs.length + p.sz) ∧ (∀ (ps ts : List T) (bs b2 : List (Int × T)), T.sz.szL ps ≤ n → growT.growL ps ts bs = some b2 → b2.length ≤ bs.length + T.sz.szL ps) := by
  intro n
  induction n with
  | zero =>
    refine ⟨fun p t bs b2 h => by have := p.sz_pos; omega, fun ps ts bs b2 h hg => ?_⟩
    cases ps with
    | nil =>
      cases ts with
      | nil => simp [growT.growL] at hg; rw [hg]; simp [T.szL_nil]
      | cons t ts => cases hg
    | cons p ps => have := p.sz_pos; rw [T.szL_cons] at h; omega
  | succ n ih =>
    have h1 : ∀ (p t : T) (bs b2 : List (Int × T)), p.sz ≤ n + 1 → growT p t bs = some b2 → b2.length ≤ bs.length + p.sz := fun p t bs b2 h hg => by
      have hpe := T.sz_eq p
      rw [growT_eq] at hg
      by_cases hv : p.v ≠ 0
      · rw [if_pos hv] at hg
        cases hl : lookB bs p.v with
        | some u =>
          rw [hl] at hg
          by_cases hs : sameT u t = true
          · simp only [hs, if_true, Option.some.injEq] at hg
            rw [← hg]; omega
          · simp [hs] at hg
        | none =>
          rw [hl] at hg
          simp only [Option.some.injEq] at hg
          rw [← hg, List.length_append]; simp; omega
      · rw [if_neg hv] at hg
        by_cases hc : t.v ≠ 0 ∨ p.f ≠ t.f
        · rw [if_pos hc] at hg; cases hg
        · rw [if_neg hc] at hg
          have := ih.2 p.args t.args bs b2 (by omega) hg
          omega
    refine ⟨h1, fun ps => ?_⟩
    induction ps with
    | nil =>
      intro ts bs b2 _ hg
      cases ts with
      | nil => simp [growT.growL] at hg; rw [hg]; simp [T.szL_nil]
      | cons t ts => cases hg
    | cons p ps iht =>
      intro ts bs b2 h hg
      rw [T.szL_cons] at h ⊢
      cases ts with
      | nil => cases hg
      | cons t ts =>
        rw [growL_cons] at hg
        cases hgt : growT p t bs with
        | none => rw [hgt] at hg; cases hg
        | some b3 =>
          rw [hgt] at hg
          have g1 := h1 p t bs b3 (by omega) hgt
          have g2 := iht ts b3 b2 (by omega) hg
          omega

end Go.Proofs.Ytbkedppkdhfpoaa

namespace Go.Proofs.Ytbkedppkdhfpoaa
open Go.RowKit Go.Maps

/-- Block b is a map that holds these bindings, whose terms lie in blocks of which q holds. -/
def MB (q : Nat → Prop) (b : Nat) (bs : List (Int × T)) (w : World) : Prop := (∃ f, MapAt w b bs.length f ∧ BMap q w bs f) ∧ ∀ v u, (v, u) ∈ bs → u.sz ≤ 1000
theorem MB.lt {q : Nat → Prop} {b : Nat} {bs : List (Int × T)} {w : World} (h : MB q b bs w) : b < w.heap.size := by obtain ⟨⟨f, hM, _⟩, _⟩ := h; exact hM.lt
theorem MB.below {q : Nat → Prop} {b : Nat} {bs : List (Int × T)} {w w' : World} (h : MB q b bs w) (hb : Below w.heap.size w w') : MB q b bs w' := by
  obtain ⟨⟨f, hM, hB⟩, hs⟩ := h
  exact ⟨⟨f, hM.below hb, hB.mono (fun j _ hj => hb.block j hj)⟩, hs⟩
/-- What lies in cells lies in no map's block. -/
theorem InP_notmap {p : Nat → Prop} {w : World} {b n : Nat} {f : Int → Option Value} {ts : List T} {a : Option Addr} (hM : MapAt w b n f) (h : InP p w ts a) : InP (fun k => p k ∧ k ≠ b) w ts a :=
  InP_mono (fun b' o v hp hv => ⟨⟨hp, fun e => by
    obtain ⟨D, ⟨es, clock, h1, _⟩, _⟩ := hM
    subst e
    unfold World.cell? at hv
    rw [h1] at hv
    cases hv⟩, hv⟩) _ _ _ (Nat.le_refl _) h
theorem InP_grown {p : Nat → Prop} {w w' : World} {b : Nat} {ts : List T} {a : Option Addr} (hg : w.grownBy w' (some b)) (h : InP (fun k => p k ∧ k ≠ b) w ts a) : InP (fun k => p k ∧ k ≠ b) w' ts a :=
  InP_same (fun k hk hl => hg.block k hl (fun e => hk.2 (by cases e; rfl))) h
theorem MB.notmap {q : Nat → Prop} {b : Nat} {bs : List (Int × T)} {w : World} {p : Nat → Prop} {ts : List T} {a : Option Addr} (hM : MB q b bs w) (h : InP p w ts a) : InP (fun k => p k ∧ k ≠ b) w ts a := by
  obtain ⟨⟨f, hM, _⟩, _⟩ := hM; exact InP_notmap hM h
theorem grown_below {B : Nat} {w w' : World} {b : Nat} (hg : w.grownBy w' (some b)) (hb : B ≤ b) (hB : B ≤ w.heap.size) : Below B w w' := (Below.refl B w).grown hg hB (fun j hj => by cases hj; exact hb)
theorem eg72 (args : Array Value) (w : World) : (callFunc 72 args).run Try.prog w = .ok (.enter 72 args) w := by kernel_rfl

set_option maxRecDepth 100000 in
set_option maxHeartbeats 1000000 in
theorem equalMatch_any (q : Nat → Prop) (b n : Nat) (ar : List Int)
    (hc : ∀ (p t : T) (pa : Option Addr) (pc : Nat) (ta : Option Addr) (tc : Nat) (bs : List (Int × T)) (w : World), p.sz ≤ n → bs.length + p.sz ≤ 100000 → okP ar p → t.sz ≤ 1000 → MB q b bs w → InL w p.args pa → InP q w t.args ta →
      Calls Try.prog 72 #[.map (some b), .agg #[.int .i64 p.v, .int .i64 p.f, .slice pa p.args.length pc], .agg #[.int .i64 t.v, .int .i64 t.f, .slice ta t.args.length tc]] w fun e w' => e = .returned (.bool (growT p t bs).isSome) ∧ w.grownBy w' (some b) ∧ ∀ b2, growT p t bs = some b2 → MB q b b2 w')
    (ps ts : List T) (pa : Option Addr) (pc : Nat) (ta : Option Addr) (tc : Nat) (bs : List (Int × T)) (w : World) (hn : T.sz.szL ps ≤ n) (h1000 : bs.length + T.sz.szL ps ≤ 100000) (hok : okP.okL ar ps) (hts : T.sz.szL ts ≤ 1000) (hM : MB q b bs w) (hin : InL w ps pa) (hin2 : InP q w ts ta) :
    Calls Try.prog 89 #[.slice pa ps.length pc, .slice ta ts.length tc, .func (.func 72) #[.map (some b)] #[]] w fun e w' => e = .returned (.bool (growT.growL ps ts bs).isSome) ∧ w.grownBy w' (some b) ∧ ∀ b2, growT.growL ps ts bs = some b2 → MB q b b2 w' := by
  have Hc := hide hc
  have Hin := hide (hM.notmap hin)
  have Hin2 := hide (hM.notmap hin2)
  have HM := hide hM
  have Hok := hide hok
  have e72 := eg72
  have hpl := T.length_le ps
  clear hc hin hin2 hM hok
  by_cases h3 : ps.length = ts.length
  · have e3 : ((ps.length : Int) != ts.length) = false := by simp; omega
    have H3 := hide h3
    clear h3
    go_enter Try.func89, Try.ntmps89
    go_wp2_with fail
    go_loopw [17] (fun i wr => ∃ (k : Nat) (bk : List (Int × T)), k ≤ ps.length ∧ i = .int .i64 k ∧ Hid (growT.growL (ps.take k) (ts.take k) bs = some bk) ∧ MB q b bk wr ∧ w.grownBy wr (some b)) (fun i _ => ps.length - (intOf i).toNat)
    case atStart => exact ⟨0, bs, Nat.zero_le _, rfl, rfl, HM.out, ⟨rfl, rfl, rfl, Nat.le_refl _, fun _ _ _ => rfl⟩⟩
    case round =>
      obtain ⟨k, bk, hk, rfl, HL, hMr, hgr⟩ := hrel
      have HMr := hide hMr
      have Hgr := hide hgr
      have hzr := hgr.size
      clear hMr hgr
      by_cases hlt : k < ps.length
      · have hlt2 : k < ts.length := by have := H3.out; omega
        have hinr := InP_grown Hgr.out Hin.out
        have hinr2 := InP_grown Hgr.out Hin2.out
        obtain ⟨b1, off1, rfl⟩ := InP_some hinr (by omega)
        obtain ⟨b2, off2, rfl⟩ := InP_some hinr2 (by omega)
        obtain ⟨x, hx⟩ : ∃ x, ps[k]? = some x := ⟨ps[k], List.getElem?_eq_getElem hlt⟩
        obtain ⟨y, hy⟩ : ∃ y, ts[k]? = some y := ⟨ts[k], List.getElem?_eq_getElem hlt2⟩
        obtain ⟨a3, cap3, _, k0, k1, k2, hinx⟩ := InP_at hinr hx
        obtain ⟨a4, cap4, _, m0, m1, m2, hiny⟩ := InP_at hinr2 hy
        obtain ⟨hs1, hs2⟩ := szL_take hx
        have hxe := T.sz_eq x
        have hyt := T.szL_mem (List.mem_of_getElem? hy)
        have hbk := (grow_size _).2 _ _ _ _ (Nat.le_refl _) HL.out
        have Hst := hide (growL_step H3.out hx hy HL.out)
        have Hxo := hide (okL_mem.1 Hok.out x (List.mem_of_getElem? hx))
        have hkI : (k : Int) < ps.length := by omega
        have hkJ : (k : Int) < ts.length := by omega
        have hk0 : (0 : Int) ≤ k := by omega
        have hk3 : k ≤ 100000 := by omega
        have hb1 := lt_of_cell k0
        have hb2 := lt_of_cell m0
        have Hx := hide (fun o1 o2 => Hc.out x y a3 cap3 a4 cap4 bk ((wr.alloc o1).alloc o2) (by omega) (by omega) Hxo.out (by omega) (HMr.out.below (below2 wr o1 o2)) (InP_imp (q := fun _ => True) (fun _ _ => trivial) (InP_alloc o2 (InP_alloc o1 hinx))) (InP_imp (fun _ h => h.1) (InP_alloc o2 (InP_alloc o1 hiny))))
        have HgA := hide (fun o1 o2 => Hgr.out.trans (show wr.grownBy ((wr.alloc o1).alloc o2) (some b) from ⟨rfl, rfl, rfl, by simp; omega, fun i hi _ => (below2 wr o1 o2).block i hi⟩))
        clear hx hy hinx hiny hinr hinr2 HL
        go_wp2_with fail
        refine (Hx.out _ _).mono ?_
        rintro e w3 ⟨rfl, hg3, hM3⟩
        have Hg3 := hide ((HgA.out _ _).trans hg3)
        have HM3 := hide hM3
        clear hg3 hM3 HgA Hx
        cases hgt : growT x y bk with
        | some bk2 =>
          have Hgo := hide (Hst.out.1 bk2 hgt)
          have HMk := hide (HM3.out bk2 hgt)
          clear Hst HM3 hgt
          simp only [Option.isSome_some]
          go_wp2_with fail
          go_roundw
          case rel => exact ⟨k + 1, bk2, by omega, by go_num, Hgo.out, HMk.out, Hg3.out⟩
          case measure => simp [intOf]; omega
        | none =>
          have Hfin := hide (Hst.out.2 hgt)
          clear Hst HM3 hgt
          simp only [Option.isSome_none]
          go_wp2_with fail
          go_ret
          exact ⟨ret_bool (by rw [Hfin.out]; rfl), Hg3.out, fun b2 h => by rw [Hfin.out] at h; cases h⟩
      · have hk2 : k = ps.length := by omega
        subst hk2
        have Hfin : Hid (growT.growL ps ts bs = some bk) := by
          have h5 := HL.out
          rw [List.take_length, show ps.length = ts.length from H3.out, List.take_length] at h5
          exact h5
        clear HL
        go_wp2_with fail
        go_ret
        exact ⟨ret_bool (by rw [Hfin.out]; rfl), Hgr.out, fun b2 h => by rw [Hfin.out] at h; cases h; exact HMr.out⟩
  · have hfin : growT.growL ps ts bs = none := growL_length h3
    have e3 : ((ps.length : Int) != ts.length) = true := by simp; omega
    have Hfin := hide hfin
    clear hfin h3
    go_enter Try.func89, Try.ntmps89
    go_wp2_with fail
    go_ret
    exact ⟨ret_bool (by rw [Hfin.out]; rfl), ⟨rfl, rfl, rfl, Nat.le_refl _, fun _ _ _ => rfl⟩, fun b2 h => by rw [Hfin.out] at h; cases h⟩

theorem grown_allocs2 (w : World) (b : Nat) (o1 o2 : Obj) : w.grownBy ((w.alloc o1).alloc o2) (some b) := ⟨rfl, rfl, rfl, by simp; omega, fun i hi _ => (below2 w o1 o2).block i hi⟩
theorem grown_of_below {w w' : World} (b : Nat) (h : Below w.heap.size w w') : w.grownBy w' (some b) := ⟨h.os, h.tape, h.output, h.size, fun i hi _ => h.block i hi⟩

set_option maxRecDepth 100000 in
set_option maxHeartbeats 1000000 in
theorem match_any (ar : List Int) (q : Nat → Prop) (b : Nat) (hqb : ¬ q b) (N : Nat) : ∀ (p t : T) (pa : Option Addr) (pc : Nat) (ta : Option Addr) (tc : Nat) (bs : List (Int × T)) (w : World), p.sz ≤ N → bs.length + p.sz ≤ 100000 → okP ar p → t.sz ≤ 1000 → MB q b bs w → InL w p.args pa → InP q w t.args ta →
      Calls Try.prog 72 #[.map (some b), .agg #[.int .i64 p.v, .int .i64 p.f, .slice pa p.args.length pc], .agg #[.int .i64 t.v, .int .i64 t.f, .slice ta t.args.length tc]] w fun e w' => e = .returned (.bool (growT p t bs).isSome) ∧ w.grownBy w' (some b) ∧ ∀ b2, growT p t bs = some b2 → MB q b b2 w' := by
  induction N with
  | zero => intro p t pa pc ta tc bs w hN; have := p.sz_pos; omega
  | succ N ih =>
    intro p t pa pc ta tc bs w hN h1000 hok ht hM hin hin2
    have hpe := T.sz_eq p
    have hte := T.sz_eq t
    have hbl := hM.lt
    have HM := hide hM
    by_cases hv : p.v = 0
    · have e0 : (p.v == 0) = true := by simpa using hv
      by_cases h1 : t.v = 0
      · have e1 : (t.v == 0) = true := by simpa using h1
        by_cases h2 : p.f = t.f
        · have e2 : (p.f == t.f) = true := by simpa using h2
          have Hfin : Hid (growT p t bs = growT.growL p.args t.args bs) := by show _ = _; rw [growT_eq, if_neg (by simp [hv]), if_neg (by simp [h1, h2])]
          have HE := hide (fun o1 o2 => equalMatch_any q b N ar (fun p' t' pa' pc' ta' tc' bs' w' hn' hl' ho' ht' hM' hi' hi2' => ih p' t' pa' pc' ta' tc' bs' w' hn' hl' ho' ht' hM' hi' hi2') p.args t.args pa pc ta tc bs ((w.alloc o1).alloc o2) (by omega) (by omega) (okP_iff.1 hok).2 (by omega) (hM.below (below2 w o1 o2)) (InP_alloc o2 (InP_alloc o1 hin)) (InP_alloc o2 (InP_alloc o1 hin2)))
          clear hv h1 h2 ih hM hok
          rw [Hfin.out]
          go_enter Try.func72, Try.ntmps72
          go_wp2_with fail
          refine (HE.out _ _).mono ?_
          rintro e w1 ⟨rfl, hg1, hM1⟩
          have Hg1 := hide ((grown_allocs2 w b _ _).trans hg1)
          have HM1 := hide hM1
          clear hg1 hM1
          go_wp2_with fail
          go_ret
          exact ⟨rfl, Hg1.out, HM1.out⟩
        · have e2 : (p.f == t.f) = false := by simpa using h2
          have Hfin : Hid (growT p t bs = none) := by show _ = _; rw [growT_eq, if_neg (by simp [hv]), if_pos (Or.inr h2)]
          clear hv h1 h2 ih hM hok
          rw [Hfin.out]
          go_enter Try.func72, Try.ntmps72
          go_wp2_with fail
          go_ret
          exact ⟨rfl, grown_allocs2 w b _ _, fun b2 h => by cases h⟩
      · have e1 : (t.v == 0) = false := by simpa using h1
        have Hfin : Hid (growT p t bs = none) := by show _ = _; rw [growT_eq, if_neg (by simp [hv]), if_pos (Or.inl h1)]
        clear hv h1 ih hM hok
        rw [Hfin.out]
        go_enter Try.func72, Try.ntmps72
        go_wp2_with fail
        go_ret
        exact ⟨rfl, grown_allocs2 w b _ _, fun b2 h => by cases h⟩
    · have e0 : (p.v == 0) = false := by simpa using hv
      have hv1 : 1 ≤ p.v ∧ p.v ≤ 1000 := by
        have h1 := (okP_iff.1 hok).1
        rw [partErr, if_pos hv] at h1
        by_cases h2 : p.v < 1 ∨ 1000 < p.v
        · rw [if_pos h2] at h1; cases h1
        · omega
      obtain ⟨⟨f, hMf, hBf⟩, hsz⟩ := HM.out
      have hlook := fun o1 o2 => (hMf.below (below2 w o1 o2)).look_ok (t := 92) Try.underlying92 (Try.zero27 _) (k := p.v) (by omega) (by omega)
      cases hlk : lookB bs p.v with
      | some u =>
        obtain ⟨a1, cap1, hf, hin1⟩ := (hBf p.v).2 u hlk
        have husz := hsz _ _ (lookB_mem hlk)
        have Hfin : Hid (growT p t bs = if sameT u t then some bs else none) := by show _ = _; rw [growT_eq, if_pos hv, hlk]
        rw [hf] at hlook
        have HS := hide (fun o1 o2 o3 => treeSame_any 1000 u t a1 cap1 ta tc (((w.alloc o1).alloc o2).alloc o3) husz husz (InP_imp (q := fun _ => True) (fun _ _ => trivial) (InP_below (below3 w o1 o2 o3) hin1)) (InP_imp (q := fun _ => True) (fun _ _ => trivial) (InP_below (below3 w o1 o2 o3) hin2)))
        clear hlk hf hin1 hv ih hM hok hMf hBf hsz
        go_enter Try.func72, Try.ntmps72
        go_wp2_with fail
        refine (HS.out _ _ _).mono ?_
        rintro e w1 ⟨rfl, hb1⟩
        have Hb1 := hide ((below3 w _ _ _).trans (hb1.mono (by simp; omega)))
        clear hb1 hlook
        go_wp2_with fail
        go_ret
        refine ⟨ret_bool (by rw [Hfin.out]; cases sameT u t <;> rfl), grown_of_below b Hb1.out, fun b2 h => ?_⟩
        rw [Hfin.out] at h
        cases hs : sameT u t with
        | true => rw [hs] at h; simp at h; rw [← h]; exact HM.out.below Hb1.out
        | false => rw [hs] at h; simp at h
      | none =>
        have hf := (hBf p.v).1 hlk
        have Hfin : Hid (growT p t bs = some (bs ++ [(p.v, t)])) := by show _ = _; rw [growT_eq, if_pos hv, hlk]
        have Hlk := hide hlk
        have Hin2 := hide (HM.out.notmap hin2)
        have HBf := hide hBf
        have Hsz := hide hsz
        rw [hf] at hlook
        clear hlk hf hv ih hM hok hBf hsz
        go_enter Try.func72, Try.ntmps72
        go_wp2_with (at_mapUpdate; refine wpList_store_map _ rfl _ _ _ 92 rfl 27 Try.underlying92 b bs.length f rfl (hMf.below (below3 _ _ _ _)) (by unfold maxLen; omega) p.v (.agg #[.int .i64 t.v, .int .i64 t.f, .slice ta t.args.length tc]) (by first | rfl | simp [go_sem]) (by first | rfl | simp [go_sem]) (by omega) (by omega) ?_; intro w2 hM2 hg2)
        go_ret
        have hgw : w.grownBy w2 (some b) := (grown_of_below b (below3 w _ _ _)).trans hg2
        refine ⟨ret_bool (by rw [Hfin.out]; rfl), hgw, fun b2 h => ?_⟩
        rw [Hfin.out] at h
        simp only [Option.some.injEq] at h
        subst h
        have hkeep : ∀ j, q j → j < w.heap.size → w2.heap[j]? = w.heap[j]? := fun j hj hl => hgw.block j hl (fun e => by cases e; exact hqb hj)
        refine ⟨⟨_, by rw [List.length_append]; exact hM2, fun v => ?_⟩, fun v u hm => ?_⟩
        · rw [lookB_snoc]
          by_cases ev : v = p.v
          · subst ev
            rw [Hlk.out]
            simp only [if_true]
            refine ⟨fun h => (by cases h), fun u hu => ?_⟩
            obtain rfl : t = u := by simpa using hu
            exact ⟨ta, tc, rfl, InP_same hkeep hin2⟩
          · simp only [if_neg ev]
            have ev2 : ¬ p.v = v := fun e => ev e.symm
            cases hl : lookB bs v with
            | none => simp only [if_neg ev2]; exact ⟨fun _ => (HBf.out v).1 hl, fun u hu => by cases hu⟩
            | some u =>
              refine ⟨fun h => (by cases h), fun u' hu' => ?_⟩
              obtain rfl : u = u' := by simpa using hu'
              obtain ⟨a5, c5, g1, g2⟩ := (HBf.out v).2 u hl
              exact ⟨a5, c5, g1, InP_same hkeep g2⟩
        · rcases List.mem_append.1 hm with hm | hm
          · exact Hsz.out v u hm
          · simp at hm; rw [hm.2]; exact ht

end Go.Proofs.Ytbkedppkdhfpoaa

namespace Go.Proofs.Ytbkedppkdhfpoaa
open Go.RowKit

theorem grown_refl (b : Nat) (w : World) : w.grownBy w (some b) := ⟨rfl, rfl, rfl, Nat.le_refl _, fun _ _ _ => rfl⟩
theorem grown_set {b : Nat} {w w' : World} (h : w.grownBy w' (some b)) (o : Nat) (v : Value) : w.grownBy (w'.setCell ⟨b, o, none⟩ v) (some b) :=
  h.trans ⟨rfl, rfl, rfl, by simp [World.setCell], fun k _ hk => Below.heap_setCell _ _ _ _ (fun e => hk (by simp only [e]))⟩
theorem grown_cell {b : Nat} {w w' : World} (h : w.grownBy w' (some b)) {k o : Nat} {v : Value} (hk : k ≠ b) (hc : w.cell? ⟨k, o, none⟩ = some v) : w'.cell? ⟨k, o, none⟩ = some v := by
  rw [World.cell?_of_block (w := w) (a := ⟨k, o, none⟩) (h.block k (lt_of_cell hc) (fun e => hk (by cases e; rfl)))]; exact hc
theorem NumsQ_grown {q : Nat → Prop} {w w' : World} {b : Nat} (h : w.grownBy w' (some b)) (hq : ∀ k, q k → k ≠ b) {ns : List Nat} {a : Option Addr} (hn : NumsQ q w ns a) : NumsQ q w' ns a := by
  obtain ⟨hl, hn⟩ := hn
  rcases hn with h0 | ⟨x, off, h1, h2, h3⟩
  · exact ⟨hl, Or.inl h0⟩
  · exact ⟨hl, Or.inr ⟨x, off, h1, h2, fun i hi => grown_cell h (hq x h2) (h3 i hi)⟩⟩
theorem NumsQ_below {q : Nat → Prop} {w w' : World} (h : Below w.heap.size w w') {ns : List Nat} {a : Option Addr} (hn : NumsQ q w ns a) : NumsQ q w' ns a := by
  obtain ⟨hl, hn⟩ := hn
  rcases hn with h0 | ⟨x, off, h1, h2, h3⟩
  · exact ⟨hl, Or.inl h0⟩
  · exact ⟨hl, Or.inr ⟨x, off, h1, h2, fun i hi => cell_below h (h3 i hi)⟩⟩
theorem UAt.below {q : Nat → Prop} {w w' : World} {u b c : Nat} {P : List Pt} (h : UAt q w u b c P) (hb : Below w.heap.size w w') : UAt q w' u b c P := by
  refine ⟨cell_below hb h.list, fun k p hp => ?_, h.qu, h.ub, h.len, fun k => by rw [hb.frozen (p := ⟨b, k, none⟩) h.ltb]; exact h.frb k, fun k => by rw [hb.frozen (p := ⟨u, k, none⟩) (lt_of_cell h.list)]; exact h.fru k, Nat.lt_of_lt_of_le h.ltb hb.size⟩
  obtain ⟨ta, tl, tc, aa, ac, c0, c1, c2, c3, c4, c5, hn⟩ := h.at6 k p hp
  exact ⟨ta, tl, tc, aa, ac, cell_below hb c0, cell_below hb c1, cell_below hb c2, cell_below hb c3, cell_below hb c4, cell_below hb c5, NumsQ_below hb hn⟩

/-- Lists of numbers of the same length, made the same one by one. -/
def eqR (rec : List Pt → Nat → Nat → Option (Bool × List Pt)) : List Nat → List Nat → List Pt → Option (Bool × List Pt)
  | a :: l, b :: m, P => match rec P a b with
    | none => none
    | some x => if x.1 = true then eqR rec l m x.2 else some (false, x.2)
  | _, _, P => some (true, P)
def eqL (rec : List Pt → Nat → Nat → Option (Bool × List Pt)) (l m : List Nat) (P : List Pt) : Option (Bool × List Pt) := if l.length = m.length then eqR rec l m P else some (false, P)
theorem eqR_cons {rec : List Pt → Nat → Nat → Option (Bool × List Pt)} {a b : Nat} {l m : List Nat} {P : List Pt} {x : Bool × List Pt} (h : eqR rec (a :: l) (b :: m) P = some x) : ∃ y, rec P a b = some y ∧ (if y.1 = true then eqR rec l m y.2 else some (false, y.2)) = some x := by
  rw [eqR] at h
  split at h
  · cases h
  · rename_i y hy; exact ⟨y, hy, h⟩
theorem drop_getD {l : List Nat} {j : Nat} (h : j < l.length) : l.drop j = l.getD j 0 :: l.drop (j + 1) := by
  rw [List.drop_eq_getElem_cons h]; simp [List.getD, List.getElem?_eq_getElem h]
theorem eg75 (args : Array Value) (w : World) : (callFunc 75 args).run Try.prog w = .ok (.enter 75 args) w := by kernel_rfl

set_option maxRecDepth 100000 in
set_option maxHeartbeats 1000000 in
theorem equalJoin_any (q : Nat → Prop) (u b c : Nat) (rec : List Pt → Nat → Nat → Option (Bool × List Pt))
    (hc : ∀ (P : List Pt) (i j : Nat) (x : Bool × List Pt) (w : World), UAt q w u b c P → rec P i j = some x → Calls Try.prog 75 #[.pointer (some ⟨u, 0, none⟩), .int .i64 (i : Int), .int .i64 (j : Int)] w fun e w' => e = .returned (.bool x.1) ∧ UAt q w' u b c x.2 ∧ w.grownBy w' (some b))
    (l m : List Nat) (la : Option Addr) (lc : Nat) (ma : Option Addr) (mc : Nat) (P : List Pt) (x : Bool × List Pt) (w : World) (hU : UAt q w u b c P) (hl : NumsQ q w l la) (hm : NumsQ q w m ma) (hx : eqL rec l m P = some x) :
    Calls Try.prog 94 #[.slice la l.length lc, .slice ma m.length mc, .func (.func 75) #[.pointer (some ⟨u, 0, none⟩)] #[]] w fun e w' => e = .returned (.bool x.1) ∧ UAt q w' u b c x.2 ∧ w.grownBy w' (some b) := by
  have hll := hl.1
  have hqu := hide hU.qu
  have Hc := hide hc
  have HU := hide hU
  have Hl := hide hl
  have Hm := hide hm
  have e75 := eg75
  clear hc hU hl hm
  by_cases h3 : l.length = m.length
  · have e3 : ((l.length : Int) != m.length) = false := by simp; omega
    rw [eqL, if_pos h3] at hx
    have Hx := hide hx
    have H3 := hide h3
    clear h3 hx
    go_enter Try.func94, Try.ntmps94
    go_wp2_with fail
    go_loopw [17] (fun i wr => ∃ (k : Nat) (Q : List Pt), k ≤ l.length ∧ i = .int .i64 k ∧ Hid (eqR rec (l.drop k) (m.drop k) Q = some x) ∧ Hid (UAt q wr u b c Q) ∧ Hid (w.grownBy wr (some b))) (fun i _ => l.length - (intOf i).toNat)
    case atStart => exact ⟨0, P, Nat.zero_le _, rfl, Hx, HU, grown_refl _ _⟩
    case round =>
      obtain ⟨k, Q, hk, rfl, HL, HUr, Hgr⟩ := hrel
      by_cases hlt : k < l.length
      · have hlt2 : k < m.length := by have := H3.out; omega
        obtain ⟨b1, off1, rfl, _, hc1⟩ := NumsQ_at (NumsQ_grown Hgr.out (fun k hk => (hqu.out k hk).2) Hl.out) (show 0 < l.length by omega)
        obtain ⟨b2, off2, rfl, _, hc2⟩ := NumsQ_at (NumsQ_grown Hgr.out (fun k hk => (hqu.out k hk).2) Hm.out) (show 0 < m.length by omega)
        have k0 := hc1 k hlt
        have m0 := hc2 k hlt2
        have hL := HL.out
        rw [drop_getD hlt, drop_getD hlt2] at hL
        obtain ⟨y, hy, hxy⟩ := eqR_cons hL
        have HC := hide (Hc.out Q (l.getD k 0) (m.getD k 0) y wr HUr.out hy)
        have Hxy := hide hxy
        generalize l.getD k 0 = ak at *
        generalize m.getD k 0 = bk at *
        have hkI : (k : Int) < l.length := by omega
        have hkJ : (k : Int) < m.length := by omega
        have hk0 : (0 : Int) ≤ k := by omega
        have hk3 : k ≤ 100000 := by omega
        clear hL hy hxy HL hc1 hc2
        go_wp2_with fail
        refine HC.out.mono ?_
        rintro e w3 ⟨rfl, hU3, hg3⟩
        have HU3 := hide hU3
        have Hg3 := hide (Hgr.out.trans hg3)
        clear hU3 hg3 HC HUr Hgr
        obtain ⟨y1, y2⟩ := y
        cases y1 with
        | true =>
          have Hgo : Hid (eqR rec (l.drop (k + 1)) (m.drop (k + 1)) y2 = some x) := by
            have h9 := Hxy.out
            rw [if_pos rfl] at h9; exact h9
          clear Hxy
          simp only at HU3
          go_wp2_with fail
          go_roundw
          case rel => exact ⟨k + 1, y2, by omega, by go_num, Hgo, HU3, Hg3⟩
          case measure => simp [intOf]; omega
        | false =>
          have Hgo : Hid ((false, y2) = x) := by
            have h9 := Hxy.out
            rw [if_neg (by simp)] at h9; exact Option.some.inj h9
          clear Hxy
          simp only at HU3
          go_wp2_with fail
          go_ret
          rw [← Hgo.out]
          exact ⟨rfl, HU3.out, Hg3.out⟩
      · have hk2 : k = l.length := by omega
        subst hk2
        have Hgo : Hid ((true, Q) = x) := by
          have h9 := HL.out
          rw [List.drop_length, eqR] at h9
          · exact Option.some.inj h9
          · intro a l' b' m' hh; cases hh
        clear HL
        go_wp2_with fail
        go_ret
        rw [← Hgo.out]
        exact ⟨rfl, HUr.out, Hgr.out⟩
  · have e3 : ((l.length : Int) != m.length) = true := by simp; omega
    rw [eqL, if_neg h3] at hx
    have Hx := hide (Option.some.inj hx)
    clear h3 hx
    go_enter Try.func94, Try.ntmps94
    go_wp2_with fail
    go_ret
    rw [← Hx.out]
    exact ⟨rfl, HU.out, grown_refl _ _⟩

end Go.Proofs.Ytbkedppkdhfpoaa

namespace Go.Proofs.Ytbkedppkdhfpoaa
open Go.RowKit

/-- Six cells. -/
structure Six (w : World) (b : Nat) (v0 v1 v2 v3 v4 v5 : Value) : Prop where
  c0 : w.cell? ⟨b, 0, none⟩ = some v0
  c1 : w.cell? ⟨b, 1, none⟩ = some v1
  c2 : w.cell? ⟨b, 2, none⟩ = some v2
  c3 : w.cell? ⟨b, 3, none⟩ = some v3
  c4 : w.cell? ⟨b, 4, none⟩ = some v4
  c5 : w.cell? ⟨b, 5, none⟩ = some v5
theorem Six.new {w : World} {v0 v1 v2 v3 v4 v5 : Value} {n : Nat} (e : TypeId) (hn : n = w.heap.size) : Six (w.alloc (.cells #[v0, v1, v2, v3, v4, v5] e)) n v0 v1 v2 v3 v4 v5 := by
  subst hn
  constructor <;> (rw [cell_new _ rfl]; rfl)
theorem Six.below {w w' : World} {b : Nat} {v0 v1 v2 v3 v4 v5 : Value} (h : Six w b v0 v1 v2 v3 v4 v5) (hb : Below w.heap.size w w') : Six w' b v0 v1 v2 v3 v4 v5 :=
  ⟨cell_below hb h.c0, cell_below hb h.c1, cell_below hb h.c2, cell_below hb h.c3, cell_below hb h.c4, cell_below hb h.c5⟩
theorem grown_below' {b : Nat} {w w' w'' : World} (h : w.grownBy w' (some b)) (hb : Below w'.heap.size w' w'') : w.grownBy w'' (some b) :=
  h.trans ⟨hb.os, hb.tape, hb.output, hb.size, fun k hk _ => hb.block k hk⟩
theorem below_drewW (w : World) (n : Nat) : Below w.heap.size w (w.drewN n) := ⟨rfl, rfl, rfl, Nat.le_refl _, fun _ _ => rfl⟩

/-- Part y is now like part x. -/
def joinB (rec : List Pt → Nat → Nat → Option (Bool × List Pt)) (P : List Pt) (x y : Nat) (p q : Pt) : Option (Bool × List Pt) :=
  if q.v = 0 then (if p.f = q.f then eqL rec p.args q.args (P.set y { q with like := x }) else some (false, P.set y { q with like := x })) else some (true, P.set y { q with like := x })
/-- Two parts are made the same; none: more than n steps. -/
def joinF : Nat → List Pt → Nat → Nat → Option (Bool × List Pt)
  | 0, _, _, _ => none
  | n + 1, P, i, j => match headF P (P.length + 1) i with
    | none => none
    | some a => match headF P (P.length + 1) j with
      | none => none
      | some b => if a = b then some (true, P) else match P[a]? with
        | none => none
        | some p => match P[b]? with
          | none => none
          | some q => if q.v < p.v then joinB (joinF n) P b a q p else joinB (joinF n) P a b p q
theorem joinF_some {n : Nat} {P : List Pt} {i j : Nat} {x : Bool × List Pt} (hm : joinF n P i j = some x) : ∃ m a b, n = m + 1 ∧ headF P (P.length + 1) i = some a ∧ headF P (P.length + 1) j = some b ∧
    ((a = b ∧ (true, P) = x) ∨ (a ≠ b ∧ ∃ p q, P[a]? = some p ∧ P[b]? = some q ∧ (if q.v < p.v then joinB (joinF m) P b a q p else joinB (joinF m) P a b p q) = some x)) := by
  cases n with
  | zero => cases hm
  | succ n =>
    rw [joinF] at hm
    split at hm
    · cases hm
    · rename_i a ha
      split at hm
      · cases hm
      · rename_i b hb
        refine ⟨n, a, b, rfl, ha, hb, ?_⟩
        split at hm
        · rename_i e; exact Or.inl ⟨e, Option.some.inj hm⟩
        · rename_i e
          split at hm
          · cases hm
          · rename_i p hp
            split at hm
            · cases hm
            · rename_i q hq
              exact Or.inr ⟨e, p, q, hp, hq, hm⟩

set_option maxRecDepth 100000 in
set_option maxHeartbeats 2000000 in
theorem join_any (q : Nat → Prop) (u b c : Nat) (N : Nat) : ∀ (P : List Pt) (i j : Nat) (x : Bool × List Pt) (w : World), UAt q w u b c P → joinF N P i j = some x →
    Calls Try.prog 75 #[.pointer (some ⟨u, 0, none⟩), .int .i64 (i : Int), .int .i64 (j : Int)] w fun e w' => e = .returned (.bool x.1) ∧ UAt q w' u b c x.2 ∧ w.grownBy w' (some b) := by
  induction N with
  | zero => intro P i j x w _ h; cases h
  | succ N ih =>
    intro P i j x w hU hm
    obtain ⟨m, k, l, hN, hk, hl, hx⟩ := joinF_some hm
    obtain rfl : N = m := by omega
    have Hk := hide (head_any q w u b c P _ i k hU hk)
    have Hl := hide (head_any q w u b c P _ j l hU hl)
    have hkl := headF_lt hk
    have hll := headF_lt hl
    have hlen := hU.len
    have cu := hU.list
    have hkI : (k : Int) < P.length := by omega
    have hlI : (l : Int) < P.length := by omega
    have hk0 : (0 : Int) ≤ k := by omega
    have hl0 : (0 : Int) ≤ l := by omega
    have HU := hide hU
    have Hih := hide ih
    have Hx := hide hx
    clear hm hU hk hl hN ih hx
    go_enter Try.func75, Try.ntmps75
    go_wp2_with fail
    refine Hk.out.mono ?_
    rintro e w' ⟨rfl, hw'⟩
    obtain rfl := hw'.symm
    clear hw' Hk
    go_wp2_with fail
    refine Hl.out.mono ?_
    rintro e w' ⟨rfl, hw'⟩
    obtain rfl := hw'.symm
    clear hw' Hl
    rcases Hx.out with ⟨e9, hx9⟩ | ⟨hne, p, r, hp, hr, hx9⟩
    · have e0 : ((k : Int) == (l : Int)) = true := by simp [e9]
      have Hx9 := hide hx9
      clear e9 hx9 Hx
      go_wp2_with fail
      go_ret
      rw [← Hx9.out]
      exact ⟨rfl, HU.out, grown_refl _ _⟩
    · have e0 : ((k : Int) == (l : Int)) = false := by simp; omega
      obtain ⟨_, _, _, _, _, p0, _⟩ := HU.out.at6 k p hp
      obtain ⟨_, _, _, _, _, r0, _⟩ := HU.out.at6 l r hr
      have HUd := hide (fun n => HU.out.below (below_drewW w n))
      have Hgd := hide (fun n => grown_below' (grown_refl b w) (below_drewW w n))
      have Hne := hide hne
      have Hp := hide hp
      have Hr := hide hr
      by_cases hlt : r.v < p.v
      · rw [if_pos hlt] at hx9
        have Hx9 := hide hx9
        clear hx9 Hx hp hr hne
        go_wp2_with fail
        go_quiet (fail)
        go_upto_region 6 with fail
        have Hpy := Hp
        have Hpx := Hr
        have Hxy : Hid (l ≠ k) := Hne.out.symm
        clear p0 r0
        obtain ⟨_, _, _, _, _, _, _, _, _, d4, _, _⟩ := HU.out.at6 k p Hpy.out
        have hf4 := HU.out.frb (k * 6 + 4)
        go_upto_region 7 with fail
        obtain ⟨W1, hW1⟩ : ∃ W1, W1 = (w.drewN nq).setCell ⟨b, k * 6 + 4, none⟩ (.int .i64 (l : Int)) := ⟨_, rfl⟩
        have HU1 : Hid (UAt q W1 u b c (P.set k { p with like := l })) := by rw [hW1]; exact (HUd.out nq).setLike Hpy.out l
        have Hg1 : Hid (w.grownBy W1 (some b)) := by rw [hW1]; exact grown_set (Hgd.out nq) _ _
        rw [← hW1]
        clear hW1 HUd Hgd d4 cu HU hf4
        obtain ⟨ta, tl, tc, aa, ac, x0, x1, x2, x3, x4, x5, hnx⟩ := HU1.out.at6 l r (by rw [List.getElem?_set_ne Hxy.out.symm]; exact Hpx.out)
        obtain ⟨ta', tl', tc', aa', ac', y0, y1, y2, y3, y4, y5, hny⟩ := HU1.out.at6 k { p with like := l } (List.getElem?_set_self (by omega))
        have cu1 := HU1.out.list
        rw [List.length_set] at cu1
        simp only at y0 y1 y3 y4 y5 hny
        have hub1 : u < W1.heap.size := lt_of_cell cu1
        have hbb1 : b < W1.heap.size := HU1.out.ltb
        have Hnx := hide hnx
        have Hny := hide hny
        clear hnx hny
        go_cut [7, 8] (fun v7 v8 wc => ∃ n7 n8, v7 = .pointer (some ⟨n7, 0, none⟩) ∧ v8 = .pointer (some ⟨n8, 0, none⟩) ∧ Six wc n7 (.int .i64 r.v) (.int .i64 r.f) (.slice ta tl tc) (.slice aa r.args.length ac) (.int .i64 (r.like : Int)) (.int .i64 r.size) ∧ Six wc n8 (.int .i64 p.v) (.int .i64 p.f) (.slice ta' tl' tc') (.slice aa' p.args.length ac') (.int .i64 (l : Int)) (.int .i64 p.size) ∧ Hid (Below W1.heap.size W1 wc))
        case first => as_aux_lemma =>
          go_region
          all_goals (go_wp2_with fail; go_meet; refine ⟨_, _, rfl, rfl, ?_, ?_, ?_⟩)
          all_goals first | exact Below.drew (below2 _ _ _) | (refine Six.below ?_ (Below.drew (Below.refl _ _)); first | exact (Six.new _ rfl).below (below1 _ _) | exact Six.new _ (by simp))
        case rest => as_aux_lemma =>
          obtain ⟨n7, n8, rfl, rfl, h7, h8, Hbc⟩ := hcut
          obtain ⟨s0, s1, s2, s3, s4, s5⟩ := h7
          obtain ⟨t0, t1, t2, t3, t4, t5⟩ := h8
          have HUc := hide (HU1.out.below Hbc.out)
          have Hgc := hide (grown_below' Hg1.out Hbc.out)
          have hx8 := Hx9.out
          rw [joinB] at hx8
          by_cases hv : p.v = 0
          · have e1 : (p.v != 0) = false := by simpa using hv
            rw [if_pos hv] at hx8
            by_cases hf : r.f = p.f
            · have e2 : (r.f == p.f) = true := by simpa using hf
              rw [if_pos hf] at hx8
              have HE := hide (equalJoin_any q u b c (joinF N) Hih.out r.args p.args aa ac aa' ac' _ x wc HUc.out (NumsQ_below Hbc.out Hnx.out) (NumsQ_below Hbc.out Hny.out) hx8)
              clear hx8 hv hf Hx9 x0 x1 x2 x3 x4 x5 y0 y1 y2 y3 y4 y5 cu1
              go_wp2_with fail
              refine HE.out.mono ?_
              rintro e w3 ⟨rfl, hU3, hg3⟩
              have HU3 := hide hU3
              have Hg3 := hide (Hgc.out.trans hg3)
              clear hU3 hg3 HE
              go_wp2_with fail
              go_ret
              exact ⟨rfl, HU3.out, Hg3.out⟩
            · have e2 : (r.f == p.f) = false := by simpa using hf
              rw [if_neg hf] at hx8
              have Hx8 := hide (Option.some.inj hx8)
              clear hx8 hv hf Hx9 x0 x1 x2 x3 x4 x5 y0 y1 y2 y3 y4 y5 cu1
              go_wp2_with fail
              go_ret
              rw [← Hx8.out]
              exact ⟨rfl, HUc.out, Hgc.out⟩
          · have e1 : (p.v != 0) = true := by simpa using hv
            rw [if_neg hv] at hx8
            have Hx8 := hide (Option.some.inj hx8)
            clear hx8 hv Hx9 x0 x1 x2 x3 x4 x5 y0 y1 y2 y3 y4 y5 cu1
            go_wp2_with fail
            go_ret
            rw [← Hx8.out]
            exact ⟨rfl, HUc.out, Hgc.out⟩
      · rw [if_neg hlt] at hx9
        have Hx9 := hide hx9
        clear hx9 Hx hp hr hne
        go_wp2_with fail
        go_quiet (fail)
        go_upto_region 6 with fail
        have Hpy := Hr
        have Hpx := Hp
        have Hxy : Hid (k ≠ l) := Hne.out
        clear p0 r0
        obtain ⟨_, _, _, _, _, _, _, _, _, d4, _, _⟩ := HU.out.at6 l r Hpy.out
        have hf4 := HU.out.frb (l * 6 + 4)
        go_upto_region 7 with fail
        obtain ⟨W1, hW1⟩ : ∃ W1, W1 = (w.drewN nq).setCell ⟨b, l * 6 + 4, none⟩ (.int .i64 (k : Int)) := ⟨_, rfl⟩
        have HU1 : Hid (UAt q W1 u b c (P.set l { r with like := k })) := by rw [hW1]; exact (HUd.out nq).setLike Hpy.out k
        have Hg1 : Hid (w.grownBy W1 (some b)) := by rw [hW1]; exact grown_set (Hgd.out nq) _ _
        rw [← hW1]
        clear hW1 HUd Hgd d4 cu HU hf4
        obtain ⟨ta, tl, tc, aa, ac, x0, x1, x2, x3, x4, x5, hnx⟩ := HU1.out.at6 k p (by rw [List.getElem?_set_ne Hxy.out.symm]; exact Hpx.out)
        obtain ⟨ta', tl', tc', aa', ac', y0, y1, y2, y3, y4, y5, hny⟩ := HU1.out.at6 l { r with like := k } (List.getElem?_set_self (by omega))
        have cu1 := HU1.out.list
        rw [List.length_set] at cu1
        simp only at y0 y1 y3 y4 y5 hny
        have hub1 : u < W1.heap.size := lt_of_cell cu1
        have hbb1 : b < W1.heap.size := HU1.out.ltb
        have Hnx := hide hnx
        have Hny := hide hny
        clear hnx hny
        go_cut [7, 8] (fun v7 v8 wc => ∃ n7 n8, v7 = .pointer (some ⟨n7, 0, none⟩) ∧ v8 = .pointer (some ⟨n8, 0, none⟩) ∧ Six wc n7 (.int .i64 p.v) (.int .i64 p.f) (.slice ta tl tc) (.slice aa p.args.length ac) (.int .i64 (p.like : Int)) (.int .i64 p.size) ∧ Six wc n8 (.int .i64 r.v) (.int .i64 r.f) (.slice ta' tl' tc') (.slice aa' r.args.length ac') (.int .i64 (k : Int)) (.int .i64 r.size) ∧ Hid (Below W1.heap.size W1 wc))
        case first => as_aux_lemma =>
          go_region
          all_goals (go_wp2_with fail; go_meet; refine ⟨_, _, rfl, rfl, ?_, ?_, ?_⟩)
          all_goals first | exact Below.drew (below2 _ _ _) | (refine Six.below ?_ (Below.drew (Below.refl _ _)); first | exact (Six.new _ rfl).below (below1 _ _) | exact Six.new _ (by simp))
        case rest => as_aux_lemma =>
          obtain ⟨n7, n8, rfl, rfl, h7, h8, Hbc⟩ := hcut
          obtain ⟨s0, s1, s2, s3, s4, s5⟩ := h7
          obtain ⟨t0, t1, t2, t3, t4, t5⟩ := h8
          have HUc := hide (HU1.out.below Hbc.out)
          have Hgc := hide (grown_below' Hg1.out Hbc.out)
          have hx8 := Hx9.out
          rw [joinB] at hx8
          by_cases hv : r.v = 0
          · have e1 : (r.v != 0) = false := by simpa using hv
            rw [if_pos hv] at hx8
            by_cases hf : p.f = r.f
            · have e2 : (p.f == r.f) = true := by simpa using hf
              rw [if_pos hf] at hx8
              have HE := hide (equalJoin_any q u b c (joinF N) Hih.out p.args r.args aa ac aa' ac' _ x wc HUc.out (NumsQ_below Hbc.out Hnx.out) (NumsQ_below Hbc.out Hny.out) hx8)
              clear hx8 hv hf Hx9 x0 x1 x2 x3 x4 x5 y0 y1 y2 y3 y4 y5 cu1
              go_wp2_with fail
              refine HE.out.mono ?_
              rintro e w3 ⟨rfl, hU3, hg3⟩
              have HU3 := hide hU3
              have Hg3 := hide (Hgc.out.trans hg3)
              clear hU3 hg3 HE
              go_wp2_with fail
              go_ret
              exact ⟨rfl, HU3.out, Hg3.out⟩
            · have e2 : (p.f == r.f) = false := by simpa using hf
              rw [if_neg hf] at hx8
              have Hx8 := hide (Option.some.inj hx8)
              clear hx8 hv hf Hx9 x0 x1 x2 x3 x4 x5 y0 y1 y2 y3 y4 y5 cu1
              go_wp2_with fail
              go_ret
              rw [← Hx8.out]
              exact ⟨rfl, HUc.out, Hgc.out⟩
          · have e1 : (r.v != 0) = true := by simpa using hv
            rw [if_neg hv] at hx8
            have Hx8 := hide (Option.some.inj hx8)
            clear hx8 hv Hx9 x0 x1 x2 x3 x4 x5 y0 y1 y2 y3 y4 y5 cu1
            go_wp2_with fail
            go_ret
            rw [← Hx8.out]
            exact ⟨rfl, HUc.out, Hgc.out⟩
end Go.Proofs.Ytbkedppkdhfpoaa

namespace Go.Proofs.Ytbkedppkdhfpoaa
open Go.RowKit

/-- Four cells a binding, and what lies behind it. -/
def KidsB (p : Nat → Prop) (w : World) : List (Int × T) → List Value → Prop
  | [], cs => cs = []
  | x :: bs, cs => ∃ a cap rest, cs = .int .i64 x.1 :: .int .i64 x.2.v :: .int .i64 x.2.f :: .slice a x.2.args.length cap :: rest ∧ InP p w x.2.args a ∧ KidsB p w bs rest
theorem KidsB_append {p : Nat → Prop} {w : World} {bs us : List (Int × T)} : ∀ {cs ds : List Value}, KidsB p w bs cs → KidsB p w us ds → KidsB p w (bs ++ us) (cs ++ ds) := by
  induction bs with
  | nil => intro cs ds h1 h2; rw [show cs = [] from h1]; exact h2
  | cons x bs ih =>
    intro cs ds h1 h2
    obtain ⟨a, cap, rest, rfl, h0, h⟩ := h1
    exact ⟨a, cap, rest ++ ds, rfl, h0, ih h h2⟩
theorem KidsB_mono {p q : Nat → Prop} {w w' : World} {bs : List (Int × T)} (hs : ∀ k, p k → k < w.heap.size → q k ∧ w'.heap[k]? = w.heap[k]?) : ∀ {cs : List Value}, KidsB p w bs cs → KidsB q w' bs cs := by
  induction bs with
  | nil => intro cs h; exact h
  | cons x bs ih =>
    intro cs h
    obtain ⟨a, cap, rest, rfl, h0, h⟩ := h
    exact ⟨a, cap, rest, rfl, InP_mono (fun b o v hp hv => ⟨(hs b hp (lt_of_cell hv)).1, by rw [World.cell?_of_block (w := w) (a := ⟨b, o, none⟩) (hs b hp (lt_of_cell hv)).2]; exact hv⟩) _ _ _ (Nat.le_refl _) h0, ih h⟩
theorem KidsB_in {p : Nat → Prop} {w : World} {g : Nat} (hpg : p g) {bs : List (Int × T)} : ∀ {off : Nat} {cs : List Value}, KidsB p w bs cs → (∀ j u, cs[j]? = some u → w.cell? ⟨g, off + j, none⟩ = some u) → Binds p w bs (some ⟨g, off, none⟩) := by
  induction bs with
  | nil => intro off cs _ _; trivial
  | cons x bs ih =>
    intro off cs h hc
    obtain ⟨a, cap, rest, rfl, h0, h⟩ := h
    refine ⟨g, off, a, cap, rfl, hpg, hc 0 _ rfl, hc 1 _ rfl, hc 2 _ rfl, hc 3 _ rfl, h0, ih h fun j u hu => ?_⟩
    rw [show off + 4 + j = off + (j + 4) from by omega]
    exact hc (j + 4) u (by simpa using hu)
/-- A list of the call's own that holds these bindings; nothing that lies behind them lies in the list's own block. -/
def OutsB (q : Nat → Prop) (base : Nat) (w : World) (l : Value) (bs : List (Int × T)) : Prop :=
  ∃ xs, w.ownsRow base 95 4 l bs.length xs ∧ KidsB (fun k => (q k ∨ base ≤ k) ∧ l.ownBlock ≠ some k) w bs xs
theorem OutsB_nil {q : Nat → Prop} {base : Nat} {w : World} : OutsB q base w (.slice none 0 0) [] := ⟨[], ⟨rfl, Or.inl ⟨rfl, rfl⟩⟩, rfl⟩
theorem OutsB_same {q : Nat → Prop} {base : Nat} {w w' : World} {l : Value} {bs : List (Int × T)} (h : OutsB q base w l bs) (hs : ∀ k, (q k ∨ base ≤ k) → k < w.heap.size → w'.heap[k]? = w.heap[k]?) : OutsB q base w' l bs := by
  obtain ⟨xs, h1, h2⟩ := h
  exact ⟨xs, own_same h1 (fun g hg => hs g (Or.inr (own_lt h1 g hg).1) (own_lt h1 g hg).2), KidsB_mono (fun k hk hlt => ⟨hk, hs k hk.1 hlt⟩) h2⟩
theorem OutsB_below {q : Nat → Prop} {base : Nat} {w w' : World} {l : Value} {bs : List (Int × T)} (h : OutsB q base w l bs) (hb : Below w.heap.size w w') : OutsB q base w' l bs := OutsB_same h (fun k _ hk => hb.block k hk)
theorem OutsB_step {q : Nat → Prop} {base : Nat} {w w' : World} {l : Value} {bs : List (Int × T)} {x : Int × T} {xs : List Value} {a : Option Addr} {cap g cap2 : Nat} (hk : KidsB (fun k => (q k ∨ base ≤ k) ∧ l.ownBlock ≠ some k) w bs xs)
    (hc : InP (fun k => (q k ∨ base ≤ k) ∧ l.ownBlock ≠ some k) w x.2.args a)
    (hown : w'.ownsRow base 95 4 (.slice (some ⟨g, 0, none⟩) (bs.length + 1) cap2) (bs.length + 1) (xs ++ [.int .i64 x.1, .int .i64 x.2.v, .int .i64 x.2.f, .slice a x.2.args.length cap])) (hg : w.grownBy w' l.ownBlock) (hat : l.ownBlock = some g ∨ g = w.heap.size) :
    OutsB q base w' (.slice (some ⟨g, 0, none⟩) (bs.length + 1) cap2) (bs ++ [x]) := by
  refine ⟨_, by rw [List.length_append]; exact hown, KidsB_mono (p := fun k => (q k ∨ base ≤ k) ∧ l.ownBlock ≠ some k) (w := w) (fun k hp hlt => ⟨⟨hp.1, ?_⟩, hg.block k hlt (fun e => hp.2 e.symm)⟩) (KidsB_append hk ⟨a, cap, [], rfl, hc, rfl⟩)⟩
  rcases hat with hat | hat
  · rw [show (Value.slice (some ⟨g, 0, none⟩) (bs.length + 1) cap2).ownBlock = some g from rfl, ← hat]; exact hp.2
  · show some g ≠ some k
    intro e; cases e; omega
theorem own_cellsN {w : World} {base n : Nat} {e : TypeId} {sz : Nat} {v : Value} {xs : List Value} (h : w.ownsRow base e sz v n xs) (hn : 0 < n) : ∃ g cap, v = .slice (some ⟨g, 0, none⟩) n cap ∧ base ≤ g ∧ g < w.heap.size ∧ ∀ j u, xs[j]? = some u → w.cell? ⟨g, j, none⟩ = some u := by
  rcases h.2 with ⟨_, h0⟩ | ⟨g, cap, cur, rfl, hb, hg, hc, hm, hs, ht⟩
  · omega
  refine ⟨g, cap, rfl, hb, ?_, fun j u hu => ?_⟩
  · rcases Nat.lt_or_ge g w.heap.size with h | h
    · exact h
    · rw [Array.getElem?_eq_none h] at hg; cases hg
  · have hj : j < xs.length := by
      rcases Nat.lt_or_ge j xs.length with h | h
      · exact h
      · rw [List.getElem?_eq_none h] at hu; cases hu
    have e1 : cur[j]? = some u := by
      have h2 : (cur.toList.take (n * sz))[j]? = some u := by rw [ht]; exact hu
      rw [List.getElem?_take_of_lt (by have := h.1; omega)] at h2
      simpa using h2
    simp [World.cell?, hg, e1]
theorem OutsB_end {q : Nat → Prop} {base : Nat} {w : World} {l : Value} {bs : List (Int × T)} (h : OutsB q base w l bs) : ∃ a cap, l = .slice a bs.length cap ∧ Binds (fun k => q k ∨ base ≤ k) w bs a := by
  obtain ⟨xs, h1, h2⟩ := h
  by_cases h0 : 0 < bs.length
  · obtain ⟨g, cap, rfl, hb, hlt, hcell⟩ := own_cellsN h1 h0
    exact ⟨_, cap, rfl, KidsB_in (Or.inr hb) (KidsB_mono (fun k hk _ => ⟨hk.1, rfl⟩) h2) (fun j u hu => by rw [Nat.zero_add]; exact hcell j u hu)⟩
  · obtain ⟨a, c, rfl⟩ := own_shape h1
    have : bs = [] := List.length_eq_zero_iff.1 (by omega)
    subst this
    exact ⟨a, c, rfl, trivial⟩

theorem Try.info95 : (Try.prog.info? 95).map (fun i => (i.zero, i.size, i.bytes)) = some (some (.agg #[.int .i64 0, .int .i64 0, .int .i64 0, .slice none 0 0]), 4, 48) := by kernel_rfl
def row4 (n : Nat) : Array Value := madeCells #[.int .i64 0, .int .i64 0, .int .i64 0, .slice none 0 0] (n * 4)
theorem run_make4 (n : Nat) (hn : n ≤ 1000000) (w : World) : (Instr.makeSlice 51 (.int .i64 0) (.int .i64 (n : Int))).run Try.prog w = .ok (.slice (some ⟨w.heap.size, 0, none⟩) 0 n) (w.alloc (.cells (row4 n) 95)) := by
  obtain ⟨i, hi, hzz⟩ := Option.map_eq_some_iff.1 Try.info95
  simp only [Prod.mk.injEq] at hzz
  obtain ⟨hz, hs, hb⟩ := hzz
  have hr := run_make (P := Try.prog) w 51 95 i _ Try.underlying51 hi hz .i64 .i64 0 n (by omega) (by omega) (by rw [hb]; omega) (by omega)
  simp only [Int.toNat_natCast, hs, Int.toNat_zero] at hr
  exact hr
theorem OutsB_made {q : Nat → Prop} {base n : Nat} {w : World} (hb : base ≤ w.heap.size) (hn : n ≤ 1000000) : OutsB q base (w.alloc (.cells (row4 n) 95)) (.slice (some ⟨w.heap.size, 0, none⟩) 0 n) [] :=
  ⟨[], ⟨rfl, Or.inr ⟨w.heap.size, n, row4 n, rfl, hb, heap_alloc_new w _, Nat.zero_le _, by unfold maxLen; omega, by rw [row4, size_madeCells], by simp⟩⟩, rfl⟩
theorem four_new {w : World} {v a b : Int} {s : Value} {e : TypeId} {n : Nat} (hn : n = w.heap.size) : ∀ (j : Nat) (u : Value), [Value.int .i64 v, .int .i64 a, .int .i64 b, s][j]? = some u →
    (w.alloc (.cells #[.int .i64 v, .int .i64 a, .int .i64 b, s] e)).cell? ((⟨n, 0, none⟩ : Addr).add j) = some u := by
  intro j u hu
  have e1 : (⟨n, 0, none⟩ : Addr).add j = ⟨n, j, none⟩ := by simp [Addr.add]; omega
  rw [e1, cell_new j hn]
  simpa using hu

end Go.Proofs.Ytbkedppkdhfpoaa
