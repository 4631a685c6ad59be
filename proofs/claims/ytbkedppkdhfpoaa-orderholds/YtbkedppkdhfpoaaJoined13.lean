/- The unifier makes parts the same. The unifier's join. A list of bindings of the call's own. The unifier's parts while they are added: a list of the call's own; and what a term adds. Appending to the unifier's parts; the state while a term's parts are added, and what may change. What lies there while a term's parts are added to the unifier, and what is added. -/
import Derived.BigQuiet
import Derived.Deep.AppendLies
import Derived.Laws.AppendOwnNone
import Derived.Maps.AppendAt
import Derived.Test.YtbkedppkdhfpoaaJoined12
namespace Go.Proofs.Ytbkedppkdhfpoaa
open Go.RowKit

theorem grown_refl (b : Nat) (w : World) : w.grownBy w (some b) := ⟨rfl, rfl, rfl, Nat.le_refl _, fun _ _ _ => rfl⟩
theorem grown_set {b : Nat} {w w' : World} (h : w.grownBy w' (some b)) (o : Nat) (v : Value) : w.grownBy (w'.setCell ⟨b, o, none⟩ v) (some b) :=
  h.trans ⟨rfl, rfl, rfl, by simp [World.setCell], fun k _ hk => Below.heap_setCell _ _ _ _ (fun e => hk (by simp only [e]))⟩
theorem grown_cell {b : Nat} {w w' : World} (h : w.grownBy w' (some b)) {k o : Nat} {v : Value} (hk : k ≠ b) (hc : w.cell? ⟨k, o, none⟩ = some v) : w'.cell? ⟨k, o, none⟩ = some v := by
  rw [World.cell?_of_block (w := w) (a := ⟨k, o, none⟩) (h.block k (lt_of_cell hc) (fun e => hk (by cases e; rfl)))]; exact hc
theorem NumsQ_grown {q : Nat → Prop} {w w' : World} {b : Nat} (h : w.grownBy w' (some b)) (hq : ∀ k, q k → k ≠ b) {ns : List Nat} {a : Option Addr} (hn : NumsQ q w ns a) : NumsQ q w' ns a := by
  obtain ⟨hl, hn⟩ := hn
  rcases hn with h0 | ⟨x, off, h1, h2, h3⟩
  · exact ⟨hl, Or.inl h0⟩
  · exact ⟨hl, Or.inr ⟨x, off, h1, h2, fun i hi => grown_cell h (hq x h2) (h3 i hi)⟩⟩
theorem NumsQ_below {q : Nat → Prop} {w w' : World} (h : Below w.heap.size w w') {ns : List Nat} {a : Option Addr} (hn : NumsQ q w ns a) : NumsQ q w' ns a := by
  obtain ⟨hl, hn⟩ := hn
  rcases hn with h0 | ⟨x, off, h1, h2, h3⟩
  · exact ⟨hl, Or.inl h0⟩
  · exact ⟨hl, Or.inr ⟨x, off, h1, h2, fun i hi => cell_below h (h3 i hi)⟩⟩
theorem UAt.below {q : Nat → Prop} {w w' : World} {u b c : Nat} {P : List Pt} (h : UAt q w u b c P) (hb : Below w.heap.size w w') : UAt q w' u b c P := by
  refine ⟨cell_below hb h.list, fun k p hp => ?_, h.qu, h.ub, h.len, fun k => by rw [hb.frozen (p := ⟨b, k, none⟩) h.ltb]; exact h.frb k, fun k => by rw [hb.frozen (p := ⟨u, k, none⟩) (lt_of_cell h.list)]; exact h.fru k, Nat.lt_of_lt_of_le h.ltb hb.size⟩
  obtain ⟨ta, tl, tc, aa, ac, c0, c1, c2, c3, c4, c5, hn⟩ := h.at6 k p hp
  exact ⟨ta, tl, tc, aa, ac, cell_below hb c0, cell_below hb c1, cell_below hb c2, cell_below hb c3, cell_below hb c4, cell_below hb c5, NumsQ_below hb hn⟩

/-- Lists of numbers of the same length, made the same one by one. -/
def eqR (rec : List Pt → Nat → Nat → Option (Bool × List Pt)) : List Nat → List Nat → List Pt → Option (Bool × List Pt)
  | a :: l, b :: m, P => match rec P a b with
    | none => none
    | some x => if x.1 = true then eqR rec l m x.2 else some (false, x.2)
  | _, _, P => some (true, P)
def eqL (rec : List Pt → Nat → Nat → Option (Bool × List Pt)) (l m : List Nat) (P : List Pt) : Option (Bool × List Pt) := if l.length = m.length then eqR rec l m P else some (false, P)
theorem eqR_cons {rec : List Pt → Nat → Nat → Option (Bool × List Pt)} {a b : Nat} {l m : List Nat} {P : List Pt} {x : Bool × List Pt} (h : eqR rec (a :: l) (b :: m) P = some x) : ∃ y, rec P a b = some y ∧ (if y.1 = true then eqR rec l m y.2 else some (false, y.2)) = some x := by
  rw [eqR] at h
  split at h
  · cases h
  · rename_i y hy; exact ⟨y, hy, h⟩
theorem drop_getD {l : List Nat} {j : Nat} (h : j < l.length) : l.drop j = l.getD j 0 :: l.drop (j + 1) := by
  rw [List.drop_eq_getElem_cons h]; simp [List.getD, List.getElem?_eq_getElem h]
theorem eg75 (args : Array Value) (w : World) : (callFunc 75 args).run Try.prog w = .ok (.enter 75 args) w := by kernel_rfl

set_option maxRecDepth 100000 in
set_option maxHeartbeats 1000000 in
theorem equalJoin_any (q : Nat → Prop) (u b c : Nat) (rec : List Pt → Nat → Nat → Option (Bool × List Pt))
    (hc : ∀ (P : List Pt) (i j : Nat) (x : Bool × List Pt) (w : World), UAt q w u b c P → rec P i j = some x → Calls Try.prog 75 #[.pointer (some ⟨u, 0, none⟩), .int .i64 (i : Int), .int .i64 (j : Int)] w fun e w' => e = .returned (.bool x.1) ∧ UAt q w' u b c x.2 ∧ w.grownBy w' (some b))
    (l m : List Nat) (la : Option Addr) (lc : Nat) (ma : Option Addr) (mc : Nat) (P : List Pt) (x : Bool × List Pt) (w : World) (hU : UAt q w u b c P) (hl : NumsQ q w l la) (hm : NumsQ q w m ma) (hx : eqL rec l m P = some x) :
    Calls Try.prog 94 #[.slice la l.length lc, .slice ma m.length mc, .func (.func 75) #[.pointer (some ⟨u, 0, none⟩)] #[]] w fun e w' => e = .returned (.bool x.1) ∧ UAt q w' u b c x.2 ∧ w.grownBy w' (some b) := by
  have hll := hl.1
  have hqu := hide hU.qu
  have Hc := hide hc
  have HU := hide hU
  have Hl := hide hl
  have Hm := hide hm
  have e75 := eg75
  clear hc hU hl hm
  by_cases h3 : l.length = m.length
  · have e3 : ((l.length : Int) != m.length) = false := by simp; omega
    rw [eqL, if_pos h3] at hx
    have Hx := hide hx
    have H3 := hide h3
    clear h3 hx
    go_enter Try.func94, Try.ntmps94
    go_wp2_with fail
    go_loopw [17] (fun i wr => ∃ (k : Nat) (Q : List Pt), k ≤ l.length ∧ i = .int .i64 k ∧ Hid (eqR rec (l.drop k) (m.drop k) Q = some x) ∧ Hid (UAt q wr u b c Q) ∧ Hid (w.grownBy wr (some b))) (fun i _ => l.length - (intOf i).toNat)
    case atStart => exact ⟨0, P, Nat.zero_le _, rfl, Hx, HU, grown_refl _ _⟩
    case round =>
      obtain ⟨k, Q, hk, rfl, HL, HUr, Hgr⟩ := hrel
      by_cases hlt : k < l.length
      · have hlt2 : k < m.length := by have := H3.out; omega
        obtain ⟨b1, off1, rfl, _, hc1⟩ := NumsQ_at (NumsQ_grown Hgr.out (fun k hk => (hqu.out k hk).2) Hl.out) (show 0 < l.length by omega)
        obtain ⟨b2, off2, rfl, _, hc2⟩ := NumsQ_at (NumsQ_grown Hgr.out (fun k hk => (hqu.out k hk).2) Hm.out) (show 0 < m.length by omega)
        have k0 := hc1 k hlt
        have m0 := hc2 k hlt2
        have hL := HL.out
        rw [drop_getD hlt, drop_getD hlt2] at hL
        obtain ⟨y, hy, hxy⟩ := eqR_cons hL
        have HC := hide (Hc.out Q (l.getD k 0) (m.getD k 0) y wr HUr.out hy)
        have Hxy := hide hxy
        generalize l.getD k 0 = ak at *
        generalize m.getD k 0 = bk at *
        have hkI : (k : Int) < l.length := by omega
        have hkJ : (k : Int) < m.length := by omega
        have hk0 : (0 : Int) ≤ k := by omega
        have hk3 : k ≤ 100000 := by omega
        clear hL hy hxy HL hc1 hc2
        go_wp2_with fail
        refine HC.out.mono ?_
        rintro e w3 ⟨rfl, hU3, hg3⟩
        have HU3 := hide hU3
        have Hg3 := hide (Hgr.out.trans hg3)
        clear hU3 hg3 HC HUr Hgr
        obtain ⟨y1, y2⟩ := y
        cases y1 with
        | true =>
          have Hgo : Hid (eqR rec (l.drop (k + 1)) (m.drop (k + 1)) y2 = some x) := by
            have h9 := Hxy.out
            rw [if_pos rfl] at h9; exact h9
          clear Hxy
          simp only at HU3
          go_wp2_with fail
          go_roundw
          case rel => exact ⟨k + 1, y2, by omega, by go_num, Hgo, HU3, Hg3⟩
          case measure => simp [intOf]; omega
        | false =>
          have Hgo : Hid ((false, y2) = x) := by
            have h9 := Hxy.out
            rw [if_neg (by simp)] at h9; exact Option.some.inj h9
          clear Hxy
          simp only at HU3
          go_wp2_with fail
          go_ret
          rw [← Hgo.out]
          exact ⟨rfl, HU3.out, Hg3.out⟩
      · have hk2 : k = l.length := by omega
        subst hk2
        have Hgo : Hid ((true, Q) = x) := by
          have h9 := HL.out
          rw [List.drop_length, eqR] at h9
          · exact Option.some.inj h9
          · intro a l' b' m' hh; cases hh
        clear HL
        go_wp2_with fail
        go_ret
        rw [← Hgo.out]
        exact ⟨rfl, HUr.out, Hgr.out⟩
  · have e3 : ((l.length : Int) != m.length) = true := by simp; omega
    rw [eqL, if_neg h3] at hx
    have Hx := hide (Option.some.inj hx)
    clear h3 hx
    go_enter Try.func94, Try.ntmps94
    go_wp2_with fail
    go_ret
    rw [← Hx.out]
    exact ⟨rfl, HU.out, grown_refl _ _⟩

end Go.Proofs.Ytbkedppkdhfpoaa

namespace Go.Proofs.Ytbkedppkdhfpoaa
open Go.RowKit

/-- Six cells. -/
structure Six (w : World) (b : Nat) (v0 v1 v2 v3 v4 v5 : Value) : Prop where
  c0 : w.cell? ⟨b, 0, none⟩ = some v0
  c1 : w.cell? ⟨b, 1, none⟩ = some v1
  c2 : w.cell? ⟨b, 2, none⟩ = some v2
  c3 : w.cell? ⟨b, 3, none⟩ = some v3
  c4 : w.cell? ⟨b, 4, none⟩ = some v4
  c5 : w.cell? ⟨b, 5, none⟩ = some v5
theorem Six.new {w : World} {v0 v1 v2 v3 v4 v5 : Value} {n : Nat} (e : TypeId) (hn : n = w.heap.size) : Six (w.alloc (.cells #[v0, v1, v2, v3, v4, v5] e)) n v0 v1 v2 v3 v4 v5 := by
  subst hn
  constructor <;> (rw [cell_new _ rfl]; rfl)
theorem Six.below {w w' : World} {b : Nat} {v0 v1 v2 v3 v4 v5 : Value} (h : Six w b v0 v1 v2 v3 v4 v5) (hb : Below w.heap.size w w') : Six w' b v0 v1 v2 v3 v4 v5 :=
  ⟨cell_below hb h.c0, cell_below hb h.c1, cell_below hb h.c2, cell_below hb h.c3, cell_below hb h.c4, cell_below hb h.c5⟩
theorem grown_below' {b : Nat} {w w' w'' : World} (h : w.grownBy w' (some b)) (hb : Below w'.heap.size w' w'') : w.grownBy w'' (some b) :=
  h.trans ⟨hb.os, hb.tape, hb.output, hb.size, fun k hk _ => hb.block k hk⟩
theorem below_drewW (w : World) (n : Nat) : Below w.heap.size w (w.drewN n) := ⟨rfl, rfl, rfl, Nat.le_refl _, fun _ _ => rfl⟩

/-- Part y is now like part x. -/
def joinB (rec : List Pt → Nat → Nat → Option (Bool × List Pt)) (P : List Pt) (x y : Nat) (p q : Pt) : Option (Bool × List Pt) :=
  if q.v = 0 then (if p.f = q.f then eqL rec p.args q.args (P.set y { q with like := x }) else some (false, P.set y { q with like := x })) else some (true, P.set y { q with like := x })
/-- Two parts are made the same; none: more than n steps. -/
def joinF : Nat → List Pt → Nat → Nat → Option (Bool × List Pt)
  | 0, _, _, _ => none
  | n + 1, P, i, j => match headF P (P.length + 1) i with
    | none => none
    | some a => match headF P (P.length + 1) j with
      | none => none
      | some b => if a = b then some (true, P) else match P[a]? with
        | none => none
        | some p => match P[b]? with
          | none => none
          | some q => if q.v < p.v then joinB (joinF n) P b a q p else joinB (joinF n) P a b p q
theorem joinF_some {n : Nat} {P : List Pt} {i j : Nat} {x : Bool × List Pt} (hm : joinF n P i j = some x) : ∃ m a b, n = m + 1 ∧ headF P (P.length + 1) i = some a ∧ headF P (P.length + 1) j = some b ∧
    ((a = b ∧ (true, P) = x) ∨ (a ≠ b ∧ ∃ p q, P[a]? = some p ∧ P[b]? = some q ∧ (if q.v < p.v then joinB (joinF m) P b a q p else joinB (joinF m) P a b p q) = some x)) := by
  cases n with
  | zero => cases hm
  | succ n =>
    rw [joinF] at hm
    split at hm
    · cases hm
    · rename_i a ha
      split at hm
      · cases hm
      · rename_i b hb
        refine ⟨n, a, b, rfl, ha, hb, ?_⟩
        split at hm
        · rename_i e; exact Or.inl ⟨e, Option.some.inj hm⟩
        · rename_i e
          split at hm
          · cases hm
          · rename_i p hp
            split at hm
            · cases hm
            · rename_i q hq
              exact Or.inr ⟨e, p, q, hp, hq, hm⟩

set_option maxRecDepth 100000 in
set_option maxHeartbeats 2000000 in
theorem join_any (q : Nat → Prop) (u b c : Nat) (N : Nat) : ∀ (P : List Pt) (i j : Nat) (x : Bool × List Pt) (w : World), UAt q w u b c P → joinF N P i j = some x →
    Calls Try.prog 75 #[.pointer (some ⟨u, 0, none⟩), .int .i64 (i : Int), .int .i64 (j : Int)] w fun e w' => e = .returned (.bool x.1) ∧ UAt q w' u b c x.2 ∧ w.grownBy w' (some b) := by
  induction N with
  | zero => intro P i j x w _ h; cases h
  | succ N ih =>
    intro P i j x w hU hm
    obtain ⟨m, k, l, hN, hk, hl, hx⟩ := joinF_some hm
    obtain rfl : N = m := by omega
    have Hk := hide (head_any q w u b c P _ i k hU hk)
    have Hl := hide (head_any q w u b c P _ j l hU hl)
    have hkl := headF_lt hk
    have hll := headF_lt hl
    have hlen := hU.len
    have cu := hU.list
    have hkI : (k : Int) < P.length := by omega
    have hlI : (l : Int) < P.length := by omega
    have hk0 : (0 : Int) ≤ k := by omega
    have hl0 : (0 : Int) ≤ l := by omega
    have HU := hide hU
    have Hih := hide ih
    have Hx := hide hx
    clear hm hU hk hl hN ih hx
    go_enter Try.func75, Try.ntmps75
    go_wp2_with fail
    refine Hk.out.mono ?_
    rintro e w' ⟨rfl, hw'⟩
    obtain rfl := hw'.symm
    clear hw' Hk
    go_wp2_with fail
    refine Hl.out.mono ?_
    rintro e w' ⟨rfl, hw'⟩
    obtain rfl := hw'.symm
    clear hw' Hl
    rcases Hx.out with ⟨e9, hx9⟩ | ⟨hne, p, r, hp, hr, hx9⟩
    · have e0 : ((k : Int) == (l : Int)) = true := by simp [e9]
      have Hx9 := hide hx9
      clear e9 hx9 Hx
      go_wp2_with fail
      go_ret
      rw [← Hx9.out]
      exact ⟨rfl, HU.out, grown_refl _ _⟩
    · have e0 : ((k : Int) == (l : Int)) = false := by simp; omega
      obtain ⟨_, _, _, _, _, p0, _⟩ := HU.out.at6 k p hp
      obtain ⟨_, _, _, _, _, r0, _⟩ := HU.out.at6 l r hr
      have HUd := hide (fun n => HU.out.below (below_drewW w n))
      have Hgd := hide (fun n => grown_below' (grown_refl b w) (below_drewW w n))
      have Hne := hide hne
      have Hp := hide hp
      have Hr := hide hr
      by_cases hlt : r.v < p.v
      · rw [if_pos hlt] at hx9
        have Hx9 := hide hx9
        clear hx9 Hx hp hr hne
        go_wp2_with fail
        go_quiet (fail)
        go_upto_region 6 with fail
        have Hpy := Hp
        have Hpx := Hr
        have Hxy : Hid (l ≠ k) := Hne.out.symm
        clear p0 r0
        obtain ⟨_, _, _, _, _, _, _, _, _, d4, _, _⟩ := HU.out.at6 k p Hpy.out
        have hf4 := HU.out.frb (k * 6 + 4)
        go_upto_region 7 with fail
        obtain ⟨W1, hW1⟩ : ∃ W1, W1 = (w.drewN nq).setCell ⟨b, k * 6 + 4, none⟩ (.int .i64 (l : Int)) := ⟨_, rfl⟩
        have HU1 : Hid (UAt q W1 u b c (P.set k { p with like := l })) := by rw [hW1]; exact (HUd.out nq).setLike Hpy.out l
        have Hg1 : Hid (w.grownBy W1 (some b)) := by rw [hW1]; exact grown_set (Hgd.out nq) _ _
        rw [← hW1]
        clear hW1 HUd Hgd d4 cu HU hf4
        obtain ⟨ta, tl, tc, aa, ac, x0, x1, x2, x3, x4, x5, hnx⟩ := HU1.out.at6 l r (by rw [List.getElem?_set_ne Hxy.out.symm]; exact Hpx.out)
        obtain ⟨ta', tl', tc', aa', ac', y0, y1, y2, y3, y4, y5, hny⟩ := HU1.out.at6 k { p with like := l } (List.getElem?_set_self (by omega))
        have cu1 := HU1.out.list
        rw [List.length_set] at cu1
        simp only at y0 y1 y3 y4 y5 hny
        have hub1 : u < W1.heap.size := lt_of_cell cu1
        have hbb1 : b < W1.heap.size := HU1.out.ltb
        have Hnx := hide hnx
        have Hny := hide hny
        clear hnx hny
        go_cut [7, 8] (fun v7 v8 wc => ∃ n7 n8, v7 = .pointer (some ⟨n7, 0, none⟩) ∧ v8 = .pointer (some ⟨n8, 0, none⟩) ∧ Six wc n7 (.int .i64 r.v) (.int .i64 r.f) (.slice ta tl tc) (.slice aa r.args.length ac) (.int .i64 (r.like : Int)) (.int .i64 r.size) ∧ Six wc n8 (.int .i64 p.v) (.int .i64 p.f) (.slice ta' tl' tc') (.slice aa' p.args.length ac') (.int .i64 (l : Int)) (.int .i64 p.size) ∧ Hid (Below W1.heap.size W1 wc))
        case first => as_aux_lemma =>
          go_region
          all_goals (go_wp2_with fail; go_meet; refine ⟨_, _, rfl, rfl, ?_, ?_, ?_⟩)
          all_goals first | exact Below.drew (below2 _ _ _) | (refine Six.below ?_ (Below.drew (Below.refl _ _)); first | exact (Six.new _ rfl).below (below1 _ _) | exact Six.new _ (by simp))
        case rest => as_aux_lemma =>
          obtain ⟨n7, n8, rfl, rfl, h7, h8, Hbc⟩ := hcut
          obtain ⟨s0, s1, s2, s3, s4, s5⟩ := h7
          obtain ⟨t0, t1, t2, t3, t4, t5⟩ := h8
          have HUc := hide (HU1.out.below Hbc.out)
          have Hgc := hide (grown_below' Hg1.out Hbc.out)
          have hx8 := Hx9.out
          rw [joinB] at hx8
          by_cases hv : p.v = 0
          · have e1 : (p.v != 0) = false := by simpa using hv
            rw [if_pos hv] at hx8
            by_cases hf : r.f = p.f
            · have e2 : (r.f == p.f) = true := by simpa using hf
              rw [if_pos hf] at hx8
              have HE := hide (equalJoin_any q u b c (joinF N) Hih.out r.args p.args aa ac aa' ac' _ x wc HUc.out (NumsQ_below Hbc.out Hnx.out) (NumsQ_below Hbc.out Hny.out) hx8)
              clear hx8 hv hf Hx9 x0 x1 x2 x3 x4 x5 y0 y1 y2 y3 y4 y5 cu1
              go_wp2_with fail
              refine HE.out.mono ?_
              rintro e w3 ⟨rfl, hU3, hg3⟩
              have HU3 := hide hU3
              have Hg3 := hide (Hgc.out.trans hg3)
              clear hU3 hg3 HE
              go_wp2_with fail
              go_ret
              exact ⟨rfl, HU3.out, Hg3.out⟩
            · have e2 : (r.f == p.f) = false := by simpa using hf
              rw [if_neg hf] at hx8
              have Hx8 := hide (Option.some.inj hx8)
              clear hx8 hv hf Hx9 x0 x1 x2 x3 x4 x5 y0 y1 y2 y3 y4 y5 cu1
              go_wp2_with fail
              go_ret
              rw [← Hx8.out]
              exact ⟨rfl, HUc.out, Hgc.out⟩
          · have e1 : (p.v != 0) = true := by simpa using hv
            rw [if_neg hv] at hx8
            have Hx8 := hide (Option.some.inj hx8)
            clear hx8 hv Hx9 x0 x1 x2 x3 x4 x5 y0 y1 y2 y3 y4 y5 cu1
            go_wp2_with fail
            go_ret
            rw [← Hx8.out]
            exact ⟨rfl, HUc.out, Hgc.out⟩
      · rw [if_neg hlt] at hx9
        have Hx9 := hide hx9
        clear hx9 Hx hp hr hne
        go_wp2_with fail
        go_quiet (fail)
        go_upto_region 6 with fail
        have Hpy := Hr
        have Hpx := Hp
        have Hxy : Hid (k ≠ l) := Hne.out
        clear p0 r0
        obtain ⟨_, _, _, _, _, _, _, _, _, d4, _, _⟩ := HU.out.at6 l r Hpy.out
        have hf4 := HU.out.frb (l * 6 + 4)
        go_upto_region 7 with fail
        obtain ⟨W1, hW1⟩ : ∃ W1, W1 = (w.drewN nq).setCell ⟨b, l * 6 + 4, none⟩ (.int .i64 (k : Int)) := ⟨_, rfl⟩
        have HU1 : Hid (UAt q W1 u b c (P.set l { r with like := k })) := by rw [hW1]; exact (HUd.out nq).setLike Hpy.out k
        have Hg1 : Hid (w.grownBy W1 (some b)) := by rw [hW1]; exact grown_set (Hgd.out nq) _ _
        rw [← hW1]
        clear hW1 HUd Hgd d4 cu HU hf4
        obtain ⟨ta, tl, tc, aa, ac, x0, x1, x2, x3, x4, x5, hnx⟩ := HU1.out.at6 k p (by rw [List.getElem?_set_ne Hxy.out.symm]; exact Hpx.out)
        obtain ⟨ta', tl', tc', aa', ac', y0, y1, y2, y3, y4, y5, hny⟩ := HU1.out.at6 l { r with like := k } (List.getElem?_set_self (by omega))
        have cu1 := HU1.out.list
        rw [List.length_set] at cu1
        simp only at y0 y1 y3 y4 y5 hny
        have hub1 : u < W1.heap.size := lt_of_cell cu1
        have hbb1 : b < W1.heap.size := HU1.out.ltb
        have Hnx := hide hnx
        have Hny := hide hny
        clear hnx hny
        go_cut [7, 8] (fun v7 v8 wc => ∃ n7 n8, v7 = .pointer (some ⟨n7, 0, none⟩) ∧ v8 = .pointer (some ⟨n8, 0, none⟩) ∧ Six wc n7 (.int .i64 p.v) (.int .i64 p.f) (.slice ta tl tc) (.slice aa p.args.length ac) (.int .i64 (p.like : Int)) (.int .i64 p.size) ∧ Six wc n8 (.int .i64 r.v) (.int .i64 r.f) (.slice ta' tl' tc') (.slice aa' r.args.length ac') (.int .i64 (k : Int)) (.int .i64 r.size) ∧ Hid (Below W1.heap.size W1 wc))
        case first => as_aux_lemma =>
          go_region
          all_goals (go_wp2_with fail; go_meet; refine ⟨_, _, rfl, rfl, ?_, ?_, ?_⟩)
          all_goals first | exact Below.drew (below2 _ _ _) | (refine Six.below ?_ (Below.drew (Below.refl _ _)); first | exact (Six.new _ rfl).below (below1 _ _) | exact Six.new _ (by simp))
        case rest => as_aux_lemma =>
          obtain ⟨n7, n8, rfl, rfl, h7, h8, Hbc⟩ := hcut
          obtain ⟨s0, s1, s2, s3, s4, s5⟩ := h7
          obtain ⟨t0, t1, t2, t3, t4, t5⟩ := h8
          have HUc := hide (HU1.out.below Hbc.out)
          have Hgc := hide (grown_below' Hg1.out Hbc.out)
          have hx8 := Hx9.out
          rw [joinB] at hx8
          by_cases hv : r.v = 0
          · have e1 : (r.v != 0) = false := by simpa using hv
            rw [if_pos hv] at hx8
            by_cases hf : p.f = r.f
            · have e2 : (p.f == r.f) = true := by simpa using hf
              rw [if_pos hf] at hx8
              have HE := hide (equalJoin_any q u b c (joinF N) Hih.out p.args r.args aa ac aa' ac' _ x wc HUc.out (NumsQ_below Hbc.out Hnx.out) (NumsQ_below Hbc.out Hny.out) hx8)
              clear hx8 hv hf Hx9 x0 x1 x2 x3 x4 x5 y0 y1 y2 y3 y4 y5 cu1
              go_wp2_with fail
              refine HE.out.mono ?_
              rintro e w3 ⟨rfl, hU3, hg3⟩
              have HU3 := hide hU3
              have Hg3 := hide (Hgc.out.trans hg3)
              clear hU3 hg3 HE
              go_wp2_with fail
              go_ret
              exact ⟨rfl, HU3.out, Hg3.out⟩
            · have e2 : (p.f == r.f) = false := by simpa using hf
              rw [if_neg hf] at hx8
              have Hx8 := hide (Option.some.inj hx8)
              clear hx8 hv hf Hx9 x0 x1 x2 x3 x4 x5 y0 y1 y2 y3 y4 y5 cu1
              go_wp2_with fail
              go_ret
              rw [← Hx8.out]
              exact ⟨rfl, HUc.out, Hgc.out⟩
          · have e1 : (r.v != 0) = true := by simpa using hv
            rw [if_neg hv] at hx8
            have Hx8 := hide (Option.some.inj hx8)
            clear hx8 hv Hx9 x0 x1 x2 x3 x4 x5 y0 y1 y2 y3 y4 y5 cu1
            go_wp2_with fail
            go_ret
            rw [← Hx8.out]
            exact ⟨rfl, HUc.out, Hgc.out⟩
end Go.Proofs.Ytbkedppkdhfpoaa

namespace Go.Proofs.Ytbkedppkdhfpoaa
open Go.RowKit

/-- Four cells a binding, and what lies behind it. -/
def KidsB (p : Nat → Prop) (w : World) : List (Int × T) → List Value → Prop
  | [], cs => cs = []
  | x :: bs, cs => ∃ a cap rest, cs = .int .i64 x.1 :: .int .i64 x.2.v :: .int .i64 x.2.f :: .slice a x.2.args.length cap :: rest ∧ InP p w x.2.args a ∧ KidsB p w bs rest
theorem KidsB_append {p : Nat → Prop} {w : World} {bs us : List (Int × T)} : ∀ {cs ds : List Value}, KidsB p w bs cs → KidsB p w us ds → KidsB p w (bs ++ us) (cs ++ ds) := by
  induction bs with
  | nil => intro cs ds h1 h2; rw [show cs = [] from h1]; exact h2
  | cons x bs ih =>
    intro cs ds h1 h2
    obtain ⟨a, cap, rest, rfl, h0, h⟩ := h1
    exact ⟨a, cap, rest ++ ds, rfl, h0, ih h h2⟩
theorem KidsB_mono {p q : Nat → Prop} {w w' : World} {bs : List (Int × T)} (hs : ∀ k, p k → k < w.heap.size → q k ∧ w'.heap[k]? = w.heap[k]?) : ∀ {cs : List Value}, KidsB p w bs cs → KidsB q w' bs cs := by
  induction bs with
  | nil => intro cs h; exact h
  | cons x bs ih =>
    intro cs h
    obtain ⟨a, cap, rest, rfl, h0, h⟩ := h
    exact ⟨a, cap, rest, rfl, InP_mono (fun b o v hp hv => ⟨(hs b hp (lt_of_cell hv)).1, by rw [World.cell?_of_block (w := w) (a := ⟨b, o, none⟩) (hs b hp (lt_of_cell hv)).2]; exact hv⟩) _ _ _ (Nat.le_refl _) h0, ih h⟩
theorem KidsB_in {p : Nat → Prop} {w : World} {g : Nat} (hpg : p g) {bs : List (Int × T)} : ∀ {off : Nat} {cs : List Value}, KidsB p w bs cs → (∀ j u, cs[j]? = some u → w.cell? ⟨g, off + j, none⟩ = some u) → Binds p w bs (some ⟨g, off, none⟩) := by
  induction bs with
  | nil => intro off cs _ _; trivial
  | cons x bs ih =>
    intro off cs h hc
    obtain ⟨a, cap, rest, rfl, h0, h⟩ := h
    refine ⟨g, off, a, cap, rfl, hpg, hc 0 _ rfl, hc 1 _ rfl, hc 2 _ rfl, hc 3 _ rfl, h0, ih h fun j u hu => ?_⟩
    rw [show off + 4 + j = off + (j + 4) from by omega]
    exact hc (j + 4) u (by simpa using hu)
/-- A list of the call's own that holds these bindings; nothing that lies behind them lies in the list's own block. -/
def OutsB (q : Nat → Prop) (base : Nat) (w : World) (l : Value) (bs : List (Int × T)) : Prop :=
  ∃ xs, w.ownsRow base 95 4 l bs.length xs ∧ KidsB (fun k => (q k ∨ base ≤ k) ∧ l.ownBlock ≠ some k) w bs xs
theorem OutsB_nil {q : Nat → Prop} {base : Nat} {w : World} : OutsB q base w (.slice none 0 0) [] := ⟨[], ⟨rfl, Or.inl ⟨rfl, rfl⟩⟩, rfl⟩
theorem OutsB_same {q : Nat → Prop} {base : Nat} {w w' : World} {l : Value} {bs : List (Int × T)} (h : OutsB q base w l bs) (hs : ∀ k, (q k ∨ base ≤ k) → k < w.heap.size → w'.heap[k]? = w.heap[k]?) : OutsB q base w' l bs := by
  obtain ⟨xs, h1, h2⟩ := h
  exact ⟨xs, own_same h1 (fun g hg => hs g (Or.inr (own_lt h1 g hg).1) (own_lt h1 g hg).2), KidsB_mono (fun k hk hlt => ⟨hk, hs k hk.1 hlt⟩) h2⟩
theorem OutsB_below {q : Nat → Prop} {base : Nat} {w w' : World} {l : Value} {bs : List (Int × T)} (h : OutsB q base w l bs) (hb : Below w.heap.size w w') : OutsB q base w' l bs := OutsB_same h (fun k _ hk => hb.block k hk)
theorem OutsB_step {q : Nat → Prop} {base : Nat} {w w' : World} {l : Value} {bs : List (Int × T)} {x : Int × T} {xs : List Value} {a : Option Addr} {cap g cap2 : Nat} (hk : KidsB (fun k => (q k ∨ base ≤ k) ∧ l.ownBlock ≠ some k) w bs xs)
    (hc : InP (fun k => (q k ∨ base ≤ k) ∧ l.ownBlock ≠ some k) w x.2.args a)
    (hown : w'.ownsRow base 95 4 (.slice (some ⟨g, 0, none⟩) (bs.length + 1) cap2) (bs.length + 1) (xs ++ [.int .i64 x.1, .int .i64 x.2.v, .int .i64 x.2.f, .slice a x.2.args.length cap])) (hg : w.grownBy w' l.ownBlock) (hat : l.ownBlock = some g ∨ g = w.heap.size) :
    OutsB q base w' (.slice (some ⟨g, 0, none⟩) (bs.length + 1) cap2) (bs ++ [x]) := by
  refine ⟨_, by rw [List.length_append]; exact hown, KidsB_mono (p := fun k => (q k ∨ base ≤ k) ∧ l.ownBlock ≠ some k) (w := w) (fun k hp hlt => ⟨⟨hp.1, ?_⟩, hg.block k hlt (fun e => hp.2 e.symm)⟩) (KidsB_append hk ⟨a, cap, [], rfl, hc, rfl⟩)⟩
  rcases hat with hat | hat
  · rw [show (Value.slice (some ⟨g, 0, none⟩) (bs.length + 1) cap2).ownBlock = some g from rfl, ← hat]; exact hp.2
  · show some g ≠ some k
    intro e; cases e; omega
theorem own_cellsN {w : World} {base n : Nat} {e : TypeId} {sz : Nat} {v : Value} {xs : List Value} (h : w.ownsRow base e sz v n xs) (hn : 0 < n) : ∃ g cap, v = .slice (some ⟨g, 0, none⟩) n cap ∧ base ≤ g ∧ g < w.heap.size ∧ ∀ j u, xs[j]? = some u → w.cell? ⟨g, j, none⟩ = some u := by
  rcases h.2 with ⟨_, h0⟩ | ⟨g, cap, cur, rfl, hb, hg, hc, hm, hs, ht⟩
  · omega
  refine ⟨g, cap, rfl, hb, ?_, fun j u hu => ?_⟩
  · rcases Nat.lt_or_ge g w.heap.size with h | h
    · exact h
    · rw [Array.getElem?_eq_none h] at hg; cases hg
  · have hj : j < xs.length := by
      rcases Nat.lt_or_ge j xs.length with h | h
      · exact h
      · rw [List.getElem?_eq_none h] at hu; cases hu
    have e1 : cur[j]? = some u := by
      have h2 : (cur.toList.take (n * sz))[j]? = some u := by rw [ht]; exact hu
      rw [List.getElem?_take_of_lt (by have := h.1; omega)] at h2
      simpa using h2
    simp [World.cell?, hg, e1]
theorem OutsB_end {q : Nat → Prop} {base : Nat} {w : World} {l : Value} {bs : List (Int × T)} (h : OutsB q base w l bs) : ∃ a cap, l = .slice a bs.length cap ∧ Binds (fun k => q k ∨ base ≤ k) w bs a := by
  obtain ⟨xs, h1, h2⟩ := h
  by_cases h0 : 0 < bs.length
  · obtain ⟨g, cap, rfl, hb, hlt, hcell⟩ := own_cellsN h1 h0
    exact ⟨_, cap, rfl, KidsB_in (Or.inr hb) (KidsB_mono (fun k hk _ => ⟨hk.1, rfl⟩) h2) (fun j u hu => by rw [Nat.zero_add]; exact hcell j u hu)⟩
  · obtain ⟨a, c, rfl⟩ := own_shape h1
    have : bs = [] := List.length_eq_zero_iff.1 (by omega)
    subst this
    exact ⟨a, c, rfl, trivial⟩

theorem Try.info95 : (Try.prog.info? 95).map (fun i => (i.zero, i.size, i.bytes)) = some (some (.agg #[.int .i64 0, .int .i64 0, .int .i64 0, .slice none 0 0]), 4, 48) := by kernel_rfl
def row4 (n : Nat) : Array Value := madeCells #[.int .i64 0, .int .i64 0, .int .i64 0, .slice none 0 0] (n * 4)
theorem run_make4 (n : Nat) (hn : n ≤ 1000000) (w : World) : (Instr.makeSlice 51 (.int .i64 0) (.int .i64 (n : Int))).run Try.prog w = .ok (.slice (some ⟨w.heap.size, 0, none⟩) 0 n) (w.alloc (.cells (row4 n) 95)) := by
  obtain ⟨i, hi, hzz⟩ := Option.map_eq_some_iff.1 Try.info95
  simp only [Prod.mk.injEq] at hzz
  obtain ⟨hz, hs, hb⟩ := hzz
  have hr := run_make (P := Try.prog) w 51 95 i _ Try.underlying51 hi hz .i64 .i64 0 n (by omega) (by omega) (by rw [hb]; omega) (by omega)
  simp only [Int.toNat_natCast, hs, Int.toNat_zero] at hr
  exact hr
theorem OutsB_made {q : Nat → Prop} {base n : Nat} {w : World} (hb : base ≤ w.heap.size) (hn : n ≤ 1000000) : OutsB q base (w.alloc (.cells (row4 n) 95)) (.slice (some ⟨w.heap.size, 0, none⟩) 0 n) [] :=
  ⟨[], ⟨rfl, Or.inr ⟨w.heap.size, n, row4 n, rfl, hb, heap_alloc_new w _, Nat.zero_le _, by unfold maxLen; omega, by rw [row4, size_madeCells], by simp⟩⟩, rfl⟩
theorem four_new {w : World} {v a b : Int} {s : Value} {e : TypeId} {n : Nat} (hn : n = w.heap.size) : ∀ (j : Nat) (u : Value), [Value.int .i64 v, .int .i64 a, .int .i64 b, s][j]? = some u →
    (w.alloc (.cells #[.int .i64 v, .int .i64 a, .int .i64 b, s] e)).cell? ((⟨n, 0, none⟩ : Addr).add j) = some u := by
  intro j u hu
  have e1 : (⟨n, 0, none⟩ : Addr).add j = ⟨n, j, none⟩ := by simp [Addr.add]; omega
  rw [e1, cell_new j hn]
  simpa using hu

end Go.Proofs.Ytbkedppkdhfpoaa

namespace Go.Proofs.Ytbkedppkdhfpoaa
open Go.RowKit

theorem NumsQ_mono {q s : Nat → Prop} {w w' : World} (hs : ∀ k, q k → k < w.heap.size → s k ∧ w'.heap[k]? = w.heap[k]?) {ns : List Nat} {a : Option Addr} (hn : NumsQ q w ns a) : NumsQ s w' ns a := by
  obtain ⟨hl, hn⟩ := hn
  rcases hn with h0 | ⟨x, off, h1, h2, h3⟩
  · exact ⟨hl, Or.inl h0⟩
  · by_cases h9 : ns = []
    · exact ⟨hl, Or.inl h9⟩
    · have hp : 0 < ns.length := List.length_pos_iff.2 h9
      have hlt := lt_of_cell (h3 0 hp)
      exact ⟨hl, Or.inr ⟨x, off, h1, (hs x h2 hlt).1, fun i hi => by rw [World.cell?_of_block (w := w) (a := ⟨x, off + i, none⟩) (hs x h2 hlt).2]; exact h3 i hi⟩⟩

/-- Six cells a part, and the numbers behind it. -/
def KidsU (p : Nat → Prop) (w : World) : List Pt → List Value → Prop
  | [], cs => cs = []
  | x :: P, cs => ∃ ta tl tc aa ac rest, cs = .int .i64 x.v :: .int .i64 x.f :: .slice ta tl tc :: .slice aa x.args.length ac :: .int .i64 (x.like : Int) :: .int .i64 x.size :: rest ∧ NumsQ p w x.args aa ∧ KidsU p w P rest
theorem KidsU_append {p : Nat → Prop} {w : World} {P Q : List Pt} : ∀ {cs ds : List Value}, KidsU p w P cs → KidsU p w Q ds → KidsU p w (P ++ Q) (cs ++ ds) := by
  induction P with
  | nil => intro cs ds h1 h2; rw [show cs = [] from h1]; exact h2
  | cons x P ih =>
    intro cs ds h1 h2
    obtain ⟨ta, tl, tc, aa, ac, rest, rfl, h0, h⟩ := h1
    exact ⟨ta, tl, tc, aa, ac, rest ++ ds, rfl, h0, ih h h2⟩
theorem KidsU_mono {p q : Nat → Prop} {w w' : World} {P : List Pt} (hs : ∀ k, p k → k < w.heap.size → q k ∧ w'.heap[k]? = w.heap[k]?) : ∀ {cs : List Value}, KidsU p w P cs → KidsU q w' P cs := by
  induction P with
  | nil => intro cs h; exact h
  | cons x P ih =>
    intro cs h
    obtain ⟨ta, tl, tc, aa, ac, rest, rfl, h0, h⟩ := h
    exact ⟨ta, tl, tc, aa, ac, rest, rfl, NumsQ_mono hs h0, ih h⟩
theorem KidsU_at {p : Nat → Prop} {w : World} {g : Nat} {P : List Pt} : ∀ {off : Nat} {cs : List Value}, KidsU p w P cs → (∀ j u, cs[j]? = some u → w.cell? ⟨g, off + j, none⟩ = some u) → ∀ k x, P[k]? = some x → At6 p w g (off + k * 6) x := by
  induction P with
  | nil => intro off cs _ _ k x h; simp at h
  | cons y P ih =>
    intro off cs h hc k x hk
    obtain ⟨ta, tl, tc, aa, ac, rest, rfl, h0, h⟩ := h
    cases k with
    | zero =>
      simp at hk; subst hk
      exact ⟨ta, tl, tc, aa, ac, by simpa using hc 0 _ rfl, by simpa using hc 1 _ rfl, by simpa using hc 2 _ rfl, by simpa using hc 3 _ rfl, by simpa using hc 4 _ rfl, by simpa using hc 5 _ rfl, h0⟩
    | succ k =>
      have h9 := ih (off := off + 6) h (fun j u hu => by rw [show off + 6 + j = off + (j + 6) from by omega]; exact hc (j + 6) u (by simpa using hu)) k x (by simpa using hk)
      rw [show off + (k + 1) * 6 = off + 6 + k * 6 by omega]
      exact h9
/-- A list of the call's own that holds these parts; the numbers behind them lie elsewhere. -/
def OutsU (base : Nat) (w : World) (l : Value) (P : List Pt) : Prop :=
  ∃ xs, w.ownsRow base 129 6 l P.length xs ∧ KidsU (fun k => base ≤ k ∧ l.ownBlock ≠ some k) w P xs
theorem OutsU_nil {base : Nat} {w : World} : OutsU base w (.slice none 0 0) [] := ⟨[], ⟨rfl, Or.inl ⟨rfl, rfl⟩⟩, rfl⟩
theorem OutsU_same {base : Nat} {w w' : World} {l : Value} {P : List Pt} (h : OutsU base w l P) (hs : ∀ k, base ≤ k → k < w.heap.size → w'.heap[k]? = w.heap[k]?) : OutsU base w' l P := by
  obtain ⟨xs, h1, h2⟩ := h
  exact ⟨xs, own_same h1 (fun g hg => hs g (own_lt h1 g hg).1 (own_lt h1 g hg).2), KidsU_mono (fun k hk hlt => ⟨hk, hs k hk.1 hlt⟩) h2⟩
theorem OutsU_below {base : Nat} {w w' : World} {l : Value} {P : List Pt} (h : OutsU base w l P) (hb : Below w.heap.size w w') : OutsU base w' l P := OutsU_same h (fun k _ hk => hb.block k hk)
theorem OutsU_step {base : Nat} {w w' : World} {l : Value} {P : List Pt} {x : Pt} {xs : List Value} {ta : Option Addr} {tl tc : Nat} {aa : Option Addr} {ac g cap2 : Nat} (hk : KidsU (fun k => base ≤ k ∧ l.ownBlock ≠ some k) w P xs)
    (hc : NumsQ (fun k => base ≤ k ∧ l.ownBlock ≠ some k) w x.args aa)
    (hown : w'.ownsRow base 129 6 (.slice (some ⟨g, 0, none⟩) (P.length + 1) cap2) (P.length + 1) (xs ++ [.int .i64 x.v, .int .i64 x.f, .slice ta tl tc, .slice aa x.args.length ac, .int .i64 (x.like : Int), .int .i64 x.size])) (hg : w.grownBy w' l.ownBlock) (hat : l.ownBlock = some g ∨ g = w.heap.size) :
    OutsU base w' (.slice (some ⟨g, 0, none⟩) (P.length + 1) cap2) (P ++ [x]) := by
  refine ⟨_, by rw [List.length_append]; exact hown, KidsU_mono (p := fun k => base ≤ k ∧ l.ownBlock ≠ some k) (w := w) (fun k hp hlt => ⟨⟨hp.1, ?_⟩, hg.block k hlt (fun e => hp.2 e.symm)⟩) (KidsU_append hk ⟨ta, tl, tc, aa, ac, [], rfl, hc, rfl⟩)⟩
  rcases hat with hat | hat
  · rw [show (Value.slice (some ⟨g, 0, none⟩) (P.length + 1) cap2).ownBlock = some g from rfl, ← hat]; exact hp.2
  · show some g ≠ some k
    intro e; cases e; omega
/-- Once all are added, the unifier lies as the others want it. -/
theorem OutsU_end {base : Nat} {w : World} {l : Value} {P : List Pt} {u : Nat} (h : OutsU base w l P) (hu : w.cell? ⟨u, 0, none⟩ = some l) (hub : u < base) (hfu : ∀ k, w.frozen? ⟨u, k, none⟩ = false) (hp : 0 < P.length) (hl : P.length ≤ 100000) :
    ∃ b c, l = .slice (some ⟨b, 0, none⟩) P.length c ∧ base ≤ b ∧ UAt (fun k => base ≤ k ∧ k ≠ b) w u b c P := by
  obtain ⟨xs, h1, h2⟩ := h
  obtain ⟨g, cap, rfl, hb, hlt, hcell⟩ := own_cellsN h1 hp
  refine ⟨g, cap, rfl, hb, hu, fun k p hk => ?_, fun k hk => ⟨by omega, hk.2⟩, by omega, hl, fun k => ?_, hfu, hlt⟩
  · have h9 := KidsU_at (off := 0) (KidsU_mono (q := fun k => base ≤ k ∧ k ≠ g) (fun k hk _ => ⟨⟨hk.1, fun e => hk.2 (by rw [e]; rfl)⟩, rfl⟩) h2) (fun j v hv => by rw [Nat.zero_add]; exact hcell j v hv) k p hk
    rw [Nat.zero_add] at h9
    exact h9
  · rcases h1.2 with ⟨h0, _⟩ | ⟨g', cap', cur, h0, _, hh, _⟩
    · cases h0
    · cases h0
      exact frozen_of_heap hh k

/-- The number of a variable's part. -/
def lookN : List (Int × Nat) → Int → Option Nat
  | [], _ => none
  | x :: l, v => if x.1 = v then some x.2 else lookN l v
/-- What a term adds to the parts, and the number of the whole. -/
def addT : T → List Pt × List (Int × Nat) → Nat × List Pt × List (Int × Nat)
  | ⟨v, f, args⟩, s => match lookN s.2 v with
    | some n => (n, s)
    | none =>
      let r := addL args s
      (r.2.1.length, r.2.1 ++ [⟨v, f, r.1, r.2.1.length, 0⟩], if v = 0 then r.2.2 else (v, r.2.1.length) :: r.2.2)
  where
  addL : List T → List Pt × List (Int × Nat) → List Nat × List Pt × List (Int × Nat)
    | [], s => ([], s)
    | t :: ts, s =>
      let r := addT t s
      let x := addL ts r.2
      (r.1 :: x.1, x.2)

/-- What the law's own begin comes to: the parts of both terms, joined, measured, and bound. -/
def tU : T := ⟨0, 1, [⟨2, 0, []⟩]⟩
def tV : T := ⟨0, 1, [⟨0, 0, []⟩]⟩
def begP : List Pt × List (Int × Nat) := (addT tV (addT tU ([], [])).2).2

end Go.Proofs.Ytbkedppkdhfpoaa

namespace Go.Proofs.Ytbkedppkdhfpoaa
open Go.RowKit

theorem Try.info129 : (Try.prog.info? 129).map (fun i => (i.zero, i.size, i.bytes)) = some (some (.agg #[.int .i64 0, .int .i64 0, .slice none 0 0, .slice none 0 0, .int .i64 0, .int .i64 0]), 6, 80) := by kernel_rfl
theorem Try.underlying100 : Try.prog.underlying 100 = some (.slice 129) := by kernel_rfl
theorem six_new {w : World} {v0 v1 v2 v3 v4 v5 : Value} {e : TypeId} {n : Nat} (hn : n = w.heap.size) : ∀ (j : Nat) (u : Value), [v0, v1, v2, v3, v4, v5][j]? = some u →
    (w.alloc (.cells #[v0, v1, v2, v3, v4, v5] e)).cell? ((⟨n, 0, none⟩ : Addr).add j) = some u := by
  intro j u hu
  have e1 : (⟨n, 0, none⟩ : Addr).add j = ⟨n, j, none⟩ := by simp [Addr.add]; omega
  rw [e1, cell_new j hn]
  simpa using hu

/-- What is appended: nothing, or the cells that lie at an address. -/
def SrcU (w : World) (x : Value) (m : Nat) (news : List Value) : Prop :=
  (x = .slice none 0 0 ∧ m = 0 ∧ news = []) ∨ ∃ b off c, x = .slice (some ⟨b, off, none⟩) m c ∧ news.length = m * 6 ∧ (∀ j u, news[j]? = some u → w.cell? ⟨b, off + j, none⟩ = some u) ∧ ∀ u, u ∈ news → u.oneCell' = true
theorem run_append_u {w : World} {base n m : Nat} {v x : Value} {xs news : List Value} (ty : TypeId) (hown : w.ownsRow base 129 6 v n xs) (hx : SrcU w x m news) (hl : n + m ≤ 200000) (hbase : base ≤ w.heap.size) :
    ∃ v' w', (Builtin.append_ #[100, 100] ty #[v, x]).run Try.prog w = .ok v' w' ∧ w'.ownsRow base 129 6 v' (n + m) (xs ++ news) ∧ w.grownBy w' v.ownBlock ∧ (v'.ownBlock = v.ownBlock ∨ v'.ownBlock = some w.heap.size) := by
  obtain ⟨i, hi, hzz⟩ := Option.map_eq_some_iff.1 Try.info129
  simp only [Prod.mk.injEq] at hzz
  obtain ⟨hz0, hz1, hz2⟩ := hzz
  rcases hx with ⟨rfl, rfl, rfl⟩ | ⟨b, off, c, rfl, hl2, hc, h1⟩
  · rw [List.append_nil]
    exact ⟨v, w, run_append_owned_none (P := Try.prog) w base 100 ty 129 i 6 Try.underlying100 hi _ _ _ hown, hown, ⟨rfl, rfl, rfl, Nat.le_refl _, fun _ _ _ => rfl⟩, Or.inl rfl⟩
  · obtain ⟨v', w', hr, h2, h3, _, h5⟩ := run_append_own_at (P := Try.prog) w base 100 ty 129 i (.agg #[.int .i64 0, .int .i64 0, .slice none 0 0, .slice none 0 0, .int .i64 0, .int .i64 0]) 6 80 Try.underlying100 hi hz0 hz1 hz2 rfl (by decide) v n xs hown ⟨b, off, none⟩ m c news hl2 (fun j u hu => by
        have e : (⟨b, off, none⟩ : Addr).add j = ⟨b, off + j, none⟩ := by simp [Addr.add]
        rw [e]; exact hc j u hu) h1 (by unfold maxLen; omega) (by omega) hbase
    exact ⟨v', w', hr, h2, h3, h5⟩
theorem wp_append_u {w : World} {o : Oper} {a : Act} {K : Act → World → Prop} {Q : Exit → Act → World → Prop} (s x : Operand) (ho : o.op = .call { callee := .builtin .append, args := #[s, x], argTypes := #[100, 100] })
    (base n m : Nat) (v : Value) (xs news : List Value) (hs : a.eval s = v) (hown : w.ownsRow base 129 6 v n xs) (xv : Value) (hx : a.eval x = xv) (hsrc : SrcU w xv m news) (hl : n + m ≤ 200000) (hbase : base ≤ w.heap.size)
    (h : ∀ v' w', w'.ownsRow base 129 6 v' (n + m) (xs ++ news) → w.grownBy w' v.ownBlock → (v'.ownBlock = v.ownBlock ∨ v'.ownBlock = some w.heap.size) → K (a.put o.dst v') w') : o.wp Try.prog a w K Q := by
  obtain ⟨v', w', hr, h2, h3, h4⟩ := run_append_u o.type hown hsrc hl hbase
  unfold Oper.wp execOp
  simp only [ho, resolve, invoke, builtin, Sem.run_bind, Sem.run_pure, Result.andThen_ok, List.map_toArray, List.map_cons, List.map_nil, hs, hx, hr]
  exact h v' w' h2 h3 h4
theorem wpList_append_u {w : World} {ops : Array Oper} {rest : List Oper} {o : Oper} {a : Act} {Q : Exit → Act → World → Prop} (hgd : o.guard = none) (s x : Operand) (ho : o.op = .call { callee := .builtin .append, args := #[s, x], argTypes := #[100, 100] })
    (base n m : Nat) (v : Value) (xs news : List Value) (hs : a.eval s = v) (hown : w.ownsRow base 129 6 v n xs) (xv : Value) (hx : a.eval x = xv) (hsrc : SrcU w xv m news) (hl : n + m ≤ 200000) (hbase : base ≤ w.heap.size)
    (h : ∀ v' w', w'.ownsRow base 129 6 v' (n + m) (xs ++ news) → w.grownBy w' v.ownBlock → (v'.ownBlock = v.ownBlock ∨ v'.ownBlock = some w.heap.size) → wpList Try.prog ops Q rest (a.put o.dst v') w') : wpList Try.prog ops Q (o :: rest) a w :=
  wpList_plain hgd fun _ hK => wp_append_u s x ho base n m v xs news hs hown xv hx hsrc hl hbase fun v' w' h2 h3 h4 => hK _ _ (h v' w' h2 h3 h4)
theorem step_append_u {w : World} {ops : Array Oper} {o : Oper} {a : Act} {K : Act → World → Prop} {Q : Exit → Act → World → Prop} {E : Prop} (hgd : o.guard = none) (s x : Operand) (ho : o.op = .call { callee := .builtin .append, args := #[s, x], argTypes := #[100, 100] })
    (base n m : Nat) (v : Value) (xs news : List Value) (hs : a.eval s = v) (hown : w.ownsRow base 129 6 v n xs) (xv : Value) (hx : a.eval x = xv) (hsrc : SrcU w xv m news) (hl : n + m ≤ 200000) (hbase : base ≤ w.heap.size)
    (h : ∀ v' w', w'.ownsRow base 129 6 v' (n + m) (xs ++ news) → w.grownBy w' v.ownBlock → (v'.ownBlock = v.ownBlock ∨ v'.ownBlock = some w.heap.size) → K (a.put o.dst v') w') :
    if Region.wanted o (yielded ops a.tmps) = true then Oper.wp Try.prog o a w K Q else E := by
  have hw : Region.wanted o (yielded ops a.tmps) = true := by simp [Region.wanted, hgd]
  rw [if_pos hw]
  exact wp_append_u s x ho base n m v xs news hs hown xv hx hsrc hl hbase h


/-- The unifier while parts are added: its list l, its map in block mb. -/
structure AS (base u mb : Nat) (w : World) (l : Value) (s : List Pt × List (Int × Nat)) : Prop where
  list : w.cell? ⟨u, 0, none⟩ = some l
  map : w.cell? ⟨u, 1, none⟩ = some (.map (some mb))
  outs : OutsU base w l s.1
  mp : MapAt w mb s.2.length (fun v => (lookN s.2 v).map (fun n => .int .i64 (n : Int)))
  fru : ∀ k, w.frozen? ⟨u, k, none⟩ = false
  ub : u < base
  mbb : mb < base
  ne : u ≠ mb
/-- Of what was there only the unifier's own three blocks have changed. -/
structure AF (u mb : Nat) (w : World) (l : Value) (w' : World) (l' : Value) : Prop where
  os : w'.os = w.os
  tape : w'.tape = w.tape
  output : w'.output = w.output
  size : w.heap.size ≤ w'.heap.size
  block : ∀ k, k < w.heap.size → k ≠ u → k ≠ mb → l.ownBlock ≠ some k → w'.heap[k]? = w.heap[k]?
  row : l'.ownBlock = l.ownBlock ∨ ∃ g, l'.ownBlock = some g ∧ w.heap.size ≤ g
theorem AF.refl (u mb : Nat) (w : World) (l : Value) : AF u mb w l w l := ⟨rfl, rfl, rfl, Nat.le_refl _, fun _ _ _ _ _ => rfl, Or.inl rfl⟩
theorem AF.trans {u mb : Nat} {w w' w'' : World} {l l' l'' : Value} (h : AF u mb w l w' l') (h' : AF u mb w' l' w'' l'') : AF u mb w l w'' l'' := by
  have hs := h.size
  refine ⟨h'.os.trans h.os, h'.tape.trans h.tape, h'.output.trans h.output, Nat.le_trans hs h'.size, fun k hk h1 h2 h3 => ?_, ?_⟩
  · rw [h'.block k (by omega) h1 h2 (fun e => ?_), h.block k hk h1 h2 h3]
    rcases h.row with h4 | ⟨g, h4, h5⟩
    · exact h3 (h4.symm.trans e)
    · rw [h4] at e; cases e; omega
  · rcases h'.row with h4 | ⟨g, h4, h5⟩
    · rcases h.row with h6 | ⟨g, h6, h7⟩
      · exact Or.inl (h4.trans h6)
      · exact Or.inr ⟨g, h4.trans h6, h7⟩
    · exact Or.inr ⟨g, h4, by omega⟩
theorem AF.of_below {u mb : Nat} {w w' : World} {l : Value} (h : Below w.heap.size w w') : AF u mb w l w' l := ⟨h.os, h.tape, h.output, h.size, fun k hk _ _ _ => h.block k hk, Or.inl rfl⟩
theorem AF.below {u mb lo : Nat} {w w' : World} {l l' : Value} (h : AF u mb w l w' l') (hlo : lo ≤ w.heap.size) (hu : lo ≤ u) (hm : lo ≤ mb) (hr : ∀ g, l.ownBlock = some g → lo ≤ g) : Below lo w w' :=
  ⟨h.os, h.tape, h.output, h.size, fun k hk => h.block k (by omega) (by omega) (by omega) (fun e => by have := hr k e; omega)⟩
theorem AS.below {base u mb : Nat} {w w' : World} {l : Value} {s : List Pt × List (Int × Nat)} (h : AS base u mb w l s) (hb : Below w.heap.size w w') : AS base u mb w' l s :=
  ⟨cell_below hb h.list, cell_below hb h.map, OutsU_below h.outs hb, h.mp.below hb, fun k => by rw [hb.frozen (p := ⟨u, k, none⟩) (lt_of_cell h.list)]; exact h.fru k, h.ub, h.mbb, h.ne⟩
theorem AS.row {base u mb : Nat} {w : World} {l : Value} {s : List Pt × List (Int × Nat)} (h : AS base u mb w l s) : ∀ g, l.ownBlock = some g → base ≤ g ∧ g < w.heap.size := by
  obtain ⟨xs, h1, _⟩ := h.outs
  exact own_lt h1

end Go.Proofs.Ytbkedppkdhfpoaa

namespace Go.Proofs.Ytbkedppkdhfpoaa
open Go.RowKit Go.Maps

theorem Try.under99 : Try.prog.underlying 99 = some (.map 3 3) := by kernel_rfl
theorem Try.zeroI (w : World) : (zeroValue 3).run Try.prog w = .ok (.int .i64 0) w := by kernel_rfl
theorem okP_le {ar : List Int} {t : T} (h : okP ar t) : 0 ≤ t.v ∧ t.v ≤ 1000 := by
  have h1 := (okP_iff.1 h).1
  rw [partErr] at h1
  by_cases hv : t.v = 0
  · omega
  · rw [if_pos hv] at h1
    by_cases h2 : t.v < 1 ∨ 1000 < t.v
    · rw [if_pos h2] at h1; cases h1
    · omega

theorem addT_known {t : T} {s : List Pt × List (Int × Nat)} {n : Nat} (h : lookN s.2 t.v = some n) : addT t s = (n, s) := by
  obtain ⟨v, f, args⟩ := t
  rw [addT, h]
theorem addT_new {t : T} {s : List Pt × List (Int × Nat)} (h : lookN s.2 t.v = none) : addT t s = ((addT.addL t.args s).2.1.length, (addT.addL t.args s).2.1 ++ [⟨t.v, t.f, (addT.addL t.args s).1, (addT.addL t.args s).2.1.length, 0⟩], if t.v = 0 then (addT.addL t.args s).2.2 else (t.v, (addT.addL t.args s).2.1.length) :: (addT.addL t.args s).2.2) := by
  obtain ⟨v, f, args⟩ := t
  rw [addT, h]
theorem addL_snoc (x : T) : ∀ (ts : List T) (s : List Pt × List (Int × Nat)), addT.addL (ts ++ [x]) s = ((addT.addL ts s).1 ++ [(addT x (addT.addL ts s).2).1], (addT x (addT.addL ts s).2).2) := by
  intro ts
  induction ts with
  | nil => intro s; rfl
  | cons t ts ih =>
    intro s
    show ((addT t s).1 :: (addT.addL (ts ++ [x]) (addT t s).2).1, (addT.addL (ts ++ [x]) (addT t s).2).2) = _
    rw [ih]; rfl
theorem addL_step {ts : List T} {k : Nat} {x : T} (h : ts[k]? = some x) (s : List Pt × List (Int × Nat)) : addT.addL (ts.take (k + 1)) s = ((addT.addL (ts.take k) s).1 ++ [(addT x (addT.addL (ts.take k) s).2).1], (addT x (addT.addL (ts.take k) s).2).2) := by
  rw [List.take_add_one, h]; exact addL_snoc x _ s
theorem addL_length : ∀ (ts : List T) (s : List Pt × List (Int × Nat)), (addT.addL ts s).1.length = ts.length := by
  intro ts
  induction ts with
  | nil => intro s; rfl
  | cons t ts ih => intro s; show (_ :: (addT.addL ts (addT t s).2).1).length = _; rw [List.length_cons, ih, List.length_cons]
theorem add_size : ∀ (n : Nat), (∀ (t : T) (s : List Pt × List (Int × Nat)), t.sz ≤ n → (addT t s).2.1.length ≤ s.1.length + t.sz ∧ (addT t s).2.2.length ≤ s.2.length + t.sz) ∧
    (∀ (ts : List T) (s : List Pt × List (Int × Nat)), T.sz.szL ts ≤ n → (addT.addL ts s).2.1.length ≤ s.1.length + T.sz.szL ts ∧ (addT.addL ts s).2.2.length ≤ s.2.length + T.sz.szL ts) := by
  intro n
  induction n with
  | zero =>
    refine ⟨fun t s h => by have := t.sz_pos; omega, fun ts s h => ?_⟩
    cases ts with
    | nil => exact ⟨Nat.le_add_right _ _, Nat.le_add_right _ _⟩
    | cons t ts => have := t.sz_pos; rw [T.szL_cons] at h; omega
  | succ n ih =>
    have h1 : ∀ (t : T) (s : List Pt × List (Int × Nat)), t.sz ≤ n + 1 → (addT t s).2.1.length ≤ s.1.length + t.sz ∧ (addT t s).2.2.length ≤ s.2.length + t.sz := fun t s h => by
      have he := T.sz_eq t
      cases hlk : lookN s.2 t.v with
      | some m => rw [addT_known hlk]; exact ⟨Nat.le_add_right _ _, Nat.le_add_right _ _⟩
      | none =>
        rw [addT_new hlk]
        have h9 := ih.2 t.args s (by omega)
        refine ⟨by rw [List.length_append, List.length_singleton]; omega, ?_⟩
        show (if t.v = 0 then _ else _ : List (Int × Nat)).length ≤ _
        split
        · omega
        · rw [List.length_cons]; omega
    refine ⟨h1, fun ts => ?_⟩
    induction ts with
    | nil => intro s _; exact ⟨Nat.le_add_right _ _, Nat.le_add_right _ _⟩
    | cons t ts iht =>
      intro s h
      rw [T.szL_cons] at h ⊢
      have h2 := h1 t s (by omega)
      have h3 := iht (addT t s).2 (by omega)
      show (addT.addL ts (addT t s).2).2.1.length ≤ _ ∧ (addT.addL ts (addT t s).2).2.2.length ≤ _
      omega

/-- A list of the call's own that holds these parts; the numbers behind them lie in blocks of which c holds. -/
def OutsX (c : Nat → Prop) (base : Nat) (w : World) (l : Value) (P : List Pt) : Prop :=
  ∃ xs, w.ownsRow base 129 6 l P.length xs ∧ KidsU (fun k => c k ∧ l.ownBlock ≠ some k) w P xs
theorem OutsX.row {c : Nat → Prop} {base : Nat} {w : World} {l : Value} {P : List Pt} (h : OutsX c base w l P) : ∀ g, l.ownBlock = some g → base ≤ g ∧ g < w.heap.size := by
  obtain ⟨xs, h1, _⟩ := h
  exact own_lt h1
theorem OutsX.mono {c c2 : Nat → Prop} {base : Nat} {w w' : World} {l : Value} {P : List Pt} (h : OutsX c base w l P) (hk : ∀ k, c k → l.ownBlock ≠ some k → k < w.heap.size → c2 k ∧ w'.heap[k]? = w.heap[k]?) (hr : ∀ g, l.ownBlock = some g → w'.heap[g]? = w.heap[g]?) : OutsX c2 base w' l P := by
  obtain ⟨xs, h1, h2⟩ := h
  exact ⟨xs, own_same h1 hr, KidsU_mono (fun k hk' hlt => ⟨⟨(hk k hk'.1 hk'.2 hlt).1, hk'.2⟩, (hk k hk'.1 hk'.2 hlt).2⟩) h2⟩
theorem OutsX_step {c : Nat → Prop} {base : Nat} {w w' : World} {l l' : Value} {P : List Pt} {x : Pt} {xs : List Value} {ta : Option Addr} {tl tc : Nat} {aa : Option Addr} {ac : Nat} (hk : KidsU (fun k => c k ∧ l.ownBlock ≠ some k) w P xs)
    (hc : NumsQ (fun k => c k ∧ l.ownBlock ≠ some k) w x.args aa)
    (hown : w'.ownsRow base 129 6 l' (P.length + 1) (xs ++ [.int .i64 x.v, .int .i64 x.f, .slice ta tl tc, .slice aa x.args.length ac, .int .i64 (x.like : Int), .int .i64 x.size])) (hg : w.grownBy w' l.ownBlock) (hat : l'.ownBlock = l.ownBlock ∨ l'.ownBlock = some w.heap.size) :
    OutsX c base w' l' (P ++ [x]) := by
  refine ⟨_, by rw [List.length_append]; exact hown, KidsU_mono (p := fun k => c k ∧ l.ownBlock ≠ some k) (w := w) (fun k hp hlt => ⟨⟨hp.1, ?_⟩, hg.block k hlt (fun e => hp.2 e.symm)⟩) (KidsU_append hk ⟨ta, tl, tc, aa, ac, [], rfl, hc, rfl⟩)⟩
  rcases hat with hat | hat
  · rw [hat]; exact hp.2
  · rw [hat]; intro e; cases e; omega

/-- The unifier while parts are added: its list l, its map in block mb. -/
structure AX (c : Nat → Prop) (base u mb : Nat) (w : World) (l : Value) (s : List Pt × List (Int × Nat)) : Prop where
  list : w.cell? ⟨u, 0, none⟩ = some l
  map : w.cell? ⟨u, 1, none⟩ = some (.map (some mb))
  outs : OutsX c base w l s.1
  mp : MapAt w mb s.2.length (fun v => (lookN s.2 v).map (fun n : Nat => Value.int .i64 (n : Int)))
  fru : ∀ k, w.frozen? ⟨u, k, none⟩ = false
  ub : u < base
  mbb : mb < base
  ne : u ≠ mb
theorem AX.mono {c c2 : Nat → Prop} {base u mb : Nat} {w w' : World} {l : Value} {s : List Pt × List (Int × Nat)} (h : AX c base u mb w l s) (hk : ∀ k, c k → l.ownBlock ≠ some k → k < w.heap.size → c2 k ∧ w'.heap[k]? = w.heap[k]?) (hr : ∀ g, l.ownBlock = some g → w'.heap[g]? = w.heap[g]?)
    (hu : w'.heap[u]? = w.heap[u]?) (hm : w'.heap[mb]? = w.heap[mb]?) : AX c2 base u mb w' l s :=
  ⟨(World.cell?_of_block (w := w) (a := ⟨u, 0, none⟩) hu).trans h.list, (World.cell?_of_block (w := w) (a := ⟨u, 1, none⟩) hu).trans h.map, h.outs.mono hk hr, h.mp.same hm, fun k => (World.frozen?_of_block (w := w) (a := ⟨u, k, none⟩) hu).trans (h.fru k), h.ub, h.mbb, h.ne⟩
theorem AX.below {c : Nat → Prop} {base u mb : Nat} {w w' : World} {l : Value} {s : List Pt × List (Int × Nat)} (h : AX c base u mb w l s) (hb : Below w.heap.size w w') : AX c base u mb w' l s :=
  h.mono (fun k hc _ hlt => ⟨hc, hb.block k hlt⟩) (fun g hg => hb.block g (h.outs.row g hg).2) (hb.block u (lt_of_cell h.list)) (hb.block mb h.mp.lt)
/-- One more block that is not the unifier's has changed. -/
theorem AF.grown {u mb : Nat} {w w' w'' : World} {l l' : Value} {r : Option Nat} (h : AF u mb w l w' l') (hg : w'.grownBy w'' r) (hr : ∀ g, r = some g → w.heap.size ≤ g) : AF u mb w l w'' l' :=
  ⟨hg.os.trans h.os, hg.tape.trans h.tape, hg.output.trans h.output, Nat.le_trans h.size hg.size, fun k hk h1 h2 h3 => by
    rw [hg.block k (Nat.lt_of_lt_of_le hk h.size) (fun e => by have := hr k e.symm; omega)]; exact h.block k hk h1 h2 h3, h.row⟩

/-- The numbers of a list of the call's own. -/
theorem numsQ_own {q : Nat → Prop} {B : Nat} {w : World} {lr : Value} {ns : List Nat} (h : OwnI B w lr (ns.map (fun n : Nat => (n : Int)))) (hq : ∀ g, lr.ownBlock = some g → q g) (hl : ns.length ≤ 100000) : ∃ aa ac, lr = .slice aa ns.length ac ∧ NumsQ q w ns aa := by
  by_cases h0 : ns = []
  · subst h0
    obtain ⟨a, c, e⟩ := own_shape h
    exact ⟨a, c, e, hl, Or.inl rfl⟩
  · have hp : 0 < (ns.map (fun n : Nat => (n : Int))).length := by rw [List.length_map]; exact List.length_pos_iff.2 h0
    obtain ⟨g, cap, e, _, _, hc⟩ := own_cellsN h hp
    rw [List.length_map] at e
    refine ⟨some ⟨g, 0, none⟩, cap, e, hl, Or.inr ⟨g, 0, rfl, hq g (by rw [e]; rfl), fun i hi => ?_⟩⟩
    rw [Nat.zero_add]
    refine hc i _ ?_
    rw [List.getElem?_map, List.getElem?_map, List.getElem?_eq_getElem hi, List.getD_eq_getElem?_getD, List.getElem?_eq_getElem hi]; rfl
theorem srcU_new {w : World} {v0 v1 v2 v3 v4 v5 : Value} {e : TypeId} {n : Nat} (hn : n = w.heap.size) (h1 : ∀ u, u ∈ [v0, v1, v2, v3, v4, v5] → u.oneCell' = true) : SrcU (w.alloc (.cells #[v0, v1, v2, v3, v4, v5] e)) (.slice (some ⟨n, 0, none⟩) 1 1) 1 [v0, v1, v2, v3, v4, v5] :=
  Or.inr ⟨n, 0, 1, rfl, rfl, fun j u hu => by
    rw [Nat.zero_add, cell_new j hn]; simpa using hu, h1⟩

theorem srcU_heap {w w' : World} {v0 v1 v2 v3 v4 v5 : Value} {e : TypeId} {n : Nat} (h : w'.heap = (w.alloc (.cells #[v0, v1, v2, v3, v4, v5] e)).heap) (hn : n = w.heap.size) (h1 : ∀ u, u ∈ [v0, v1, v2, v3, v4, v5] → u.oneCell' = true) : SrcU w' (.slice (some ⟨n, 0, none⟩) 1 1) 1 [v0, v1, v2, v3, v4, v5] :=
  Or.inr ⟨n, 0, 1, rfl, rfl, fun j u hu => by
    rw [Nat.zero_add, World.cell?_of_block (w := w.alloc (.cells #[v0, v1, v2, v3, v4, v5] e)) (a := ⟨n, j, none⟩) (by rw [h]), cell_new j hn]; simpa using hu, h1⟩

/-- 'm[k] = v' in a region that draws its order. -/
theorem step_store_map {w : World} {ops : Array Oper} {o : Oper} {a : Act} {K : Act → World → Prop} {Q : Exit → Act → World → Prop} {E : Prop} (hg : o.guard = none) (m x v : Operand) (t : TypeId) (hop : o.op = Op.mapUpdate t m x v)
    (e : TypeId) (ht : Try.prog.underlying t = some (.map 3 e)) (b n : Nat) (f : Int → Option Value) (hm : a.eval m = .map (some b)) (hM : MapAt w b n f) (hn : n < maxLen) (k : Int) (val : Value) (hx : a.eval x = .int .i64 k) (hv : a.eval v = val) (h0 : -9223372036854775808 ≤ k) (h1 : k ≤ 9223372036854775807)
    (hK : ∀ w', MapAt w' b (n + 1) (fun j => if j = k then some val else f j) → w.grownBy w' (some b) → K (a.put o.dst undef) w') :
    if Region.wanted o (yielded ops a.tmps) = true then Oper.wp Try.prog o a w K Q else E := by
  have hw : Region.wanted o (yielded ops a.tmps) = true := by simp [Region.wanted, hg]
  rw [if_pos hw]
  obtain ⟨w', hrun, r1, r2⟩ := hM.store ht hn h0 h1 val
  unfold Oper.wp
  simp [execOp, hop, hm, hx, hv, hrun, Result.andThen]
  exact hK w' r1 r2
theorem MapAt.congr {w : World} {b n : Nat} {f g : Int → Option Value} (h : MapAt w b n f) (e : ∀ k, f k = g k) : MapAt w b n g := by
  have : f = g := funext e
  exact this ▸ h

/-- Behind the append of a part: the unifier, once the list is stored. -/
theorem AX_push {c : Nat → Prop} {base u mb : Nat} {wr wa w6 : World} {l v6 : Value} {s : List Pt × List (Int × Nat)} {x : Pt} {xs : List Value} {ta : Option Addr} {tl tc : Nat} {aa : Option Addr} {ac : Nat}
    (hA : AX c base u mb wr l s) (hcb : ∀ k, c k → base ≤ k) (hba : Below wr.heap.size wr wa)
    (hkids : KidsU (fun k => c k ∧ l.ownBlock ≠ some k) wr s.1 xs) (hn : NumsQ (fun k => c k ∧ l.ownBlock ≠ some k) wr x.args aa)
    (hown : w6.ownsRow base 129 6 v6 (s.1.length + 1) (xs ++ [.int .i64 x.v, .int .i64 x.f, .slice ta tl tc, .slice aa x.args.length ac, .int .i64 (x.like : Int), .int .i64 x.size])) (hg : wa.grownBy w6 l.ownBlock) (hat : v6.ownBlock = l.ownBlock ∨ v6.ownBlock = some wa.heap.size) :
    AX c base u mb (w6.setCell ⟨u, 0, none⟩ v6) v6 (s.1 ++ [x], s.2) ∧ AF u mb wr l (w6.setCell ⟨u, 0, none⟩ v6) v6 ∧ w6.cell? ⟨u, 0, none⟩ = some l ∧ w6.frozen? ⟨u, 0, none⟩ = false ∧ w6.cell? ⟨u, 1, none⟩ = some (.map (some mb)) ∧ ∀ k, k < wr.heap.size → k ≠ u → l.ownBlock ≠ some k → w6.heap[k]? = wr.heap[k]? := by
  have hru := hA.outs.row
  have hul := lt_of_cell hA.list
  have hml := hA.mp.lt
  have hub := hA.ub
  have hmbb := hA.mbb
  have hza := hba.size
  have hz6 := hg.size
  have hkeep : ∀ k, k < wr.heap.size → l.ownBlock ≠ some k → w6.heap[k]? = wr.heap[k]? := fun k hk h => by rw [hg.block k (by omega) (fun e => h e.symm)]; exact hba.block k hk
  have hnu : l.ownBlock ≠ some u := fun e => by have := (hru u e).1; omega
  have hnm : l.ownBlock ≠ some mb := fun e => by have := (hru mb e).1; omega
  have eu := hkeep u hul hnu
  have c0 : w6.cell? ⟨u, 0, none⟩ = some l := (World.cell?_of_block (w := wr) (a := ⟨u, 0, none⟩) eu).trans hA.list
  have c1 : w6.cell? ⟨u, 1, none⟩ = some (.map (some mb)) := (World.cell?_of_block (w := wr) (a := ⟨u, 1, none⟩) eu).trans hA.map
  have hv6 : ∀ g, v6.ownBlock = some g → base ≤ g ∧ g < w6.heap.size := own_lt hown
  have hso : OutsX c base w6 v6 (s.1 ++ [x]) := OutsX_step (KidsU_mono (fun k hk hlt => ⟨hk, hba.block k hlt⟩) hkids) (NumsQ_mono (fun k hk hlt => ⟨hk, hba.block k hlt⟩) hn) hown hg hat
  have hset : ∀ k, k ≠ u → (w6.setCell ⟨u, 0, none⟩ v6).heap[k]? = w6.heap[k]? := fun k hk => Below.heap_setCell _ _ _ _ hk
  refine ⟨⟨World.cell?_setCell_same _ _ _ c0, by rw [World.cell?_setCell_other _ _ _ _ (addr_ne (by omega))]; exact c1, hso.mono (fun k hc _ _ => ⟨hc, hset k (by have := hcb k hc; omega)⟩) (fun g hg' => hset g (by have := (hv6 g hg').1; omega)), (hA.mp.same (hkeep mb hml hnm)).same (hset mb hA.ne.symm), fun k => by rw [World.frozen?_setCell, World.frozen?_of_block (w := wr) (a := ⟨u, k, none⟩) eu]; exact hA.fru k, hub, hmbb, hA.ne⟩, ⟨?_, ?_, ?_, ?_, fun k hk h1 h2 h3 => by rw [hset k h1]; exact hkeep k hk h3, ?_⟩, c0, by rw [World.frozen?_of_block (w := wr) (a := ⟨u, 0, none⟩) eu]; exact hA.fru 0, c1, fun k hk _ h3 => hkeep k hk h3⟩
  · show w6.os = _; exact hg.os.trans hba.os
  · show w6.tape = _; exact hg.tape.trans hba.tape
  · show w6.output = _; exact hg.output.trans hba.output
  · show wr.heap.size ≤ (w6.setCell ⟨u, 0, none⟩ v6).heap.size
    simp [World.setCell]; omega
  · rcases hat with h | h
    · exact Or.inl h
    · exact Or.inr ⟨_, h, hza⟩

end Go.Proofs.Ytbkedppkdhfpoaa
