/- The order of terms, by the program's words. No word of the program's memory here. The order of terms, by the document's table: the same. No word of the program's memory here. The order of terms: nothing is greater than itself; what is greater than a greater one is; a term is greater than what stands in it; of two without variables one is. No word of the program's memory here. The program's numbering of a term's parts. Putting in, as plain data: what stays right, how big it becomes, and that the order stays. No word of the program's memory here. The document's own checks, as the statements have them: numbers, signatures, sizes. All parts of a term, in a list of the call's own. The document's own check of terms: the same errors, in the same order. The document's own check of rules. Clauses, as plain data and as they lie there; the program's Check of them. The document's own At, and the comparison beside an error. A list of terms of the call's own, and what lies behind each of them. Rising numbers, each once: whichever way they are made, they are the same. No word of the program here. -/
import Derived.BigQuiet
import Derived.Deep.DeepCutAuto
import Derived.Deep.DrawnRows
import Derived.Deep.RegionHeld3
import Derived.Deep.RegionLaw
import Derived.Lib.SlicesCompact
import Derived.Test.YtbkedppkdhfpoabGreatJoined2
namespace Go.Proofs.YtbkedppkdhfpoabGreat

theorem arg_sz {s a : T} (h : a ∈ s.args) : a.sz < s.sz := by
  have := T.szL_mem h
  have := T.sz_eq s
  omega

/-- All parts of a term, each ahead of those that stand in it. -/
def pre : T → List T
  | ⟨v, f, args⟩ => ⟨v, f, args⟩ :: preL args
  where
  preL : List T → List T
    | [] => []
    | t :: ts => pre t ++ preL ts
theorem ok_two {ar : List Int} {s t : T} (h : allErr ar [s, t] = 0) : s.sz ≤ 120 ∧ okP ar s ∧ t.sz ≤ 120 ∧ okP ar t := by
  have h1 := allErr_iff.1 h
  exact ⟨(h1.2 s (by simp)).1, (h1.2 s (by simp)).2, (h1.2 t (by simp)).1, (h1.2 t (by simp)).2⟩

end Go.Proofs.YtbkedppkdhfpoabGreat

namespace Go.Proofs.YtbkedppkdhfpoabGreat

/-- A variable that is right has no arguments and no function. -/
theorem ok_var {ar : List Int} {t : T} (h : okP ar t) (hv : t.v ≠ 0) : t.f = 0 ∧ t.args = [] := by
  have h1 := (okP_iff.1 h).1
  rw [partErr_var hv, varErr] at h1
  split at h1
  · cases h1
  · split at h1
    · cases h1
    · rename_i h2
      constructor
      · omega
      · exact List.length_eq_zero_iff.1 (by omega)
end Go.Proofs.YtbkedppkdhfpoabGreat

namespace Go.Proofs.YtbkedppkdhfpoabGreat

theorem sameL_eq_aux : ∀ (n : Nat), (∀ t u : T, t.sz ≤ n → sameT t u = true → t = u) ∧ (∀ ts us : List T, T.sz.szL ts ≤ n → sameT.sameL ts us = true → ts = us) := by
  intro n
  induction n with
  | zero =>
    refine ⟨fun t u h => by have := t.sz_pos; omega, fun ts us h hs => ?_⟩
    cases ts with
    | nil =>
      cases us with
      | nil => rfl
      | cons u us => rw [sameL_length (by simp)] at hs; cases hs
    | cons t ts => have := t.sz_pos; rw [T.szL_cons] at h; omega
  | succ n ih =>
    have h1 : ∀ t u : T, t.sz ≤ n + 1 → sameT t u = true → t = u := fun t u h hs => by
      have hte := T.sz_eq t
      rw [sameT_eq] at hs
      simp only [Bool.and_eq_true, beq_iff_eq] at hs
      have := ih.2 t.args u.args (by omega) hs.2
      cases t; cases u
      simp_all
    refine ⟨h1, fun ts => ?_⟩
    induction ts with
    | nil =>
      intro us _ hs
      cases us with
      | nil => rfl
      | cons u us => rw [sameL_length (by simp)] at hs; cases hs
    | cons t ts iht =>
      intro us h hs
      rw [T.szL_cons] at h
      cases us with
      | nil => rw [sameL_length (by simp)] at hs; cases hs
      | cons u us =>
        rw [sameL_cons, Bool.and_eq_true] at hs
        rw [h1 t u (by omega) hs.1, iht us (by omega) hs.2]
theorem sameT_iff {t u : T} : sameT t u = true ↔ t = u := ⟨(sameL_eq_aux t.sz).1 t u (Nat.le_refl _), fun h => by rw [h]; exact sameT_refl u⟩
theorem okArg {ar : List Int} {s a : T} (hs : okP ar s) (ha : a ∈ s.args) : okP ar a := okL_mem.1 (okP_iff.1 hs).2 a ha
end Go.Proofs.YtbkedppkdhfpoabGreat

namespace Go.Proofs.YtbkedppkdhfpoabGreat
open Go.RowKit

theorem frozen_of_heap {w : World} {b : Nat} {cs : Array Value} {e : TypeId} (h : w.heap[b]? = some (.cells cs e)) (j : Nat) : w.frozen? ⟨b, j, none⟩ = false := by simp [World.frozen?, h]
theorem Three.of_heap {w : World} {b : Nat} {v0 v1 v2 : Value} {e : TypeId} (h : w.heap[b]? = some (.cells #[v0, v1, v2] e)) : Three w b v0 v1 v2 := by
  refine ⟨?_, ?_, ?_, ?_, ?_, ?_⟩ <;> simp [World.cell?, World.frozen?, h]
attribute [local go_sem ↓] Go.wp_at_zero Go.wp_at_succ
end Go.Proofs.YtbkedppkdhfpoabGreat

namespace Go.Proofs.YtbkedppkdhfpoabGreat

/-- What a variable is bound to. -/
def lookB : List (Int × T) → Int → Option T
  | [], _ => none
  | (w, u) :: bs, v => if w = v then some u else lookB bs v
/-- What is put in for a term alone, if it is a variable that is bound. -/
def putIn (bs : List (Int × T)) (v : Int) : Option T := if 0 < v then lookB bs v else none
def applyT (bs : List (Int × T)) : T → T
  | ⟨v, f, args⟩ => match putIn bs v with
    | some u => u
    | none => ⟨v, f, applyL args⟩
  where
  applyL : List T → List T
    | [] => []
    | t :: ts => applyT bs t :: applyL ts
theorem applyT_eq (bs : List (Int × T)) (t : T) : applyT bs t = match putIn bs t.v with
    | some u => u
    | none => ⟨t.v, t.f, applyT.applyL bs t.args⟩ := by cases t; rfl
theorem applyL_map (bs : List (Int × T)) (ts : List T) : applyT.applyL bs ts = ts.map (applyT bs) := by
  induction ts with
  | nil => rfl
  | cons t ts ih => rw [applyT.applyL, ih]; rfl
theorem applyT_some {bs : List (Int × T)} {t u : T} (h : putIn bs t.v = some u) : applyT bs t = u := by rw [applyT_eq, h]
theorem applyT_none {bs : List (Int × T)} {t : T} (h : putIn bs t.v = none) : applyT bs t = ⟨t.v, t.f, t.args.map (applyT bs)⟩ := by rw [applyT_eq, h, applyL_map]
theorem putIn_fn {bs : List (Int × T)} {v : Int} (h : v = 0) : putIn bs v = none := by rw [putIn, if_neg (by omega)]
theorem applyT_fn {bs : List (Int × T)} {t : T} (h : t.v = 0) : applyT bs t = ⟨0, t.f, t.args.map (applyT bs)⟩ := by rw [applyT_none (putIn_fn h), h]
theorem lookB_mem {bs : List (Int × T)} {v : Int} {u : T} (h : lookB bs v = some u) : (v, u) ∈ bs := by
  induction bs with
  | nil => cases h
  | cons b bs ih =>
    obtain ⟨w, x⟩ := b
    rw [lookB] at h
    by_cases e : w = v
    · rw [if_pos e] at h
      simp only [Option.some.injEq] at h
      rw [e, h]; exact List.mem_cons_self
    · rw [if_neg e] at h
      exact List.mem_cons_of_mem _ (ih h)
end Go.Proofs.YtbkedppkdhfpoabGreat

namespace Go.Proofs.YtbkedppkdhfpoabGreat
open Go.RowKit

set_option maxRecDepth 100000 in
set_option maxHeartbeats 400000 in
theorem between_any (n lo hi : Int) (w : World) : Calls Tryz.prog 76 #[.int .i64 n, .int .i64 lo, .int .i64 hi] w fun e w' => e = .returned (.bool (decide (lo ≤ n ∧ n ≤ hi))) ∧ w' = w := by
  by_cases h1 : lo ≤ n
  · by_cases h2 : n ≤ hi
    · have hfin : decide (lo ≤ n ∧ n ≤ hi) = true := by simp [h1, h2]
      rw [hfin]; clear hfin
      go_enter Tryz.func76, Tryz.ntmps76
      go_wp2_with fail
      go_ret
      exact ⟨rfl, rfl⟩
    · have hfin : decide (lo ≤ n ∧ n ≤ hi) = false := by simp; omega
      rw [hfin]; clear hfin
      go_enter Tryz.func76, Tryz.ntmps76
      go_wp2_with fail
      go_ret
      exact ⟨rfl, rfl⟩
  · have hfin : decide (lo ≤ n ∧ n ≤ hi) = false := by simp; omega
    rw [hfin]; clear hfin
    go_enter Tryz.func76, Tryz.ntmps76
    go_wp2_with fail
    go_ret
    exact ⟨rfl, rfl⟩

theorem between_yes (n lo hi : Int) (w : World) (h1 : lo ≤ n) (h2 : n ≤ hi) : Calls Tryz.prog 76 #[.int .i64 n, .int .i64 lo, .int .i64 hi] w fun e w' => e = .returned (.bool true) ∧ w' = w := by
  have h := between_any n lo hi w
  rwa [show decide (lo ≤ n ∧ n ≤ hi) = true from by simp [h1, h2]] at h
theorem between_no (n lo hi : Int) (w : World) (h : ¬ (lo ≤ n ∧ n ≤ hi)) : Calls Tryz.prog 76 #[.int .i64 n, .int .i64 lo, .int .i64 hi] w fun e w' => e = .returned (.bool false) ∧ w' = w := by
  have h' := between_any n lo hi w
  rwa [show decide (lo ≤ n ∧ n ≤ hi) = false from by simpa using h] at h'

set_option maxRecDepth 100000 in
set_option maxHeartbeats 400000 in
theorem checkSignature_any (ar : List Int) (ga : Option Addr) (gcap : Nat) (w : World) (hg : Ints w ar ga) :
    Calls Tryz.prog 50 #[.agg #[.slice ga ar.length gcap]] w fun e w' => e = .returned (.int .i64 (sigErr ar)) ∧ Below w.heap.size w w' := by
  by_cases hlen : 12 < ar.length
  · have hfin : sigErr ar = 2 := by simp [sigErr, hlen]
    rw [hfin]
    clear hfin
    go_enter Tryz.func50, Tryz.ntmps50
    go_wp2_with fail
    go_ret
    exact ⟨rfl, below1 _ _⟩
  · have hlen' : ar.length ≤ 12 := by omega
    go_enter Tryz.func50, Tryz.ntmps50
    go_wp2_with fail
    go_loop [3] (fun i => ∃ k : Nat, k ≤ ar.length ∧ i = .int .i64 k ∧ Hid ((ar.take k).all (fun n => decide (0 ≤ n ∧ n ≤ 3)) = true)) (fun i => ar.length - (intOf i).toNat)
    case atStart => exact ⟨0, Nat.zero_le _, rfl, rfl⟩
    case round =>
      obtain ⟨k, hk, rfl, hall⟩ := hrel
      by_cases hlt : k < ar.length
      · obtain ⟨b, off, rfl, hc⟩ := Ints_some hg (by omega)
        have hck : w.cell? ⟨b, off + k, none⟩ = some (.int .i64 (ar.getD k 0)) := hc k hlt
        have hbk := lt_of_cell hck
        have hs := all_take_succ (p := fun n => decide (0 ≤ n ∧ n ≤ 3)) hlt
        have hf := all_of_take (p := fun n => decide (0 ≤ n ∧ n ≤ 3)) hlt
        have Hs := hide hs
        have Hf := hide hf
        clear hs hf hc
        generalize ar.getD k 0 = n at *
        by_cases h0 : 0 ≤ n ∧ n ≤ 3
        · have H0 := hide h0
          clear h0
          go_wp2_with fail
          refine (between_yes n 0 3 _ H0.out.1 H0.out.2).mono ?_
          rintro e w' ⟨rfl, rfl⟩
          go_wp2_with fail
          go_round
          case rel => exact ⟨k + 1, by omega, by go_num, by have h1 := Hs.out; have h2 := H0.out; rw [hall.out] at h1; simpa [Hid, h2.1, h2.2] using h1⟩
          case measure => simp [intOf]; omega
        · have H0 := hide h0
          clear h0
          go_wp2_with fail
          refine (between_no n 0 3 _ H0.out).mono ?_
          rintro e w' ⟨rfl, rfl⟩
          go_wp2_with fail
          go_ret
          exact ⟨ret_int (by rw [sigErr, if_neg hlen, Hf.out (by have := H0.out; simpa using this)]; rfl), below1 _ _⟩
      · go_wp2_with fail
        go_ret
        have hk2 : k = ar.length := by omega
        subst hk2
        rw [List.take_length] at hall
        exact ⟨ret_int (by simp only [sigErr, if_neg hlen]; rw [hall.out]; rfl), below1 _ _⟩

set_option maxRecDepth 100000 in
set_option maxHeartbeats 400000 in
theorem sizeOf_any (N : Nat) : ∀ (t : T) (enough : Int) (a : Option Addr) (cap : Nat) (w : World), t.sz < N → 0 ≤ enough → enough ≤ 1000 → InL w t.args a →
    Calls Tryz.prog 97 #[.agg #[.int .i64 t.v, .int .i64 t.f, .slice a t.args.length cap], .int .i64 enough] w fun e w' => e = .returned (.int .i64 (min (t.sz : Int) (enough + 1))) ∧ Below w.heap.size w w' := by
  induction N with
  | zero => intro t enough a cap w hN; omega
  | succ N ih =>
    intro t enough a cap w hN he0 he1 IH
    have Hih := hide ih
    have htsz := T.sz_eq t
    clear ih
    go_enter Tryz.func97, Tryz.ntmps97
    go_wp2_with fail
    go_loopw [5, 6] (fun n i wr => ∃ k : Nat, k ≤ t.args.length ∧ i = .int .i64 k ∧ n = .int .i64 (min (1 + (T.sz.szL (t.args.take k) : Int)) (enough + 1)) ∧ k ≤ 1001 ∧
        Three wr w.heap.size (.int .i64 t.v) (.int .i64 t.f) (.slice a t.args.length cap) ∧ Below w.heap.size w wr) (fun _ i _ => t.args.length - (intOf i).toNat)
    case atStart => exact ⟨0, Nat.zero_le _, rfl, by simp [T.szL_nil]; omega, by omega, Three.new _ rfl, below1 _ _⟩
    case round =>
      obtain ⟨k, hk, rfl, rfl, hk1, h3, hb⟩ := hrel
      have H3 := hide h3
      obtain ⟨c0, c1, c2, _, _, _⟩ := h3
      have hzr := hb.size
      by_cases hlt : k < t.args.length
      · by_cases hgo : 1 + (T.sz.szL (t.args.take k) : Int) ≤ enough
        · obtain ⟨b, off, rfl⟩ := InP_some IH (by omega)
          obtain ⟨x, hx⟩ : ∃ x, t.args[k]? = some x := ⟨t.args[k], List.getElem?_eq_getElem hlt⟩
          obtain ⟨a1, cap1, _, k0, k1, k2, hin1⟩ := InP_at (InP_below hb IH) hx
          obtain ⟨hs1, hs2⟩ := szL_take hx
          have hxe := T.sz_eq x
          have Hs1 := hide hs1
          have hk3 : k ≤ 1000 := by have := T.length_le (t.args.take k); rw [List.length_take_of_le (by omega)] at this; omega
          have hm : min (1 + (T.sz.szL (t.args.take k) : Int)) (enough + 1) = 1 + T.sz.szL (t.args.take k) := by omega
          rw [hm]
          clear hs1 hx hm
          go_wp2_with fail
          refine (Hih.out x _ a1 cap1 _ (by omega) (by omega) (by omega) hin1).mono ?_
          rintro e w2 ⟨rfl, hb2⟩
          have hm2 : min (x.sz : Int) (enough - (1 + (T.sz.szL (t.args.take k) : Int)) + 1) ≤ enough := by omega
          have hm3 : 0 ≤ min (x.sz : Int) (enough - (1 + (T.sz.szL (t.args.take k) : Int)) + 1) := by omega
          have Hm4 : Hid (1 + (T.sz.szL (t.args.take k) : Int) + min (x.sz : Int) (enough - (1 + (T.sz.szL (t.args.take k) : Int)) + 1) = min (1 + (T.sz.szL (t.args.take (k + 1)) : Int)) (enough + 1)) := by
            show _ = _
            rw [Hs1.out]; omega
          generalize min (x.sz : Int) (enough - (1 + (T.sz.szL (t.args.take k) : Int)) + 1) = m at *
          go_wp2_with fail
          go_roundw
          case rel => exact ⟨k + 1, by omega, by go_num, by rw [← Hm4.out], by omega, H3.out.below hb2, hb.trans (hb2.mono hzr)⟩
          case measure => simp [intOf]; omega
        · have hm : min (1 + (T.sz.szL (t.args.take k) : Int)) (enough + 1) = enough + 1 := by omega
          have hle : T.sz.szL (t.args.take k) ≤ T.sz.szL t.args := by
            have e2 : T.sz.szL t.args = T.sz.szL (t.args.take k) + T.sz.szL (t.args.drop k) := by rw [← T.szL_append, List.take_append_drop]
            omega
          rw [hm]
          clear hm
          go_wp2_with fail
          go_ret
          exact ⟨ret_int (by omega), hb⟩
      · go_wp2_with fail
        go_ret
        have hk2 : k = t.args.length := by omega
        subst hk2
        rw [List.take_length]
        exact ⟨ret_int (by omega), hb⟩

end Go.Proofs.YtbkedppkdhfpoabGreat

namespace Go.Proofs.YtbkedppkdhfpoabGreat
open Go.RowKit

/-- All parts of a term, each behind those that stand in it. -/
def parts : T → List T
  | ⟨v, f, args⟩ => partsL args ++ [⟨v, f, args⟩]
  where
  partsL : List T → List T
    | [] => []
    | t :: ts => parts t ++ partsL ts
theorem parts_eq (t : T) : parts t = parts.partsL t.args ++ [t] := by cases t; rfl
theorem partsL_cons (t : T) (ts : List T) : parts.partsL (t :: ts) = parts t ++ parts.partsL ts := rfl
theorem partsL_append (a b : List T) : parts.partsL (a ++ b) = parts.partsL a ++ parts.partsL b := by
  induction a with
  | nil => rfl
  | cons t ts ih => rw [List.cons_append, partsL_cons, partsL_cons, ih, List.append_assoc]
theorem partsL_step {ts : List T} {k : Nat} {t : T} (h : ts[k]? = some t) : parts.partsL (ts.take (k + 1)) = parts.partsL (ts.take k) ++ parts t := by
  rw [List.take_add_one, h, partsL_append]
  show _ ++ (parts t ++ parts.partsL []) = _
  simp [parts.partsL]

/-- Three cells a term. -/
def Cells3 : List T → List Value → Prop
  | [], cs => cs = []
  | t :: ts, cs => ∃ a cap rest, cs = .int .i64 t.v :: .int .i64 t.f :: .slice a t.args.length cap :: rest ∧ Cells3 ts rest
theorem Cells3_append {ts us : List T} : ∀ {cs ds : List Value}, Cells3 ts cs → Cells3 us ds → Cells3 (ts ++ us) (cs ++ ds) := by
  induction ts with
  | nil => intro cs ds h1 h2; rw [show cs = [] from h1]; exact h2
  | cons t ts ih =>
    intro cs ds h1 h2
    obtain ⟨a, cap, rest, rfl, h⟩ := h1
    exact ⟨a, cap, rest ++ ds, rfl, ih h h2⟩
theorem Cells3_at {ts : List T} : ∀ {cs : List Value} {k : Nat} {t : T}, Cells3 ts cs → ts[k]? = some t → ∃ a cap, cs[k * 3]? = some (.int .i64 t.v) ∧ cs[k * 3 + 1]? = some (.int .i64 t.f) ∧ cs[k * 3 + 2]? = some (.slice a t.args.length cap) := by
  induction ts with
  | nil => intro cs k t _ h; simp at h
  | cons u ts ih =>
    intro cs k t h hk
    obtain ⟨a, cap, rest, rfl, h⟩ := h
    cases k with
    | zero => simp at hk; subst hk; exact ⟨a, cap, rfl, rfl, rfl⟩
    | succ k =>
      simp at hk
      obtain ⟨a', cap', g0, g1, g2⟩ := ih h hk
      refine ⟨a', cap', ?_, ?_, ?_⟩
      · rw [show (k + 1) * 3 = k * 3 + 1 + 1 + 1 from by omega]; simpa using g0
      · rw [show (k + 1) * 3 + 1 = k * 3 + 1 + 1 + 1 + 1 from by omega]; simpa using g1
      · rw [show (k + 1) * 3 + 2 = k * 3 + 2 + 1 + 1 + 1 from by omega]; simpa using g2

/-- The world has grown by new blocks, and in the row r alone; the row is now r'. -/
structure Grw (w w' : World) (r r' : Option Nat) : Prop where
  gr : w.grownBy w' r
  row : r' = r ∨ ∃ g, r' = some g ∧ w.heap.size ≤ g

theorem Grw.refl (w : World) (r : Option Nat) : Grw w w r r := ⟨⟨rfl, rfl, rfl, Nat.le_refl _, fun _ _ _ => rfl⟩, Or.inl rfl⟩
theorem Grw.trans {a b c : World} {r r' r'' : Option Nat} (h : Grw a b r r') (k : Grw b c r' r'') : Grw a c r r'' := by
  have hs := h.gr.size
  refine ⟨⟨k.gr.os.trans h.gr.os, k.gr.tape.trans h.gr.tape, k.gr.output.trans h.gr.output, Nat.le_trans hs k.gr.size, fun i hi hne => ?_⟩, ?_⟩
  · rw [k.gr.block i (by omega) (fun e => ?_), h.gr.block i hi hne]
    rcases h.row with h1 | ⟨g, h1, h2⟩
    · exact hne (e.trans h1)
    · rw [h1] at e; simp at e; omega
  · rcases k.row with k1 | ⟨g, k1, k2⟩
    · rw [k1]; exact h.row
    · exact Or.inr ⟨g, k1, by omega⟩
theorem Grw.of_below {w w' : World} (r : Option Nat) (h : Below w.heap.size w w') : Grw w w' r r := ⟨⟨h.os, h.tape, h.output, h.size, fun k hk _ => h.block k hk⟩, Or.inl rfl⟩
theorem Grw.below {B : Nat} {w w' : World} {r r' : Option Nat} (h : Grw w w' r r') (hB : B ≤ w.heap.size) (hr : ∀ g, r = some g → B ≤ g) : Below B w w' :=
  ⟨h.gr.os, h.gr.tape, h.gr.output, h.gr.size, fun k hk => h.gr.block k (by omega) (fun e => by have := hr k e.symm; omega)⟩

theorem three_new {w : World} {t : T} {a : Option Addr} {cap : Nat} {e : TypeId} {n : Nat} (hn : n = w.heap.size) : ∀ (j : Nat) (u : Value), [Value.int .i64 t.v, .int .i64 t.f, .slice a t.args.length cap][j]? = some u →
    (w.alloc (.cells #[.int .i64 t.v, .int .i64 t.f, .slice a t.args.length cap] e)).cell? ((⟨n, 0, none⟩ : Addr).add j) = some u := by
  intro j u h
  have e1 : (⟨n, 0, none⟩ : Addr).add j = ⟨n, j, none⟩ := by simp [Addr.add]; omega
  rw [e1, cell_new j hn]
  simpa using h

set_option maxRecDepth 100000 in
set_option maxHeartbeats 1000000 in
theorem partsOf_any (N : Nat) : ∀ (t : T) (a : Option Addr) (cap : Nat) (v : Value) (n : Nat) (xs : List Value) (w : World) (base : Nat), t.sz < N → n + t.sz ≤ 2000 → base ≤ w.heap.size → InP (fun k => k < base) w t.args a → w.ownsRow base 77 3 v n xs →
    Calls Tryz.prog 98 #[v, .agg #[.int .i64 t.v, .int .i64 t.f, .slice a t.args.length cap]] w fun e w' =>
      ∃ v' ds, e = .returned v' ∧ w'.ownsRow base 77 3 v' (n + t.sz) (xs ++ ds) ∧ Cells3 (parts t) ds ∧ Grw w w' v.ownBlock v'.ownBlock := by
  induction N with
  | zero => intro t a cap v n xs w base hN; omega
  | succ N ih =>
    intro t a cap v n xs w base hN hn hbase hin hown
    have Hih := hide ih
    have htsz := T.sz_eq t
    have Hown := hide hown
    obtain ⟨i, hi, hzz⟩ := Option.map_eq_some_iff.1 Tryz.info77
    simp only [Prod.mk.injEq] at hzz
    obtain ⟨hz0, hz1, hz2⟩ := hzz
    clear ih hown
    go_enter Tryz.func98, Tryz.ntmps98
    go_wp2_with fail
    go_loopw [0, 5] (fun l j wr => ∃ (k : Nat) (ds : List Value), k ≤ t.args.length ∧ j = .int .i64 k ∧ wr.ownsRow base 77 3 l (n + T.sz.szL (t.args.take k)) (xs ++ ds) ∧ Cells3 (parts.partsL (t.args.take k)) ds ∧
        Grw (w.alloc (.cells #[.int .i64 t.v, .int .i64 t.f, .slice a t.args.length cap] 77)) wr v.ownBlock l.ownBlock) (fun _ j _ => t.args.length - (intOf j).toNat)
    case atStart =>
      refine ⟨0, [], Nat.zero_le _, rfl, ?_, rfl, Grw.refl _ _⟩
      rw [List.append_nil]
      exact own_same Hown.out (fun g hg => Below.heap_alloc _ _ _ (own_lt Hown.out g hg).2)
    case round =>
      obtain ⟨k, ds, hk, rfl, hownk, hc3, hgrw⟩ := hrel
      have hzr := hgrw.gr.size
      simp at hzr
      have hvx : v.ownBlock ≠ some w.heap.size := fun e => by have := (own_lt Hown.out _ e).2; omega
      have h3 : Three wr w.heap.size (.int .i64 t.v) (.int .i64 t.f) (.slice a t.args.length cap) := (Three.new 77 rfl).same (hgrw.gr.block _ (by simp) (fun e => hvx e.symm))
      have H3 := hide h3
      have Hownk := hide hownk
      have Hc3 := hide hc3
      have Hgrw := hide hgrw
      obtain ⟨c0, c1, c2, _, _, _⟩ := h3
      have hin' : InP (fun k => k < base) wr t.args a := InP_same (fun k' hp _ => by
        rw [hgrw.gr.block k' (by simp; omega) (fun e => by have := (own_lt Hown.out _ e.symm).1; omega), Below.heap_alloc _ _ _ (by omega)]) hin
      clear hownk hc3 hgrw
      by_cases hlt : k < t.args.length
      · obtain ⟨b, off, rfl⟩ := InP_some hin (by omega)
        obtain ⟨x, hx⟩ : ∃ x, t.args[k]? = some x := ⟨t.args[k], List.getElem?_eq_getElem hlt⟩
        obtain ⟨a1, cap1, _, k0, k1, k2, hin1⟩ := InP_at hin' hx
        obtain ⟨hs1, hs2⟩ := szL_take hx
        have hxe := T.sz_eq x
        have Hs1 := hide hs1
        have hk3 : k ≤ 2000 := by have := T.length_le t.args; omega
        have Hst := hide (partsL_step hx)
        clear hs1 hx
        go_wp2_with fail
        refine (Hih.out x a1 cap1 _ _ _ _ base (by omega) (by omega) (by omega) hin1 Hownk.out).mono ?_
        rintro e w2 ⟨v2, ds2, rfl, hown2, hc2, hgrw2⟩
        have Hfin := hide (And.intro hown2 (And.intro hc2 hgrw2))
        clear hown2 hc2 hgrw2
        go_wp2_with fail
        go_roundw
        case rel =>
          obtain ⟨hown2, hc2, hgrw2⟩ := Hfin.out
          refine ⟨k + 1, ds ++ ds2, by omega, by go_num, ?_, by rw [Hst.out]; exact Cells3_append Hc3.out hc2, Hgrw.out.trans hgrw2⟩
          rw [← List.append_assoc]
          have e : n + T.sz.szL (t.args.take (k + 1)) = n + T.sz.szL (t.args.take k) + x.sz := by rw [Hs1.out]; omega
          rw [e]; exact hown2
        case measure => simp [intOf]; omega
      · have hk2 : k = t.args.length := by omega
        subst hk2
        rw [List.take_length] at Hownk Hc3
        obtain ⟨la, lc, rfl⟩ := own_shape Hownk.out
        have HO := hide (fun o1 => own_same Hownk.out (w' := wr.alloc o1) (fun g hg => (below1 wr o1).block g (own_lt Hownk.out g hg).2))
        go_wp2_with (at_builtin; go_must (refine wpList_append_lies _ rfl (.tmp 20) (.tmp 22) 75 rfl base 77 i (.agg #[.int .i64 0, .int .i64 0, .slice none 0 0]) 3 40 Tryz.underlying75 hi hz0 hz1 hz2 rfl (by decide) _ (n + T.sz.szL t.args) (xs ++ ds) rfl (HO.out _) ⟨wr.heap.size, 0, none⟩ 1 1 [.int .i64 t.v, .int .i64 t.f, .slice a t.args.length cap] rfl rfl (three_new rfl) (by simp [Value.oneCell']) (by decide) (by unfold maxLen; omega) (by omega) (by simp; omega) _ rfl ?_))
        intro g cap2 w2 hown2 hgr hat hlt2
        go_wp2_with fail
        go_ret
        refine ⟨_, ds ++ [.int .i64 t.v, .int .i64 t.f, .slice a t.args.length cap], rfl, ?_, ?_, ?_⟩
        · have e : n + t.sz = n + T.sz.szL t.args + 1 := by omega
          rw [e]; first | exact hown2 | (rw [← List.append_assoc]; exact hown2)
        · rw [parts_eq]
          exact Cells3_append Hc3.out ⟨a, cap, [], rfl, rfl⟩
        · refine (Grw.of_below _ (below1 _ _)).trans (Hgrw.out.trans ((Grw.of_below _ (below1 _ _)).trans ⟨hgr, ?_⟩))
          rcases hat with hat | hat
          · exact Or.inl hat.symm
          · exact Or.inr ⟨g, rfl, by rw [hat]; simp⟩

/-- What a list of terms of the call's own holds, cell by cell. -/
theorem own_cells {w : World} {base n : Nat} {v : Value} {xs : List Value} (h : w.ownsRow base 77 3 v n xs) (hn : 0 < n) : ∃ g cap, v = .slice (some ⟨g, 0, none⟩) n cap ∧ base ≤ g ∧ g < w.heap.size ∧ ∀ j u, xs[j]? = some u → w.cell? ⟨g, j, none⟩ = some u := by
  rcases h.2 with ⟨_, h0⟩ | ⟨g, cap, cur, rfl, hb, hg, hc, hm, hs, ht⟩
  · omega
  refine ⟨g, cap, rfl, hb, ?_, fun j u hu => ?_⟩
  · rcases Nat.lt_or_ge g w.heap.size with h | h
    · exact h
    · rw [Array.getElem?_eq_none h] at hg; cases hg
  · have hj : j < xs.length := by
      rcases Nat.lt_or_ge j xs.length with h | h
      · exact h
      · rw [List.getElem?_eq_none h] at hu; cases hu
    have e1 : cur[j]? = some u := by
      have h2 : (cur.toList.take (n * 3))[j]? = some u := by rw [ht]; exact hu
      rw [List.getElem?_take_of_lt (by have := h.1; omega)] at h2
      simpa using h2
    simp [World.cell?, hg, e1]

theorem parts_length : ∀ (n : Nat), (∀ t : T, t.sz ≤ n → (parts t).length = t.sz) ∧ (∀ ts : List T, T.sz.szL ts ≤ n → (parts.partsL ts).length = T.sz.szL ts) := by
  intro n
  induction n with
  | zero =>
    refine ⟨fun t h => by have := t.sz_pos; omega, fun ts h => ?_⟩
    cases ts with
    | nil => rfl
    | cons t ts => have := t.sz_pos; rw [T.szL_cons] at h; omega
  | succ n ih =>
    have h1 : ∀ t : T, t.sz ≤ n + 1 → (parts t).length = t.sz := fun t h => by
      rw [T.sz_eq] at h ⊢
      rw [parts_eq, List.length_append, ih.2 _ (by omega)]; simp; omega
    refine ⟨h1, fun ts => ?_⟩
    induction ts with
    | nil => intro _; rfl
    | cons t ts iht =>
      intro h
      rw [T.szL_cons] at h ⊢
      rw [partsL_cons, List.length_append, h1 t (by omega), iht (by omega)]

/-- The parts of one term, out of nothing. -/
theorem parts_one (t : T) (a : Option Addr) (cap : Nat) (w : World) (ht : t.sz ≤ 2000) (hin : InL w t.args a) :
    Calls Tryz.prog 98 #[.slice none 0 0, .agg #[.int .i64 t.v, .int .i64 t.f, .slice a t.args.length cap]] w fun e w' =>
      ∃ g cap1, e = .returned (.slice (some ⟨g, 0, none⟩) t.sz cap1) ∧ w.heap.size ≤ g ∧ g < w'.heap.size ∧
        (∀ k x, (parts t)[k]? = some x → ∃ a1 cap2, w'.cell? ⟨g, k * 3, none⟩ = some (.int .i64 x.v) ∧ w'.cell? ⟨g, k * 3 + 1, none⟩ = some (.int .i64 x.f) ∧ w'.cell? ⟨g, k * 3 + 2, none⟩ = some (.slice a1 x.args.length cap2)) ∧ Below w.heap.size w w' := by
  refine (partsOf_any (t.sz + 1) t a cap (.slice none 0 0) 0 [] w w.heap.size (by omega) (by omega) (Nat.le_refl _) (InP_imp (fun k h => h.2) (InP_lt hin)) ⟨rfl, Or.inl ⟨rfl, rfl⟩⟩).mono ?_
  rintro e w' ⟨v', ds, rfl, hown, hc3, hgrw⟩
  rw [Nat.zero_add, List.nil_append] at hown
  obtain ⟨g, cap1, rfl, hb, hlt, hcell⟩ := own_cells hown t.sz_pos
  refine ⟨g, cap1, rfl, hb, hlt, fun k x hk => ?_, hgrw.below (Nat.le_refl _) (fun g h => by cases h)⟩
  obtain ⟨a1, cap2, h0, h1, h2⟩ := Cells3_at hc3 hk
  exact ⟨a1, cap2, hcell _ _ h0, hcell _ _ h1, hcell _ _ h2⟩

end Go.Proofs.YtbkedppkdhfpoabGreat

namespace Go.Proofs.YtbkedppkdhfpoabGreat
open Go.RowKit

/-- The first error of a list of parts. -/
def firstErr (ar : List Int) : List T → Int
  | [] => 0
  | t :: ts => if partErr ar t.v t.f t.args.length = 0 then firstErr ar ts else partErr ar t.v t.f t.args.length
theorem firstErr_append (ar : List Int) (a b : List T) : firstErr ar (a ++ b) = if firstErr ar a = 0 then firstErr ar b else firstErr ar a := by
  induction a with
  | nil => simp [firstErr]
  | cons t ts ih =>
    rw [List.cons_append, firstErr, firstErr]
    by_cases h : partErr ar t.v t.f t.args.length = 0
    · rw [if_pos h, if_pos h, ih]
    · rw [if_neg h, if_neg h, if_neg h]
theorem firstErr_step {ar : List Int} {ts : List T} {k : Nat} {t : T} (ht : ts[k]? = some t) (h : firstErr ar (ts.take k) = 0) :
    (partErr ar t.v t.f t.args.length = 0 → firstErr ar (ts.take (k + 1)) = 0) ∧ (partErr ar t.v t.f t.args.length ≠ 0 → firstErr ar ts = partErr ar t.v t.f t.args.length) := by
  have hlt : k < ts.length := by
    rcases Nat.lt_or_ge k ts.length with h | h
    · exact h
    · rw [List.getElem?_eq_none h] at ht; cases ht
  constructor
  · intro h2
    rw [List.take_add_one, ht, firstErr_append, if_pos h]
    simp [firstErr, h2]
  · intro h2
    have e : ts = ts.take k ++ t :: ts.drop (k + 1) := by
      rw [List.getElem?_eq_getElem hlt] at ht
      simp at ht
      rw [← ht, List.getElem_cons_drop, List.take_append_drop]
    rw [e, firstErr_append, if_pos h, firstErr, if_neg h2]

/-- The look through the parts tells the first error. -/
theorem look_first {ar : List Int} : ∀ (n : Nat), (∀ (t : T) (s : Int), t.sz ≤ n → (lookT (partStep ar) s t).1 = firstErr ar (parts t) ∧ ((lookT (partStep ar) s t).2 = true ↔ firstErr ar (parts t) = 0)) ∧
    (∀ (ts : List T) (s : Int), T.sz.szL ts ≤ n → (ts ≠ [] → (lookT.lookL (partStep ar) s ts).1 = firstErr ar (parts.partsL ts)) ∧ ((lookT.lookL (partStep ar) s ts).2 = true ↔ firstErr ar (parts.partsL ts) = 0)) := by
  intro n
  induction n with
  | zero =>
    refine ⟨fun t s hn => by have := t.sz_pos; omega, fun ts s hn => ?_⟩
    cases ts with
    | nil => exact ⟨fun h => absurd rfl h, by simp [lookL_nil, parts.partsL, firstErr]⟩
    | cons t ts => have := t.sz_pos; rw [T.szL_cons] at hn; omega
  | succ n ih =>
    have h1 : ∀ (t : T) (s : Int), t.sz ≤ n + 1 → (lookT (partStep ar) s t).1 = firstErr ar (parts t) ∧ ((lookT (partStep ar) s t).2 = true ↔ firstErr ar (parts t) = 0) := fun t s hn => by
      rw [T.sz_eq] at hn
      obtain ⟨h2, h3⟩ := ih.2 t.args s (by omega)
      rw [lookT_eq, parts_eq, firstErr_append]
      by_cases h : (lookT.lookL (partStep ar) s t.args).2 = false
      · have h4 : ¬ firstErr ar (parts.partsL t.args) = 0 := fun h5 => by rw [h3.2 h5] at h; cases h
        have hne : t.args ≠ [] := fun h5 => by rw [h5, lookL_nil] at h; cases h
        rw [if_pos h, if_neg h4]
        exact ⟨h2 hne, by simp [h4]⟩
      · have h4 : firstErr ar (parts.partsL t.args) = 0 := h3.1 (by simpa using h)
        rw [if_neg h, if_pos h4]
        by_cases h5 : partErr ar t.v t.f t.args.length = 0
        · simp [partStep, firstErr, h5]
        · simp [partStep, firstErr, h5]
    refine ⟨h1, fun ts => ?_⟩
    induction ts with
    | nil => intro s _; exact ⟨fun h => absurd rfl h, by simp [lookL_nil, parts.partsL, firstErr]⟩
    | cons t ts iht =>
      intro s hn
      rw [T.szL_cons] at hn
      obtain ⟨h2, h3⟩ := h1 t s (by omega)
      obtain ⟨h4, h5⟩ := iht (lookT (partStep ar) s t).1 (by omega)
      rw [lookL_cons, partsL_cons, firstErr_append]
      by_cases h : (lookT (partStep ar) s t).2 = false
      · have h6 : ¬ firstErr ar (parts t) = 0 := fun h7 => by rw [h3.2 h7] at h; cases h
        rw [if_pos h, if_neg h6]
        exact ⟨fun _ => h2, by simp [h6]⟩
      · have h6 : firstErr ar (parts t) = 0 := h3.1 (by simpa using h)
        rw [if_neg h, if_pos h6]
        refine ⟨fun _ => ?_, h5⟩
        by_cases h7 : ts = []
        · subst h7
          rw [lookL_nil]
          show (lookT (partStep ar) s t).1 = 0
          rw [h2, h6]
        · exact h4 h7

theorem termErr_first {ar : List Int} {t : T} : termErr ar t = if 120 < t.sz then 2 else firstErr ar (parts t) := by
  rw [termErr]
  by_cases h : 120 < t.sz
  · rw [if_pos h, if_pos h]
  · rw [if_neg h, if_neg h]
    have := ((look_first (ar := ar) _).2 [t] 0 (Nat.le_refl _)).1 (by simp)
    rw [this]
    show firstErr ar (parts t ++ []) = _
    rw [List.append_nil]

set_option maxRecDepth 100000 in
set_option maxHeartbeats 1000000 in
theorem refCheckTerm_any (ar : List Int) (ga : Option Addr) (gcap : Nat) (t : T) (a : Option Addr) (cap : Nat) (w : World) (hg : Ints w ar ga) (hgl : ar.length ≤ 12) (hin : InL w t.args a) :
    Calls Tryz.prog 118 #[.agg #[.slice ga ar.length gcap], .agg #[.int .i64 t.v, .int .i64 t.f, .slice a t.args.length cap]] w fun e w' => e = .returned (.int .i64 (termErr ar t)) ∧ Below w.heap.size w w' := by
  have Hin2 := hide (fun o1 o2 => InP_alloc o2 (InP_alloc o1 hin))
  go_enter Tryz.func118, Tryz.ntmps118
  go_wp2_with fail
  refine (sizeOf_any (t.sz + 1) t 120 a cap _ (by omega) (by omega) (by omega) (Hin2.out _ _)).mono ?_
  rintro e w1 ⟨rfl, hb1⟩
  have hz1 : w.heap.size + 2 ≤ w1.heap.size := by have := hb1.size; simp at this; omega
  have hbw : Below w.heap.size w w1 := (below2 _ _ _).trans (hb1.mono (by simp; omega))
  by_cases hbig : 120 < t.sz
  · have hm : min (t.sz : Int) (120 + 1) = 121 := by omega
    rw [hm]
    clear hm
    go_wp2_with fail
    go_ret
    exact ⟨ret_int (by rw [termErr_first, if_pos hbig]), hbw⟩
  · have hm : min (t.sz : Int) (120 + 1) = t.sz := by omega
    rw [hm]
    have Hfin : Hid (termErr ar t = firstErr ar (parts t)) := by
      show _ = _
      rw [termErr_first, if_neg hbig]
    have cg : w1.cell? ⟨w.heap.size, 0, none⟩ = some (.slice ga ar.length gcap) := by
      rw [hb1.cell (p := ⟨w.heap.size, 0, none⟩) (by simp; omega), cell_alloc_lt (by simp), cell_new _ rfl]; rfl
    have h3t : Three w1 (w.heap.size + 1) (.int .i64 t.v) (.int .i64 t.f) (.slice a t.args.length cap) := (Three.new _ (by simp)).below hb1
    obtain ⟨c0, c1, c2, _, _, _⟩ := h3t
    clear hm hb1 Hin2
    go_wp2_with fail
    refine (parts_one t a cap _ (by omega) (InP_below hbw hin)).mono ?_
    rintro e w2 ⟨g, cap1, rfl, hg1, hg2, hcells, hb2⟩
    have hz2 := hb2.size
    have hbw2 : Below w.heap.size w w2 := hbw.trans (hb2.mono (by omega))
    have cg2 : w2.cell? ⟨w.heap.size, 0, none⟩ = some (.slice ga ar.length gcap) := by rw [hb2.cell (p := ⟨w.heap.size, 0, none⟩) (show w.heap.size < w1.heap.size by omega)]; exact cg
    have Hcells := hide hcells
    have hplen := ((parts_length _).1 t (Nat.le_refl _))
    have Hplen := hide hplen
    have hg3 := Ints_below hbw2 hg
    clear hcells cg c0 c1 c2 hb2 hplen
    go_wp2_with fail
    go_loopw [6] (fun i wr => ∃ k : Nat, k ≤ t.sz ∧ i = .int .i64 k ∧ Hid (firstErr ar ((parts t).take k) = 0) ∧ Below w2.heap.size w2 wr) (fun i _ => t.sz - (intOf i).toNat)
    case atStart => exact ⟨0, Nat.zero_le _, rfl, rfl, Below.refl _ _⟩
    case round =>
      obtain ⟨k, hk, rfl, HL, hb⟩ := hrel
      have hzr := hb.size
      have hfb : Below w.heap.size w wr := hbw2.trans (hb.mono (by omega))
      by_cases hlt : k < t.sz
      · have hlt2 : k < (parts t).length := by rw [Hplen.out]; exact hlt
        obtain ⟨x, hx⟩ : ∃ x, (parts t)[k]? = some x := ⟨(parts t)[k], List.getElem?_eq_getElem hlt2⟩
        obtain ⟨a1, cap2, k0, k1, k2⟩ := Hcells.out k x hx
        rw [← hb.cell (p := ⟨g, k * 3, none⟩) hg2] at k0
        rw [← hb.cell (p := ⟨g, k * 3 + 1, none⟩) hg2] at k1
        rw [← hb.cell (p := ⟨g, k * 3 + 2, none⟩) hg2] at k2
        have cgr : wr.cell? ⟨w.heap.size, 0, none⟩ = some (.slice ga ar.length gcap) := by rw [hb.cell (p := ⟨w.heap.size, 0, none⟩) (show w.heap.size < w2.heap.size by omega)]; exact cg2
        have hq : w.heap.size < wr.heap.size := by omega
        have Hst := hide (firstErr_step hx HL.out)
        have hgr := Ints_below hb hg3
        have hfa : ∀ o, Below w.heap.size w (wr.alloc o) := fun o => hfb.alloc (by omega) o
        have hra : ∀ o, Below w2.heap.size w2 (wr.alloc o) := fun o => hb.alloc hzr o
        clear hx cg2
        by_cases h1 : x.v = 0
        · by_cases h2 : 0 ≤ x.f ∧ x.f ≤ (ar.length : Int) - 1
          · obtain ⟨m, hm⟩ := Int.eq_ofNat_of_zero_le h2.1
            have hm2 : m < ar.length := by omega
            obtain ⟨b, off, rfl, hc⟩ := Ints_some hgr (by omega)
            have hck : wr.cell? ⟨b, off + m, none⟩ = some (.int .i64 (ar.getD m 0)) := hc m hm2
            have hbk := lt_of_cell hck
            have hpe : partErr ar x.v x.f x.args.length = if (x.args.length : Int) ≠ ar.getD m 0 then 1 else 0 := by
              rw [partErr, if_neg (by simpa using h1), if_neg (by omega), hm, Int.toNat_natCast]
            have h1' : (x.v != 0) = false := by simpa using h1
            have H2 := hide h2
            have Hpe := hide hpe
            rw [hm] at k1
            rw [hm] at H2
            clear hc hpe h2 h1 hgr
            generalize ar.getD m 0 = y at *
            by_cases h4 : (x.args.length : Int) = y
            · have hgo := hide (Hst.out.1 (by rw [Hpe.out, if_neg (by simpa using h4)]))
              have h4' : ((x.args.length : Int) != y) = false := by simpa using h4
              clear h4 Hst Hpe
              go_wp2_with fail
              refine (between_yes _ 0 _ _ H2.out.1 H2.out.2).mono ?_
              rintro e w' ⟨rfl, rfl⟩
              go_wp2_with fail
              go_quiet (fail)
              go_wp2_with fail
              go_roundw
              case rel => exact ⟨k + 1, by omega, by go_num, hgo, (hra _).trans ⟨rfl, rfl, rfl, Nat.le_refl _, fun _ _ => rfl⟩⟩
              case measure => simp [intOf]; omega
            · have hgo := hide (Hst.out.2 (by rw [Hpe.out, if_pos h4]; decide))
              have h4' : ((x.args.length : Int) != y) = true := by simpa using h4
              have Hpe2 : Hid (partErr ar x.v x.f x.args.length = 1) := by rw [Hpe.out, if_pos h4]; rfl
              clear h4 Hst Hpe
              go_wp2_with fail
              refine (between_yes _ 0 _ _ H2.out.1 H2.out.2).mono ?_
              rintro e w' ⟨rfl, rfl⟩
              go_wp2_with fail
              go_quiet (fail)
              go_wp2_with fail
              go_ret
              exact ⟨ret_int (by rw [Hfin.out, hgo.out, Hpe2.out]), (hfa _).trans ⟨rfl, rfl, rfl, Nat.le_refl _, fun _ _ => rfl⟩⟩
          · have Hpe2 : Hid (partErr ar x.v x.f x.args.length = 5) := by
              show _ = _
              rw [partErr, if_neg (by simpa using h1), if_pos (by omega)]
            have hgo := hide (Hst.out.2 (by rw [Hpe2.out]; decide))
            have h1' : (x.v != 0) = false := by simpa using h1
            have H2 := hide h2
            clear h2 h1 Hst
            go_wp2_with fail
            refine (between_no _ 0 _ _ H2.out).mono ?_
            rintro e w' ⟨rfl, rfl⟩
            go_wp2_with fail
            go_ret
            exact ⟨ret_int (by rw [Hfin.out, hgo.out, Hpe2.out]), hfa _⟩
        · have h1' : (x.v != 0) = true := by simpa using h1
          by_cases h2 : 1 ≤ x.v ∧ x.v ≤ 1000
          · have H2 := hide h2
            by_cases h3 : x.args.length = 0
            · by_cases h4 : x.f = 0
              · have Hpe2 : Hid (partErr ar x.v x.f x.args.length = 0) := by
                  show _ = _
                  rw [partErr, if_pos h1, if_neg (by omega), if_neg (by simp [h3, h4])]
                have hgo := hide (Hst.out.1 Hpe2.out)
                have h4' : (x.f != 0) = false := by simpa using h4
                have h3' : ¬ 0 < x.args.length := by omega
                clear h1 h2 h3 h4 Hst
                go_wp2_with fail
                refine (between_yes _ 1 1000 _ H2.out.1 H2.out.2).mono ?_
                rintro e w' ⟨rfl, rfl⟩
                go_wp2_with fail
                go_roundw
                case rel => exact ⟨k + 1, by omega, by go_num, hgo, hra _⟩
                case measure => simp [intOf]; omega
              · have Hpe2 : Hid (partErr ar x.v x.f x.args.length = 1) := by
                  show _ = _
                  rw [partErr, if_pos h1, if_neg (by omega), if_pos (Or.inr h4)]
                have hgo := hide (Hst.out.2 (by rw [Hpe2.out]; decide))
                have h4' : (x.f != 0) = true := by simpa using h4
                have h3' : ¬ 0 < x.args.length := by omega
                clear h1 h2 h3 h4 Hst
                go_wp2_with fail
                refine (between_yes _ 1 1000 _ H2.out.1 H2.out.2).mono ?_
                rintro e w' ⟨rfl, rfl⟩
                go_wp2_with fail
                go_ret
                exact ⟨ret_int (by rw [Hfin.out, hgo.out, Hpe2.out]), hfa _⟩
            · have Hpe2 : Hid (partErr ar x.v x.f x.args.length = 1) := by
                show _ = _
                rw [partErr, if_pos h1, if_neg (by omega), if_pos (Or.inl h3)]
              have hgo := hide (Hst.out.2 (by rw [Hpe2.out]; decide))
              have h3' : 0 < x.args.length := by omega
              clear h1 h2 h3 Hst
              go_wp2_with fail
              refine (between_yes _ 1 1000 _ H2.out.1 H2.out.2).mono ?_
              rintro e w' ⟨rfl, rfl⟩
              go_wp2_with fail
              go_ret
              exact ⟨ret_int (by rw [Hfin.out, hgo.out, Hpe2.out]), hfa _⟩
          · have Hpe2 : Hid (partErr ar x.v x.f x.args.length = 3) := by
              show _ = _
              rw [partErr, if_pos h1, if_pos (by omega)]
            have hgo := hide (Hst.out.2 (by rw [Hpe2.out]; decide))
            have H2 := hide h2
            clear h1 h2 Hst
            go_wp2_with fail
            refine (between_no _ 1 1000 _ H2.out).mono ?_
            rintro e w' ⟨rfl, rfl⟩
            go_wp2_with fail
            go_ret
            exact ⟨ret_int (by rw [Hfin.out, hgo.out, Hpe2.out]), hfa _⟩
      · go_wp2_with fail
        go_ret
        have hk2 : k = t.sz := by omega
        have h5 := HL.out
        rw [hk2, ← Hplen.out, List.take_length] at h5
        exact ⟨ret_int (by rw [Hfin.out, h5]), hfb⟩

end Go.Proofs.YtbkedppkdhfpoabGreat

namespace Go.Proofs.YtbkedppkdhfpoabGreat
open Go.RowKit

theorem drewB0 (w : World) : Below w.heap.size w w.drew := ⟨rfl, rfl, rfl, Nat.le_refl _, fun _ _ => rfl⟩
theorem cellB {w w' : World} {b o : Nat} {v : Value} (hb : Below w.heap.size w w') (h : w.cell? ⟨b, o, none⟩ = some v) : w'.cell? ⟨b, o, none⟩ = some v := by
  rw [hb.cell (p := ⟨b, o, none⟩) (lt_of_cell h)]; exact h
attribute [local go_sem ↓] Go.wp_at_zero Go.wp_at_succ
end Go.Proofs.YtbkedppkdhfpoabGreat

namespace Go.Proofs.YtbkedppkdhfpoabGreat
open Go.RowKit

/-- A literal: yes or no, and its sides. -/
abbrev Lit := Bool × T × T
/-- Seven cells a literal, and its terms behind them. -/
def LitsP (w : World) : List Lit → Option Addr → Prop
  | [], _ => True
  | x :: c, a => ∃ b off a1 c1 a2 c2, a = some ⟨b, off, none⟩ ∧ w.cell? ⟨b, off, none⟩ = some (.bool x.1) ∧ w.cell? ⟨b, off + 1, none⟩ = some (.int .i64 x.2.1.v) ∧ w.cell? ⟨b, off + 2, none⟩ = some (.int .i64 x.2.1.f) ∧ w.cell? ⟨b, off + 3, none⟩ = some (.slice a1 x.2.1.args.length c1) ∧
      w.cell? ⟨b, off + 4, none⟩ = some (.int .i64 x.2.2.v) ∧ w.cell? ⟨b, off + 5, none⟩ = some (.int .i64 x.2.2.f) ∧ w.cell? ⟨b, off + 6, none⟩ = some (.slice a2 x.2.2.args.length c2) ∧ InL w x.2.1.args a1 ∧ InL w x.2.2.args a2 ∧ LitsP w c (some ⟨b, off + 7, none⟩)
theorem LitsP_below {w w' : World} (hb : Below w.heap.size w w') : ∀ {c : List Lit} {a : Option Addr}, LitsP w c a → LitsP w' c a := by
  intro c
  induction c with
  | nil => intro a _; trivial
  | cons x c ih =>
    intro a h
    obtain ⟨b, off, a1, c1, a2, c2, rfl, h0, h1, h2, h3, h4, h5, h6, i1, i2, hr⟩ := h
    exact ⟨b, off, a1, c1, a2, c2, rfl, cellB hb h0, cellB hb h1, cellB hb h2, cellB hb h3, cellB hb h4, cellB hb h5, cellB hb h6, InP_below hb i1, InP_below hb i2, ih hr⟩
theorem LitsP_some {w : World} {c : List Lit} {a : Option Addr} (h : LitsP w c a) (hp : 0 < c.length) : ∃ b off, a = some ⟨b, off, none⟩ := by
  cases c with
  | nil => simp at hp
  | cons x c => obtain ⟨b, off, _, _, _, _, rfl, _⟩ := h; exact ⟨b, off, rfl⟩
theorem LitsP_at {w : World} : ∀ {c : List Lit} {b off k : Nat} {x : Lit}, LitsP w c (some ⟨b, off, none⟩) → c[k]? = some x →
    ∃ a1 c1 a2 c2, w.cell? ⟨b, off + k * 7, none⟩ = some (.bool x.1) ∧ w.cell? ⟨b, off + k * 7 + 1, none⟩ = some (.int .i64 x.2.1.v) ∧ w.cell? ⟨b, off + k * 7 + 2, none⟩ = some (.int .i64 x.2.1.f) ∧ w.cell? ⟨b, off + k * 7 + 3, none⟩ = some (.slice a1 x.2.1.args.length c1) ∧
      w.cell? ⟨b, off + k * 7 + 4, none⟩ = some (.int .i64 x.2.2.v) ∧ w.cell? ⟨b, off + k * 7 + 5, none⟩ = some (.int .i64 x.2.2.f) ∧ w.cell? ⟨b, off + k * 7 + 6, none⟩ = some (.slice a2 x.2.2.args.length c2) ∧ InL w x.2.1.args a1 ∧ InL w x.2.2.args a2 := by
  intro c
  induction c with
  | nil => intro b off k x _ h; simp at h
  | cons y c ih =>
    intro b off k x h hk
    obtain ⟨b', off', a1, c1, a2, c2, hb, h0, h1, h2, h3, h4, h5, h6, i1, i2, hr⟩ := h
    simp only [Option.some.injEq, Addr.mk.injEq] at hb
    obtain ⟨rfl, rfl, _⟩ := hb
    cases k with
    | zero =>
      simp at hk; subst hk
      exact ⟨a1, c1, a2, c2, by simpa using h0, by simpa using h1, by simpa using h2, by simpa using h3, by simpa using h4, by simpa using h5, by simpa using h6, i1, i2⟩
    | succ k =>
      have h9 := ih hr (by simpa using hk)
      rw [show off + (k + 1) * 7 = off + 7 + k * 7 by omega]
      exact h9
/-- A list of clauses. -/
def ClausesP (w : World) : List (List Lit) → Option Addr → Prop
  | [], _ => True
  | c :: cs, a => ∃ b off la lc, a = some ⟨b, off, none⟩ ∧ w.cell? ⟨b, off, none⟩ = some (.slice la c.length lc) ∧ LitsP w c la ∧ ClausesP w cs (some ⟨b, off + 1, none⟩)
theorem ClausesP_below {w w' : World} (hb : Below w.heap.size w w') : ∀ {cs : List (List Lit)} {a : Option Addr}, ClausesP w cs a → ClausesP w' cs a := by
  intro cs
  induction cs with
  | nil => intro a _; trivial
  | cons c cs ih =>
    intro a h
    obtain ⟨b, off, la, lc, rfl, h0, h1, h2⟩ := h
    exact ⟨b, off, la, lc, rfl, cellB hb h0, LitsP_below hb h1, ih h2⟩
theorem ClausesP_some {w : World} {cs : List (List Lit)} {a : Option Addr} (h : ClausesP w cs a) (hp : 0 < cs.length) : ∃ b off, a = some ⟨b, off, none⟩ := by
  cases cs with
  | nil => simp at hp
  | cons c cs => obtain ⟨b, off, _, _, rfl, _⟩ := h; exact ⟨b, off, rfl⟩
theorem ClausesP_at {w : World} : ∀ {cs : List (List Lit)} {b off k : Nat} {c : List Lit}, ClausesP w cs (some ⟨b, off, none⟩) → cs[k]? = some c → ∃ la lc, w.cell? ⟨b, off + k, none⟩ = some (.slice la c.length lc) ∧ LitsP w c la := by
  intro cs
  induction cs with
  | nil => intro b off k c _ h; simp at h
  | cons m cs ih =>
    intro b off k c h hk
    obtain ⟨b', off', la, lc, hb, h0, h1, h2⟩ := h
    simp only [Option.some.injEq, Addr.mk.injEq] at hb
    obtain ⟨rfl, rfl, _⟩ := hb
    cases k with
    | zero => simp at hk; subst hk; exact ⟨la, lc, by simpa using h0, h1⟩
    | succ k =>
      obtain ⟨la2, lc2, g0, g1⟩ := ih h2 (by simpa using hk)
      exact ⟨la2, lc2, by rw [show off + (k + 1) = off + 1 + k by omega]; exact g0, g1⟩

/-- What is wrong with literals, one behind the other. -/
def litsErr (ar : List Int) : List Lit → Int
  | [] => 0
  | x :: c => if termErr ar x.2.1 = 0 then (if termErr ar x.2.2 = 0 then litsErr ar c else termErr ar x.2.2) else termErr ar x.2.1
def clauseErr (ar : List Int) (c : List Lit) : Int := if 8 < c.length then 2 else litsErr ar c
def clErr (ar : List Int) : List (List Lit) → Int
  | [] => 0
  | c :: cs => if clauseErr ar c = 0 then clErr ar cs else clauseErr ar c
def clausesErr (ar : List Int) (cs : List (List Lit)) : Int := if sigErr ar = 0 then (if 60 < cs.length then 2 else clErr ar cs) else sigErr ar
theorem litsErr_drop {ar : List Int} {c : List Lit} {k : Nat} {x : Lit} (hx : c[k]? = some x) : litsErr ar (c.drop k) = if termErr ar x.2.1 = 0 then (if termErr ar x.2.2 = 0 then litsErr ar (c.drop (k + 1)) else termErr ar x.2.2) else termErr ar x.2.1 := by
  have hlt := (List.getElem?_eq_some_iff.1 hx).1
  have e : c.drop k = x :: c.drop (k + 1) := by
    rw [List.getElem?_eq_getElem hlt] at hx
    simp at hx
    rw [← hx, List.getElem_cons_drop]
  rw [e, litsErr]
theorem clErr_drop {ar : List Int} {cs : List (List Lit)} {k : Nat} {c : List Lit} (hx : cs[k]? = some c) : clErr ar (cs.drop k) = if clauseErr ar c = 0 then clErr ar (cs.drop (k + 1)) else clauseErr ar c := by
  have hlt := (List.getElem?_eq_some_iff.1 hx).1
  have e : cs.drop k = c :: cs.drop (k + 1) := by
    rw [List.getElem?_eq_getElem hlt] at hx
    simp at hx
    rw [← hx, List.getElem_cons_drop]
  rw [e, clErr]
theorem one_err {ar : List Int} (h : sigErr ar = 0) (t : T) : allErr ar [t] = termErr ar t := by
  rw [allErr, if_pos h, termsErr, termsErr]
  by_cases h1 : termErr ar t = 0
  · rw [if_pos h1, h1]
  · rw [if_neg h1]

set_option maxRecDepth 100000 in
set_option maxHeartbeats 1000000 in
theorem checkLiterals_any (ar : List Int) (ga : Option Addr) (gcap : Nat) (c : List Lit) (ca : Option Addr) (cc : Nat) (w : World) (hsig : sigErr ar = 0) (hg : Ints w ar ga) (hl : c.length ≤ 9223372036854775807) (hc : LitsP w c ca) :
    Calls Tryz.prog 63 #[.agg #[.slice ga ar.length gcap], .slice ca c.length cc] w fun e w' => e = .returned (.int .i64 (clauseErr ar c)) ∧ Below w.heap.size w w' := by
  obtain ⟨Z, hZ⟩ : ∃ Z, Z = clauseErr ar c := ⟨_, rfl⟩
  rw [← hZ]
  have HZ := hide hZ
  have Hg := hide hg
  have Hc := hide hc
  have Hone := hide (fun t => one_err hsig t)
  clear hZ hg hc hsig
  go_enter Tryz.func63, Tryz.ntmps63
  by_cases h8 : 8 < c.length
  · obtain rfl : Z = 2 := by rw [HZ.out, clauseErr, if_pos h8]
    have e8 : (8 : Int) < c.length := by omega
    clear HZ h8
    go_wp2_with fail
    go_ret
    exact ⟨rfl, below1 _ _⟩
  · have HZ1 : Hid (Z = litsErr ar c) := by show _ = _; rw [HZ.out, clauseErr, if_neg h8]
    have e8 : ¬ (8 : Int) < c.length := by omega
    have cg0 : ∀ o, o = Obj.cells #[.slice ga ar.length gcap] 24 → (w.alloc o).cell? ⟨w.heap.size, 0, none⟩ = some (.slice ga ar.length gcap) := fun o ho => by rw [ho]; exact cell_new 0 rfl
    have Hcg0 := hide (cg0 _ rfl)
    clear HZ cg0
    go_wp2_with fail
    go_loopw [14] (fun i wr => ∃ k : Nat, k ≤ c.length ∧ i = .int .i64 k ∧ Hid (Z = litsErr ar (c.drop k)) ∧ Hid (Below (w.heap.size + 1) (w.alloc (.cells #[.slice ga ar.length gcap] 24)) wr)) (fun i _ => c.length - (intOf i).toNat)
    case atStart => exact ⟨0, Nat.zero_le _, rfl, by rw [List.drop_zero]; exact HZ1, Below.refl _ _⟩
    case round =>
      obtain ⟨k, hk, rfl, Hk, Hbr⟩ := hrel
      have hzr := Hbr.out.size
      rw [World.size_alloc] at hzr
      have Hbw := hide ((below1 w (.cells #[.slice ga ar.length gcap] 24)).trans (Hbr.out.mono (by omega)))
      have cg : wr.cell? ⟨w.heap.size, 0, none⟩ = some (.slice ga ar.length gcap) := by rw [Hbr.out.cell (p := ⟨w.heap.size, 0, none⟩) (by show w.heap.size < w.heap.size + 1; omega)]; exact Hcg0.out
      by_cases hlt : k < c.length
      · obtain ⟨b, off, rfl⟩ := LitsP_some Hc.out (by omega)
        obtain ⟨x, hx⟩ : ∃ x, c[k]? = some x := ⟨c[k], List.getElem?_eq_getElem hlt⟩
        obtain ⟨a1, c1, a2, c2, k0, k1, k2, k3, k4, k5, k6, hi1, hi2⟩ := LitsP_at (LitsP_below Hbw.out Hc.out) hx
        have hst := litsErr_drop (ar := ar) hx
        rw [← Hk.out] at hst
        have HC1 := hide (fun o => Check_any ar ga gcap x.2.1 a1 c1 (wr.alloc o) (Ints_alloc o (Ints_below Hbw.out Hg.out)) (InP_alloc o hi1))
        rw [Hone.out] at HC1
        obtain ⟨F1, hF1⟩ : ∃ F, F = termErr ar x.2.1 := ⟨_, rfl⟩
        obtain ⟨F2, hF2⟩ : ∃ F, F = termErr ar x.2.2 := ⟨_, rfl⟩
        rw [← hF1] at HC1 hst
        rw [← hF2] at hst
        have Hst := hide hst
        have HF2 := hide hF2
        have Hi2 := hide hi2
        have hkI : (k : Int) < c.length := by omega
        have hk0 : (0 : Int) ≤ k := by omega
        have hbl := lt_of_cell k0
        have hzw : w.heap.size < wr.heap.size := by omega
        clear hst hx hi1 hi2 hF1 hF2 Hk
        go_wp2_with fail
        refine (HC1.out _).mono ?_
        rintro e w2 ⟨rfl, hb2⟩
        have hz2 := hb2.size
        simp at hz2
        have hb12 : Below wr.heap.size wr w2 := (below1 _ _).trans (hb2.mono (by simp))
        have Hb2 := hide (Hbr.out.trans (hb12.mono hzr))
        have Hbf := hide (Hbw.out.trans (hb12.mono Hbw.out.size))
        have cg2 := cellB hb12 cg
        have l4 : w2.cell? ⟨wr.heap.size, 4, none⟩ = some (.int .i64 x.2.2.v) := by rw [hb2.cell (p := ⟨wr.heap.size, 4, none⟩) (by simp)]; exact cell_new 4 rfl
        have l5 : w2.cell? ⟨wr.heap.size, 5, none⟩ = some (.int .i64 x.2.2.f) := by rw [hb2.cell (p := ⟨wr.heap.size, 5, none⟩) (by simp)]; exact cell_new 5 rfl
        have l6 : w2.cell? ⟨wr.heap.size, 6, none⟩ = some (.slice a2 x.2.2.args.length c2) := by rw [hb2.cell (p := ⟨wr.heap.size, 6, none⟩) (by simp)]; exact cell_new 6 rfl
        have HC2 := hide (Check_any ar ga gcap x.2.2 a2 c2 w2 (Ints_below Hbf.out Hg.out) (InP_below hb12 Hi2.out))
        rw [Hone.out, ← HF2.out] at HC2
        clear hb2 hb12 HC1 HF2 k0 k1 k2 k3 k4 k5 k6
        by_cases h1 : F1 = 0
        · have Hs2 : Hid (Z = if F2 = 0 then litsErr ar (c.drop (k + 1)) else F2) := by show _ = _; rw [Hst.out, if_pos h1]
          subst h1
          clear Hst
          go_wp2_with fail
          refine HC2.out.mono ?_
          rintro e w3 ⟨rfl, hb3⟩
          have Hb3 := hide (Hb2.out.trans (hb3.mono (by have := Hb2.out.size; rw [World.size_alloc] at this; exact this)))
          have Hbf3 := hide (Hbf.out.trans (hb3.mono Hbf.out.size))
          clear hb3 HC2
          by_cases h2 : F2 = 0
          · have Hs3 : Hid (Z = litsErr ar (c.drop (k + 1))) := by show _ = _; rw [Hs2.out, if_pos h2]
            subst h2
            clear Hs2
            go_wp2_with fail
            go_roundw
            case rel => exact ⟨k + 1, by omega, by go_num, Hs3, Hb3⟩
            case measure => simp [intOf]; omega
          · have h2b : (F2 != 0) = true := by simpa using h2
            obtain rfl : Z = F2 := by rw [Hs2.out, if_neg h2]
            clear Hs2 h2
            go_wp2_with fail
            go_ret
            exact ⟨rfl, Hbf3.out⟩
        · have h1b : (F1 != 0) = true := by simpa using h1
          obtain rfl : Z = F1 := by rw [Hst.out, if_neg h1]
          clear Hst h1 HC2
          go_wp2_with fail
          go_ret
          exact ⟨rfl, Hbf.out⟩
      · have hk2 : k = c.length := by omega
        subst hk2
        obtain rfl : Z = 0 := by rw [Hk.out, List.drop_length]; rfl
        clear Hk
        go_wp2_with fail
        go_ret
        exact ⟨rfl, Hbw.out⟩

set_option maxRecDepth 100000 in
set_option maxHeartbeats 1000000 in
theorem cCheck_any (ar : List Int) (ga : Option Addr) (gcap : Nat) (cs : List (List Lit)) (la : Option Addr) (lc : Nat) (w : World) (hg : Ints w ar ga) (hl : cs.length ≤ 9223372036854775807) (hcl : ∀ c, c ∈ cs → c.length ≤ 9223372036854775807) (hc : ClausesP w cs la) :
    Calls Tryz.prog 20 #[.agg #[.slice ga ar.length gcap], .slice la cs.length lc] w fun e w' => e = .returned (.int .i64 (clausesErr ar cs)) ∧ Below w.heap.size w w' := by
  have H1 := hide (fun o => signature_any ar ga gcap (w.alloc o) (Ints_alloc o hg))
  obtain ⟨E, hE⟩ : ∃ E, E = sigErr ar := ⟨_, rfl⟩
  obtain ⟨Z, hZ⟩ : ∃ Z, Z = clausesErr ar cs := ⟨_, rfl⟩
  rw [← hE] at H1
  rw [← hZ]
  have HE := hide hE
  have HZ := hide hZ
  have Hg := hide hg
  have Hc := hide hc
  have Hcl := hide hcl
  clear hE hZ hg hc hcl
  go_enter Tryz.func20, Tryz.ntmps20
  go_wp2_with fail
  refine (H1.out _).mono ?_
  rintro e w1 ⟨rfl, hb1⟩
  have hz1 : w.heap.size + 1 ≤ w1.heap.size := by have := hb1.size; simp at this; omega
  have hbw : Below w.heap.size w w1 := (below1 _ _).trans (hb1.mono (by simp))
  have cg : w1.cell? ⟨w.heap.size, 0, none⟩ = some (.slice ga ar.length gcap) := by
    rw [hb1.cell (p := ⟨w.heap.size, 0, none⟩) (by simp)]; exact cell_new 0 rfl
  have Hbw := hide hbw
  clear hb1 hbw H1
  by_cases h0 : E = 0
  · have HZ1 : Hid (Z = if 60 < cs.length then 2 else clErr ar cs) := by show _ = _; rw [HZ.out, clausesErr, if_pos (HE.out.symm.trans h0)]
    have Hsig := hide (HE.out.symm.trans h0)
    subst h0
    by_cases h60 : 60 < cs.length
    · obtain rfl : Z = 2 := by rw [HZ1.out, if_pos h60]
      have e60 : (60 : Int) < cs.length := by omega
      clear HZ1 HZ h60
      go_wp2_with fail
      go_ret
      exact ⟨rfl, Hbw.out⟩
    · have HZ2 : Hid (Z = clErr ar cs) := by show _ = _; rw [HZ1.out, if_neg h60]
      have e60 : ¬ (60 : Int) < cs.length := by omega
      clear HZ1 HZ
      go_wp2_with fail
      go_loopw [19] (fun iv wr => ∃ k : Nat, k ≤ cs.length ∧ iv = .int .i64 k ∧ Hid (Z = clErr ar (cs.drop k)) ∧ Hid (Below w1.heap.size w1 wr)) (fun iv _ => cs.length - (intOf iv).toNat)
      case atStart => exact ⟨0, Nat.zero_le _, rfl, by rw [List.drop_zero]; exact HZ2, Below.refl _ _⟩
      case round =>
        obtain ⟨k, hk, rfl, HZk, Hbr⟩ := hrel
        have Hbwr := hide (Hbw.out.trans (Hbr.out.mono Hbw.out.size))
        have cgr := cellB Hbr.out cg
        by_cases hlt : k < cs.length
        · obtain ⟨b, off, rfl⟩ := ClausesP_some Hc.out (by omega)
          obtain ⟨c, hx⟩ : ∃ c, cs[k]? = some c := ⟨cs[k], List.getElem?_eq_getElem hlt⟩
          obtain ⟨ca, cc, kc, hlc⟩ := ClausesP_at (ClausesP_below Hbwr.out Hc.out) hx
          have hst := clErr_drop (ar := ar) hx
          rw [← HZk.out] at hst
          have HG := hide (checkLiterals_any ar ga gcap c ca cc wr Hsig.out (Ints_below Hbwr.out Hg.out) (Hcl.out c (List.mem_of_getElem? hx)) hlc)
          obtain ⟨F, hF⟩ : ∃ F, F = clauseErr ar c := ⟨_, rfl⟩
          rw [← hF] at HG hst
          have Hst := hide hst
          have hkI : (k : Int) < cs.length := by omega
          have hk0 : (0 : Int) ≤ k := by omega
          clear hst hF hx hlc HZk
          go_wp2_with fail
          refine HG.out.mono ?_
          rintro e w2 ⟨rfl, hb2⟩
          have Hb2 := hide (Hbr.out.trans (hb2.mono Hbr.out.size))
          have Hbf := hide (Hbwr.out.trans (hb2.mono Hbwr.out.size))
          clear hb2 HG
          by_cases hF0 : F = 0
          · have Hs2 : Hid (Z = clErr ar (cs.drop (k + 1))) := by show _ = _; rw [Hst.out, if_pos hF0]
            subst hF0
            clear Hst
            go_wp2_with fail
            go_roundw
            case rel => exact ⟨k + 1, by omega, by go_num, Hs2, Hb2⟩
            case measure => simp [intOf]; omega
          · have hFb : (F != 0) = true := by simpa using hF0
            obtain rfl : Z = F := by rw [Hst.out, if_neg hF0]
            clear Hst hF0
            go_wp2_with fail
            go_ret
            exact ⟨rfl, Hbf.out⟩
        · have hk2 : k = cs.length := by omega
          subst hk2
          obtain rfl : Z = 0 := by rw [HZk.out, List.drop_length]; rfl
          clear HZk
          go_wp2_with fail
          go_ret
          exact ⟨rfl, Hbwr.out⟩
  · have h0b : (E != 0) = true := by simpa using h0
    obtain rfl : Z = E := by rw [HZ.out, clausesErr, if_neg (fun h => h0 (HE.out.trans h)), HE.out]
    clear HZ HE h0
    go_wp2_with fail
    go_ret
    exact ⟨rfl, Hbw.out⟩

end Go.Proofs.YtbkedppkdhfpoabGreat

namespace Go.Proofs.YtbkedppkdhfpoabGreat
open Go.RowKit

theorem below_drewN {B : Nat} {a w : World} (h : Below B a w) (n : Nat) : Below B a (w.drewN n) := ⟨h.os, h.tape, h.output, h.size, h.block⟩
attribute [local go_sem ↓] Go.wp_at_zero Go.wp_at_succ
end Go.Proofs.YtbkedppkdhfpoabGreat

namespace Go.Proofs.YtbkedppkdhfpoabGreat
open Go.RowKit

/-- Three cells a term, and its arguments. -/
def Kids (p : Nat → Prop) (w : World) : List T → List Value → Prop
  | [], cs => cs = []
  | t :: ts, cs => ∃ a cap rest, cs = .int .i64 t.v :: .int .i64 t.f :: .slice a t.args.length cap :: rest ∧ InP p w t.args a ∧ Kids p w ts rest
theorem Kids_append {p : Nat → Prop} {w : World} {ts us : List T} : ∀ {cs ds : List Value}, Kids p w ts cs → Kids p w us ds → Kids p w (ts ++ us) (cs ++ ds) := by
  induction ts with
  | nil => intro cs ds h1 h2; rw [show cs = [] from h1]; exact h2
  | cons t ts ih =>
    intro cs ds h1 h2
    obtain ⟨a, cap, rest, rfl, h0, h⟩ := h1
    exact ⟨a, cap, rest ++ ds, rfl, h0, ih h h2⟩
theorem Kids_mono {p q : Nat → Prop} {w w' : World} {ts : List T} (hs : ∀ k, p k → k < w.heap.size → q k ∧ w'.heap[k]? = w.heap[k]?) : ∀ {cs : List Value}, Kids p w ts cs → Kids q w' ts cs := by
  induction ts with
  | nil => intro cs h; exact h
  | cons t ts ih =>
    intro cs h
    obtain ⟨a, cap, rest, rfl, h0, h⟩ := h
    exact ⟨a, cap, rest, rfl, InP_mono (fun b o v hp hv => ⟨(hs b hp (lt_of_cell hv)).1, by rw [World.cell?_of_block (w := w) (a := ⟨b, o, none⟩) (hs b hp (lt_of_cell hv)).2]; exact hv⟩) _ _ _ (Nat.le_refl _) h0, ih h⟩

/-- A list of the call's own that holds these terms; nothing that lies behind them lies in the list's own block. -/
def Outs (q : Nat → Prop) (base : Nat) (w : World) (l : Value) (ts : List T) : Prop :=
  ∃ xs, w.ownsRow base 77 3 l ts.length xs ∧ Kids (fun k => (q k ∨ base ≤ k) ∧ l.ownBlock ≠ some k) w ts xs

theorem Outs_nil {q : Nat → Prop} {base : Nat} {w : World} : Outs q base w (.slice none 0 0) [] := ⟨[], ⟨rfl, Or.inl ⟨rfl, rfl⟩⟩, rfl⟩
theorem Outs_same {q : Nat → Prop} {base : Nat} {w w' : World} {l : Value} {ts : List T} (h : Outs q base w l ts) (hs : ∀ k, (q k ∨ base ≤ k) → k < w.heap.size → w'.heap[k]? = w.heap[k]?) : Outs q base w' l ts := by
  obtain ⟨xs, h1, h2⟩ := h
  exact ⟨xs, own_same h1 (fun g hg => hs g (Or.inr (own_lt h1 g hg).1) (own_lt h1 g hg).2), Kids_mono (fun k hk hlt => ⟨hk, hs k hk.1 hlt⟩) h2⟩
theorem Outs_below {q : Nat → Prop} {base : Nat} {w w' : World} {l : Value} {ts : List T} (h : Outs q base w l ts) (hb : Below w.heap.size w w') : Outs q base w' l ts := Outs_same h (fun k _ hk => hb.block k hk)
theorem Outs_step {q : Nat → Prop} {base : Nat} {w w' : World} {l : Value} {ts : List T} {c : T} {xs : List Value} {a : Option Addr} {cap g cap2 : Nat} (hk : Kids (fun k => (q k ∨ base ≤ k) ∧ l.ownBlock ≠ some k) w ts xs)
    (hc : InP (fun k => (q k ∨ base ≤ k) ∧ l.ownBlock ≠ some k) w c.args a)
    (hown : w'.ownsRow base 77 3 (.slice (some ⟨g, 0, none⟩) (ts.length + 1) cap2) (ts.length + 1) (xs ++ [.int .i64 c.v, .int .i64 c.f, .slice a c.args.length cap])) (hg : w.grownBy w' l.ownBlock) (hat : l.ownBlock = some g ∨ g = w.heap.size) :
    Outs q base w' (.slice (some ⟨g, 0, none⟩) (ts.length + 1) cap2) (ts ++ [c]) := by
  refine ⟨_, by rw [List.length_append]; exact hown, Kids_mono (p := fun k => (q k ∨ base ≤ k) ∧ l.ownBlock ≠ some k) (w := w) (fun k hp hlt => ⟨⟨hp.1, ?_⟩, hg.block k hlt (fun e => hp.2 e.symm)⟩) (Kids_append hk ⟨a, cap, [], rfl, hc, rfl⟩)⟩
  rcases hat with hat | hat
  · rw [show (Value.slice (some ⟨g, 0, none⟩) (ts.length + 1) cap2).ownBlock = some g from rfl, ← hat]; exact hp.2
  · show some g ≠ some k
    intro e; cases e; omega
theorem Kids_in {p : Nat → Prop} {w : World} {g : Nat} (hpg : p g) {ts : List T} : ∀ {off : Nat} {cs : List Value}, Kids p w ts cs → (∀ j u, cs[j]? = some u → w.cell? ⟨g, off + j, none⟩ = some u) → InP p w ts (some ⟨g, off, none⟩) := by
  induction ts with
  | nil => intro off cs _ _; exact InP_nil
  | cons t ts ih =>
    intro off cs h hc
    obtain ⟨a, cap, rest, rfl, h0, h⟩ := h
    refine InP_cons.2 ⟨g, off, .slice a t.args.length cap, rfl, hpg, hc 0 _ rfl, hc 1 _ rfl, hc 2 _ rfl, In_iff.2 ⟨a, cap, rfl, h0⟩, ih h fun j u hu => ?_⟩
    rw [show off + 3 + j = off + (j + 3) from by omega]
    exact hc (j + 3) u (by simpa using hu)
theorem Outs_end {q : Nat → Prop} {base : Nat} {w : World} {l : Value} {ts : List T} (h : Outs q base w l ts) : ∃ a cap, l = .slice a ts.length cap ∧ InP (fun k => q k ∨ base ≤ k) w ts a := by
  obtain ⟨xs, h1, h2⟩ := h
  by_cases h0 : 0 < ts.length
  · obtain ⟨g, cap, rfl, hb, hlt, hcell⟩ := own_cells h1 h0
    exact ⟨_, cap, rfl, Kids_in (Or.inr hb) (Kids_mono (fun k hk _ => ⟨hk.1, rfl⟩) h2) (fun j u hu => by rw [Nat.zero_add]; exact hcell j u hu)⟩
  · obtain ⟨a, c, rfl⟩ := own_shape h1
    have : ts = [] := List.length_eq_zero_iff.1 (by omega)
    subst this
    exact ⟨a, c, rfl, InP_nil⟩

end Go.Proofs.YtbkedppkdhfpoabGreat

namespace Go.Proofs.YtbkedppkdhfpoabGreat

/-- Where a number goes, asked from the end. -/
def spot (x : Int) (out : List Int) : Nat → Nat
  | 0 => 0
  | n + 1 => if out.getD n 0 > x then spot x out n else n + 1
/-- A number put among rising ones. -/
def rise1 (out : List Int) (x : Int) : List Int := out.take (spot x out out.length) ++ x :: out.drop (spot x out out.length)
/-- Numbers, put in one by one. -/
def rising (l : List Int) : List Int := l.foldl rise1 []
/-- What is sorted, and each kept once, rises, and has the same members. -/
theorem compact_facts (zs : List Int) (h : zs.Pairwise (· ≤ ·)) : (Lib.compact zs).Pairwise (· < ·) ∧ ∀ x, x ∈ Lib.compact zs ↔ x ∈ zs := by
  have hg : ∀ j (hj : j < zs.length), zs.toArray[j]! = zs[j] := fun j hj => by
    rw [getElem!_pos _ _ (by simpa using hj)]; simp
  have key : ∀ m, m ≤ zs.length → (Lib.compactUpTo zs.toArray m).Pairwise (· < ·) ∧ ∀ x, x ∈ Lib.compactUpTo zs.toArray m ↔ x ∈ zs.take m := by
    intro m
    induction m with
    | zero => intro _; exact ⟨by rw [Lib.compactUpTo]; simp, fun x => by rw [Lib.compactUpTo]; simp⟩
    | succ m ih =>
      intro hm
      obtain ⟨h1, h2⟩ := ih (by omega)
      have ht : zs.take (m + 1) = zs.take m ++ [zs[m]] := by rw [List.take_add_one, List.getElem?_eq_getElem (by omega)]; rfl
      rw [Lib.compactUpTo_succ, ht]
      have hle : ∀ j (hj : j < m), zs[j] ≤ zs[m - 1] := fun j hj => by
        rcases Nat.lt_or_ge j (m - 1) with h3 | h3
        · exact List.pairwise_iff_getElem.1 h j (m - 1) (by omega) (by omega) h3
        · have : j = m - 1 := by omega
          subst this; exact Int.le_refl _
      by_cases hk : m = 0 ∨ zs.toArray[m]! ≠ zs.toArray[m - 1]!
      · rw [if_pos (by simpa [Lib.keeps] using hk), hg m (by omega)]
        refine ⟨List.pairwise_append.2 ⟨h1, List.pairwise_singleton _ _, fun a ha b hb => ?_⟩, fun x => by rw [List.mem_append, List.mem_append, h2]⟩
        have hb : b = zs[m] := by simpa using hb
        subst hb
        obtain ⟨j, hj, rfl⟩ := List.mem_iff_getElem.1 ((h2 a).1 ha)
        rw [List.length_take] at hj
        rw [List.getElem_take]
        rcases hk with hk | hk
        · omega
        · rw [hg m (by omega), hg (m - 1) (by omega)] at hk
          have h4 := hle j (by omega)
          have h5 := List.pairwise_iff_getElem.1 h (m - 1) m (by omega) (by omega) (by omega)
          omega
      · have hm0 : 0 < m := by omega
        have he : zs[m] = zs[m - 1] := by
          rw [← hg m (by omega), ← hg (m - 1) (by omega)]
          rcases Classical.em (zs.toArray[m]! = zs.toArray[m - 1]!) with e | e
          · exact e
          · exact absurd (Or.inr e) hk
        rw [if_neg (by simpa [Lib.keeps] using hk), List.append_nil]
        refine ⟨h1, fun x => ?_⟩
        rw [h2, List.mem_append, List.mem_singleton]
        constructor
        · exact Or.inl
        · rintro (h | rfl)
          · exact h
          · rw [he]
            refine List.mem_iff_getElem.2 ⟨m - 1, by rw [List.length_take]; omega, by rw [List.getElem_take]⟩
  obtain ⟨h1, h2⟩ := key zs.length (Nat.le_refl _)
  exact ⟨h1, fun x => by rw [Lib.compact, h2, List.take_length]⟩

theorem sort_facts (zs : List Int) : (zs.mergeSort fun x y => decide (x ≤ y)).Pairwise (· ≤ ·) ∧ ∀ x, x ∈ (zs.mergeSort fun x y => decide (x ≤ y)) ↔ x ∈ zs := by
  refine ⟨(List.pairwise_mergeSort (le := fun x y : Int => decide (x ≤ y)) (fun a b c h1 h2 => by simp only [decide_eq_true_eq] at *; omega) (fun a b => by simp only [Bool.or_eq_true, decide_eq_true_eq]; omega) zs).imp (fun h => by simpa using h), fun x => List.mem_mergeSort⟩

end Go.Proofs.YtbkedppkdhfpoabGreat
