/- Does a clause hold, by which things its variables are: the program's closures. Clauses in new memory, whose variables are numbered anew; Tidy. The program's Value: what it answers. Does a clause hold, whichever things some variables are: the program's always. -/
import Derived.Deep.RegionHeld3
import Derived.Test.YtbkedppkdhfpoabGreatJoined10
namespace Go.Proofs.YtbkedppkdhfpoabGreat
open Go.RowKit

/-- Is a literal so? -/
def litHolds (n : Int) (ls : List (List Int)) (f : Int → Int) (x : Lit) : Bool := x.1 == (valT n ls f x.2.1 == valT n ls f x.2.2)
/-- Is one of a clause? -/
def clHolds (n : Int) (ls : List (List Int)) (f : Int → Int) (c : List Lit) : Bool := c.any (litHolds n ls f)
/-- Literals that are right. -/
def LitsOk (ar : List Int) (c : List Lit) : Prop := ∀ x, x ∈ c → (x.2.1.sz ≤ 120 ∧ okP ar x.2.1) ∧ (x.2.2.sz ≤ 120 ∧ okP ar x.2.2)
theorem litsErr_ok {ar : List Int} : ∀ {c : List Lit}, litsErr ar c = 0 → LitsOk ar c := by
  intro c
  induction c with
  | nil => intro _ x hx; cases hx
  | cons y c ih =>
    intro h x hx
    rw [litsErr] at h
    by_cases h1 : termErr ar y.2.1 = 0
    · rw [if_pos h1] at h
      by_cases h2 : termErr ar y.2.2 = 0
      · rw [if_pos h2] at h
        rcases List.mem_cons.1 hx with rfl | hx
        · exact ⟨termErr_iff.1 h1, termErr_iff.1 h2⟩
        · exact ih h x hx
      · rw [if_neg h2] at h; exact absurd h h2
    · rw [if_neg h1] at h; exact absurd h h1

attribute [local go_sem ↓] Go.wp_at_zero Go.wp_at_succ
set_option maxRecDepth 100000 in
set_option maxHeartbeats 1000000 in
theorem holdsC2_any {ar : List Int} {n : Int} {ls : List (List Int)} (hmo : MOk ar n ls) (ta : Option Addr) (tc b m : Nat) (g : Int → Option Int) (hr : ∀ k, 0 ≤ (g k).getD 0 ∧ (g k).getD 0 < n) (bi bm : Nat) (x : Lit) (a1 : Option Addr) (c1 : Nat) (a2 : Option Addr) (c2 : Nat) (w : World) (hx : (x.2.1.sz ≤ 120 ∧ okP ar x.2.1) ∧ (x.2.2.sz ≤ 120 ∧ okP ar x.2.2))
    (hM : IsAt w b m g) (hT : TabsP w ls ta) (hi1 : InL w x.2.1.args a1) (hi2 : InL w x.2.2.args a2) (ci : w.cell? ⟨bi, 0, none⟩ = some (.map (some b))) (cn : w.cell? ⟨bm, 0, none⟩ = some (.int .i64 n)) (ct : w.cell? ⟨bm, 1, none⟩ = some (.slice ta ls.length tc)) :
    Calls Tryz.prog 70 #[.agg #[.bool x.1, .int .i64 x.2.1.v, .int .i64 x.2.1.f, .slice a1 x.2.1.args.length c1, .int .i64 x.2.2.v, .int .i64 x.2.2.f, .slice a2 x.2.2.args.length c2], .pointer (some ⟨bi, 0, none⟩), .pointer (some ⟨bm, 0, none⟩)] w fun e w' => e = .returned (.bool (litHolds n ls (fun k => (g k).getD 0) x)) ∧ Below w.heap.size w w' := by
  obtain ⟨W1, hW1⟩ : ∃ W1, W1 = w.alloc (.cells #[.bool x.1, .int .i64 x.2.1.v, .int .i64 x.2.1.f, .slice a1 x.2.1.args.length c1, .int .i64 x.2.2.v, .int .i64 x.2.2.f, .slice a2 x.2.2.args.length c2] 79) := ⟨_, rfl⟩
  have hb1 : Below w.heap.size w W1 := by rw [hW1]; exact below1 _ _
  have hc : ∀ j, W1.cell? ⟨w.heap.size, j, none⟩ = (#[Value.bool x.1, .int .i64 x.2.1.v, .int .i64 x.2.1.f, .slice a1 x.2.1.args.length c1, .int .i64 x.2.2.v, .int .i64 x.2.2.f, .slice a2 x.2.2.args.length c2])[j]? := fun j => by rw [hW1]; exact cell_new j rfl
  have d0 : W1.cell? ⟨w.heap.size, 0, none⟩ = some (.bool x.1) := hc 0
  have d1 : W1.cell? ⟨w.heap.size, 1, none⟩ = some (.int .i64 x.2.1.v) := hc 1
  have d2 : W1.cell? ⟨w.heap.size, 2, none⟩ = some (.int .i64 x.2.1.f) := hc 2
  have d3 : W1.cell? ⟨w.heap.size, 3, none⟩ = some (.slice a1 x.2.1.args.length c1) := hc 3
  have d4 : W1.cell? ⟨w.heap.size, 4, none⟩ = some (.int .i64 x.2.2.v) := hc 4
  have d5 : W1.cell? ⟨w.heap.size, 5, none⟩ = some (.int .i64 x.2.2.f) := hc 5
  have d6 : W1.cell? ⟨w.heap.size, 6, none⟩ = some (.slice a2 x.2.2.args.length c2) := hc 6
  have HC1 := hide (fun (w' : World) (hb' : Below W1.heap.size W1 w') => valueP_any hmo ta tc b m g x.2.1.sz x.2.1 a1 c1 w' (Nat.le_refl _) hx.1.2 (fun y _ _ => hr y.v) (IsAt.below (IsAt.below hM hb1) hb') (TabsP_below hb' (TabsP_below hb1 hT)) (InP_below hb' (InP_below hb1 hi1)))
  have HC2 := hide (fun (w' : World) (hb' : Below W1.heap.size W1 w') => valueP_any hmo ta tc b m g x.2.2.sz x.2.2 a2 c2 w' (Nat.le_refl _) hx.2.2 (fun y _ _ => hr y.v) (IsAt.below (IsAt.below hM hb1) hb') (TabsP_below hb' (TabsP_below hb1 hT)) (InP_below hb' (InP_below hb1 hi2)))
  have hS := hide (fun (w' : World) (hb' : Below W1.heap.size W1 w') => (show w'.cell? ⟨w.heap.size, 0, none⟩ = some (.bool x.1) ∧ w'.cell? ⟨w.heap.size, 1, none⟩ = some (.int .i64 x.2.1.v) ∧ w'.cell? ⟨w.heap.size, 1 + 1, none⟩ = some (.int .i64 x.2.1.f) ∧ w'.cell? ⟨w.heap.size, 1 + 2, none⟩ = some (.slice a1 x.2.1.args.length c1) ∧ w'.cell? ⟨w.heap.size, 4, none⟩ = some (.int .i64 x.2.2.v) ∧ w'.cell? ⟨w.heap.size, 4 + 1, none⟩ = some (.int .i64 x.2.2.f) ∧ w'.cell? ⟨w.heap.size, 4 + 2, none⟩ = some (.slice a2 x.2.2.args.length c2) ∧
      w'.cell? ⟨bi, 0, none⟩ = some (.map (some b)) ∧ w'.cell? ⟨bm, 0, none⟩ = some (.int .i64 n) ∧ w'.cell? ⟨bm, 1, none⟩ = some (.slice ta ls.length tc) from
    ⟨cellB hb' d0, cellB hb' d1, cellB hb' d2, cellB hb' d3, cellB hb' d4, cellB hb' d5, cellB hb' d6, cellB hb' (cellB hb1 ci), cellB hb' (cellB hb1 cn), cellB hb' (cellB hb1 ct)⟩))
  obtain ⟨X1, hX1⟩ : ∃ X, X = valT n ls (fun k => (g k).getD 0) x.2.1 := ⟨_, rfl⟩
  obtain ⟨X2, hX2⟩ : ∃ X, X = valT n ls (fun k => (g k).getD 0) x.2.2 := ⟨_, rfl⟩
  have HZ : Hid (litHolds n ls (fun k => (g k).getD 0) x = (x.1 == (X1 == X2))) := by show _ = _; rw [litHolds, ← hX1, ← hX2]
  rw [← hX1] at HC1
  rw [← hX2] at HC2
  have HF0 := hide (Below.refl W1.heap.size W1)
  have Hb1 := hide hb1
  have HW1 := hide hW1
  rw [HZ.out]
  clear hW1 hb1 hc d0 d1 d2 d3 d4 d5 d6 hX1 hX2 hM hT hi1 hi2 ci cn ct hr hx hmo HZ
  go_enter Tryz.func70, Tryz.ntmps70
  go_wp2_with fail
  rw [← HW1.out]
  go_region_held3 (fun w' => w'.cell? ⟨w.heap.size, 0, none⟩ = some (.bool x.1) ∧ w'.cell? ⟨w.heap.size, 1, none⟩ = some (.int .i64 x.2.1.v) ∧ w'.cell? ⟨w.heap.size, 1 + 1, none⟩ = some (.int .i64 x.2.1.f) ∧ w'.cell? ⟨w.heap.size, 1 + 2, none⟩ = some (.slice a1 x.2.1.args.length c1) ∧ w'.cell? ⟨w.heap.size, 4, none⟩ = some (.int .i64 x.2.2.v) ∧ w'.cell? ⟨w.heap.size, 4 + 1, none⟩ = some (.int .i64 x.2.2.f) ∧ w'.cell? ⟨w.heap.size, 4 + 2, none⟩ = some (.slice a2 x.2.2.args.length c2) ∧
      w'.cell? ⟨bi, 0, none⟩ = some (.map (some b)) ∧ w'.cell? ⟨bm, 0, none⟩ = some (.int .i64 n) ∧ w'.cell? ⟨bm, 1, none⟩ = some (.slice ta ls.length tc)) ((first | (refine hS.out _ ?_; (repeat' (first | with_reducible exact Hid.out ‹Hid (Below _ _ _)› | with_reducible exact Below.refl _ _ | (with_reducible refine Below.drew ?_))); done) | go_keep)) ((first
    | (go_at_call 71
       with_reducible refine (HC1.out _ ?_).mono ?_
       · (repeat' (first | with_reducible exact Hid.out ‹Hid (Below _ _ _)› | with_reducible exact Below.refl _ _ | (with_reducible refine Below.drew ?_)))
       rintro e wA ⟨rfl, hbA⟩
       have HbA : Hid (Below W1.heap.size W1 wA) := by
         refine Below.trans (b := _) ?_ (hbA.mono ?_)
         · (repeat' (first | with_reducible exact Hid.out ‹Hid (Below _ _ _)› | with_reducible exact Below.refl _ _ | (with_reducible refine Below.drew ?_)))
         · first | exact Nat.le_refl _ | exact HbB.out.size
       clear hbA)
    | (go_at_call 71
       with_reducible refine (HC2.out _ ?_).mono ?_
       · (repeat' (first | with_reducible exact Hid.out ‹Hid (Below _ _ _)› | with_reducible exact Below.refl _ _ | (with_reducible refine Below.drew ?_)))
       rintro e wB ⟨rfl, hbB⟩
       have HbB : Hid (Below W1.heap.size W1 wB) := by
         refine Below.trans (b := _) ?_ (hbB.mono ?_)
         · (repeat' (first | with_reducible exact Hid.out ‹Hid (Below _ _ _)› | with_reducible exact Below.refl _ _ | (with_reducible refine Below.drew ?_)))
         · first | exact Nat.le_refl _ | exact HbA.out.size
       clear hbB)))
  all_goals
    go_wp2_with fail
    go_ret
    exact ⟨rfl, Hb1.out.trans (Below.mono (by first | exact HbB.out | exact HbA.out) Hb1.out.size)⟩

theorem eg70 (args : Array Value) (w : World) : (callFunc 70 args).run Tryz.prog w = .ok (.enter 70 args) w := by kernel_rfl
theorem any_stepL {p : Lit → Bool} {c : List Lit} {k : Nat} {x : Lit} (hx : c[k]? = some x) (h : (c.take k).any p = false) : (p x = false → (c.take (k + 1)).any p = false) ∧ (p x = true → c.any p = true) := by
  have hlt := (List.getElem?_eq_some_iff.1 hx).1
  constructor
  · intro h1
    rw [List.take_add_one, hx, List.any_append, h]
    simpa using h1
  · intro h1
    rw [List.any_eq_true]
    exact ⟨x, List.mem_of_getElem? hx, h1⟩
/-- What the closures lean on. -/
structure HS (ar : List Int) (n : Int) (ls : List (List Int)) (ta : Option Addr) (tc b bi bm : Nat) (c : List Lit) (ca : Option Addr) (w : World) (m : Nat) (g : Int → Option Int) : Prop where
  mo : MOk ar n ls
  ok : LitsOk ar c
  len : c.length ≤ 8
  rng : ∀ k, 0 ≤ (g k).getD 0 ∧ (g k).getD 0 < n
  map : IsAt w b m g
  tabs : TabsP w ls ta
  lits : LitsP w c ca
  ci : w.cell? ⟨bi, 0, none⟩ = some (.map (some b))
  cn : w.cell? ⟨bm, 0, none⟩ = some (.int .i64 n)
  ct : w.cell? ⟨bm, 1, none⟩ = some (.slice ta ls.length tc)
theorem HS.below {ar : List Int} {n : Int} {ls : List (List Int)} {ta : Option Addr} {tc b bi bm : Nat} {c : List Lit} {ca : Option Addr} {w w' : World} {m : Nat} {g : Int → Option Int} (h : HS ar n ls ta tc b bi bm c ca w m g) (hb : Below w.heap.size w w') : HS ar n ls ta tc b bi bm c ca w' m g :=
  ⟨h.mo, h.ok, h.len, h.rng, h.map.below hb, TabsP_below hb h.tabs, LitsP_below hb h.lits, cellB hb h.ci, cellB hb h.cn, cellB hb h.ct⟩

set_option maxRecDepth 100000 in
set_option maxHeartbeats 400000 in
theorem indexL_any {ar : List Int} {n : Int} {ls : List (List Int)} {ta : Option Addr} {tc b bi bm : Nat} {c : List Lit} {ca : Option Addr} {w : World} {m : Nat} {g : Int → Option Int} (h : HS ar n ls ta tc b bi bm c ca w m g) (cc : Nat) :
    Calls Tryz.prog 106 #[.slice ca c.length cc, .func (.func 70) #[] #[.pointer (some ⟨bi, 0, none⟩), .pointer (some ⟨bm, 0, none⟩)]] w fun e w' => (∃ i : Int, e = .returned (.int .i64 i) ∧ decide (0 ≤ i) = clHolds n ls (fun k => (g k).getD 0) c) ∧ Below w.heap.size w w' := by
  have eg := eg70
  have H := hide h
  have hl8 := h.len
  clear h
  go_enter Tryz.func106, Tryz.ntmps106
  go_wp2_with fail
  go_loopw [8] (fun i wr => ∃ k : Nat, k ≤ c.length ∧ i = .int .i64 k ∧ Hid ((c.take k).any (litHolds n ls (fun k => (g k).getD 0)) = false) ∧ Hid (Below w.heap.size w wr)) (fun i _ => c.length - (intOf i).toNat)
  case atStart => exact ⟨0, Nat.zero_le _, rfl, rfl, Below.refl _ _⟩
  case round =>
    obtain ⟨k, hk, rfl, Hk, Hbr⟩ := hrel
    have Hr := hide (H.out.below Hbr.out)
    by_cases hlt : k < c.length
    · obtain ⟨cb, coff, rfl⟩ := LitsP_some H.out.lits (by omega)
      obtain ⟨x, hx⟩ : ∃ x, c[k]? = some x := ⟨c[k], List.getElem?_eq_getElem hlt⟩
      obtain ⟨a1, c1, a2, c2, k0, k1, k2, k3, k4, k5, k6, hi1, hi2⟩ := LitsP_at Hr.out.lits hx
      have Hst := hide (any_stepL hx Hk.out)
      have HC := hide (holdsC2_any Hr.out.mo ta tc b m g Hr.out.rng bi bm x a1 c1 a2 c2 wr (Hr.out.ok x (List.mem_of_getElem? hx)) Hr.out.map Hr.out.tabs hi1 hi2 Hr.out.ci Hr.out.cn Hr.out.ct)
      have hI : (k : Int) < c.length := by omega
      have hk0 : (0 : Int) ≤ k := by omega
      clear hx hi1 hi2 Hk
      go_wp2_with fail
      refine HC.out.mono ?_
      rintro e w' ⟨rfl, hb'⟩
      have Hb' := hide (Hbr.out.trans (hb'.mono Hbr.out.size))
      clear hb' HC k0 k1 k2 k3 k4 k5 k6
      cases hd : litHolds n ls (fun k => (g k).getD 0) x with
      | false =>
        have Hn := hide (Hst.out.1 hd)
        clear Hst hd
        go_wp2_with fail
        go_roundw
        case rel => exact ⟨k + 1, by omega, by go_num, Hn, Hb'⟩
        case measure => simp [intOf]; omega
      | true =>
        have Hn := hide (Hst.out.2 hd)
        clear Hst hd
        go_wp2_with fail
        go_ret
        exact ⟨⟨k, rfl, by rw [clHolds, Hn.out]; simp⟩, Hb'.out⟩
    · have hk2 : k = c.length := by omega
      subst hk2
      rw [List.take_length] at Hk
      go_wp2_with fail
      go_ret
      exact ⟨⟨-1, rfl, by rw [clHolds, Hk.out]; rfl⟩, Hbr.out⟩
set_option maxRecDepth 100000 in
set_option maxHeartbeats 400000 in
theorem holdsC1_any {ar : List Int} {n : Int} {ls : List (List Int)} {ta : Option Addr} {tc b bi bm : Nat} {c : List Lit} {ca : Option Addr} {w : World} {m : Nat} {g : Int → Option Int} (h : HS ar n ls ta tc b bi bm c ca w m g) (cc bc : Nat) (hc : w.cell? ⟨bc, 0, none⟩ = some (.slice ca c.length cc)) :
    Calls Tryz.prog 69 #[.pointer (some ⟨bc, 0, none⟩), .pointer (some ⟨bi, 0, none⟩), .pointer (some ⟨bm, 0, none⟩)] w fun e w' => e = .returned (.bool (clHolds n ls (fun k => (g k).getD 0) c)) ∧ Below w.heap.size w w' := by
  have HC : Hid (Calls Tryz.prog 44 #[.slice ca c.length cc, .func (.func 70) #[] #[.pointer (some ⟨bi, 0, none⟩), .pointer (some ⟨bm, 0, none⟩)]] w fun e w' => e = .returned (.bool (clHolds n ls (fun k => (g k).getD 0) c)) ∧ Below w.heap.size w w') := by
    have HX := hide (indexL_any h cc)
    clear h hc
    go_enter Tryz.func44, Tryz.ntmps44
    go_wp2_with fail
    refine HX.out.mono ?_
    rintro e w' ⟨⟨i, rfl, hi⟩, hb'⟩
    have Hi := hide hi
    have Hb := hide hb'
    clear hi hb'
    go_wp2_with fail
    go_ret
    exact ⟨ret_bool Hi.out, Hb.out⟩
  clear h
  go_enter Tryz.func69, Tryz.ntmps69
  go_wp2_with fail
  refine HC.out.mono ?_
  rintro e w' ⟨rfl, hb'⟩
  have Hb := hide hb'
  clear hb'
  go_wp2_with fail
  go_ret
  exact ⟨rfl, Hb.out⟩

end Go.Proofs.YtbkedppkdhfpoabGreat

namespace Go.Proofs.YtbkedppkdhfpoabGreat
open Go.RowKit Go.Maps

/-- Literals of the program's own, seven cells each; B: the blocks behind them. -/
def OwnCl (w : World) : List Lit → Nat → Nat → List Nat → Prop
  | [], _, _, B => B = []
  | x :: c, g, off, B => ∃ s1 s2 B1 B2 Br, B = (B1 ++ B2) ++ Br ∧ w.cell? ⟨g, off, none⟩ = some (.bool x.1) ∧ w.cell? ⟨g, off + 1, none⟩ = some (.int .i64 x.2.1.v) ∧ w.cell? ⟨g, off + 2, none⟩ = some (.int .i64 x.2.1.f) ∧ w.cell? ⟨g, off + 3, none⟩ = some s1 ∧
      w.cell? ⟨g, off + 4, none⟩ = some (.int .i64 x.2.2.v) ∧ w.cell? ⟨g, off + 5, none⟩ = some (.int .i64 x.2.2.f) ∧ w.cell? ⟨g, off + 6, none⟩ = some s2 ∧ x.2.1.Own w s1 B1 ∧ x.2.2.Own w s2 B2 ∧ OwnCl w c g (off + 7) Br
theorem OwnCl_mono {w w' : World} : ∀ {c : List Lit} {g off : Nat} {B : List Nat}, (∀ k, k ∈ B → w'.heap[k]? = w.heap[k]?) → (∀ j, off ≤ j → j < off + c.length * 7 → w'.cell? ⟨g, j, none⟩ = w.cell? ⟨g, j, none⟩) → OwnCl w c g off B → OwnCl w' c g off B := by
  intro c
  induction c with
  | nil => intro g off B _ _ h; exact h
  | cons x c ih =>
    intro g off B hk hc h
    obtain ⟨s1, s2, B1, B2, Br, rfl, h0, h1, h2, h3, h4, h5, h6, o1, o2, hr⟩ := h
    have hl : (x :: c).length * 7 = 7 + c.length * 7 := by simp; omega
    rw [hl] at hc
    refine ⟨s1, s2, B1, B2, Br, rfl, by rw [hc off (by omega) (by omega)]; exact h0, by rw [hc (off + 1) (by omega) (by omega)]; exact h1, by rw [hc (off + 2) (by omega) (by omega)]; exact h2, by rw [hc (off + 3) (by omega) (by omega)]; exact h3, by rw [hc (off + 4) (by omega) (by omega)]; exact h4, by rw [hc (off + 5) (by omega) (by omega)]; exact h5, by rw [hc (off + 6) (by omega) (by omega)]; exact h6, Own_mono (fun k hk' => hk k (by simp [hk'])) o1, Own_mono (fun k hk' => hk k (by simp [hk'])) o2, ih (fun k hk' => hk k (by simp [hk'])) (fun j h1 h2 => hc j (by omega) (by omega)) hr⟩
theorem OwnCl_snoc {w : World} {x : Lit} {s1 s2 : Value} {B1 B2 : List Nat} : ∀ {c : List Lit} {g off : Nat} {B : List Nat}, OwnCl w c g off B → w.cell? ⟨g, off + c.length * 7, none⟩ = some (.bool x.1) → w.cell? ⟨g, off + c.length * 7 + 1, none⟩ = some (.int .i64 x.2.1.v) → w.cell? ⟨g, off + c.length * 7 + 2, none⟩ = some (.int .i64 x.2.1.f) → w.cell? ⟨g, off + c.length * 7 + 3, none⟩ = some s1 →
    w.cell? ⟨g, off + c.length * 7 + 4, none⟩ = some (.int .i64 x.2.2.v) → w.cell? ⟨g, off + c.length * 7 + 5, none⟩ = some (.int .i64 x.2.2.f) → w.cell? ⟨g, off + c.length * 7 + 6, none⟩ = some s2 → x.2.1.Own w s1 B1 → x.2.2.Own w s2 B2 → OwnCl w (c ++ [x]) g off (B ++ (B1 ++ B2)) := by
  intro c
  induction c with
  | nil =>
    intro g off B h h0 h1 h2 h3 h4 h5 h6 o1 o2
    rw [show B = [] from h]
    exact ⟨s1, s2, B1, B2, [], by simp, by simpa using h0, by simpa using h1, by simpa using h2, by simpa using h3, by simpa using h4, by simpa using h5, by simpa using h6, o1, o2, rfl⟩
  | cons y c ih =>
    intro g off B h h0 h1 h2 h3 h4 h5 h6 o1 o2
    obtain ⟨t1, t2, C1, C2, Br, rfl, g0, g1, g2, g3, g4, g5, g6, p1, p2, hr⟩ := h
    have e : off + (y :: c).length * 7 = off + 7 + c.length * 7 := by simp; omega
    rw [e] at h0 h1 h2 h3 h4 h5 h6
    exact ⟨t1, t2, C1, C2, Br ++ (B1 ++ B2), by simp, g0, g1, g2, g3, g4, g5, g6, p1, p2, ih hr h0 h1 h2 h3 h4 h5 h6 o1 o2⟩
theorem OwnCl_lits {w : World} : ∀ {c : List Lit} {g off : Nat} {B : List Nat}, OwnCl w c g off B → LitsP w c (some ⟨g, off, none⟩) := by
  intro c
  induction c with
  | nil => intro g off B _; trivial
  | cons x c ih =>
    intro g off B h
    obtain ⟨s1, s2, B1, B2, Br, rfl, h0, h1, h2, h3, h4, h5, h6, o1, o2, hr⟩ := h
    obtain ⟨a1, c1, rfl, i1⟩ := Own_in o1
    obtain ⟨a2, c2, rfl, i2⟩ := Own_in o2
    exact ⟨g, off, a1, c1, a2, c2, rfl, h0, h1, h2, h3, h4, h5, h6, i1, i2, ih hr⟩

def set7 (w : World) (b o : Nat) (u0 u1 u2 u3 u4 u5 u6 : Value) : World :=
  ((((((w.setCell ⟨b, o, none⟩ u0).setCell ⟨b, o + 1, none⟩ u1).setCell ⟨b, o + 2, none⟩ u2).setCell ⟨b, o + 3, none⟩ u3).setCell ⟨b, o + 4, none⟩ u4).setCell ⟨b, o + 5, none⟩ u5).setCell ⟨b, o + 6, none⟩ u6
theorem set7_block {w : World} {b o : Nat} {u0 u1 u2 u3 u4 u5 u6 : Value} {k : Nat} (h : k ≠ b) : (set7 w b o u0 u1 u2 u3 u4 u5 u6).heap[k]? = w.heap[k]? := by
  unfold set7
  rw [Below.heap_setCell _ _ _ _ h, Below.heap_setCell _ _ _ _ h, Below.heap_setCell _ _ _ _ h, Below.heap_setCell _ _ _ _ h, Below.heap_setCell _ _ _ _ h, Below.heap_setCell _ _ _ _ h, Below.heap_setCell _ _ _ _ h]
theorem set7_size {w : World} {b o : Nat} {u0 u1 u2 u3 u4 u5 u6 : Value} : (set7 w b o u0 u1 u2 u3 u4 u5 u6).heap.size = w.heap.size := by
  unfold set7; simp only [World.size_setCell]
theorem set7_fr {w : World} {b o : Nat} {u0 u1 u2 u3 u4 u5 u6 : Value} (a : Addr) : (set7 w b o u0 u1 u2 u3 u4 u5 u6).frozen? a = w.frozen? a := by
  unfold set7; simp only [World.frozen?_setCell]
theorem io_set (w : World) (a : Addr) (u : Value) : (w.setCell a u).os = w.os ∧ (w.setCell a u).tape = w.tape ∧ (w.setCell a u).output = w.output := ⟨rfl, rfl, rfl⟩
theorem set7_io {w : World} {b o : Nat} {u0 u1 u2 u3 u4 u5 u6 : Value} : (set7 w b o u0 u1 u2 u3 u4 u5 u6).os = w.os ∧ (set7 w b o u0 u1 u2 u3 u4 u5 u6).tape = w.tape ∧ (set7 w b o u0 u1 u2 u3 u4 u5 u6).output = w.output := by
  unfold set7
  refine ⟨?_, ?_, ?_⟩
  · rw [(io_set _ _ _).1, (io_set _ _ _).1, (io_set _ _ _).1, (io_set _ _ _).1, (io_set _ _ _).1, (io_set _ _ _).1, (io_set _ _ _).1]
  · rw [(io_set _ _ _).2.1, (io_set _ _ _).2.1, (io_set _ _ _).2.1, (io_set _ _ _).2.1, (io_set _ _ _).2.1, (io_set _ _ _).2.1, (io_set _ _ _).2.1]
  · rw [(io_set _ _ _).2.2, (io_set _ _ _).2.2, (io_set _ _ _).2.2, (io_set _ _ _).2.2, (io_set _ _ _).2.2, (io_set _ _ _).2.2, (io_set _ _ _).2.2]
theorem cell_set {w : World} {b i j : Nat} {u v : Value} (hv : w.cell? ⟨b, j, none⟩ = some v) : (w.setCell ⟨b, i, none⟩ u).cell? ⟨b, j, none⟩ = some (if i = j then u else v) := by
  by_cases e : i = j
  · subst e; rw [World.cell?_setCell_same _ _ _ hv, if_pos rfl]
  · rw [World.cell?_setCell_other _ _ _ _ (fun e3 => e (by injection e3)), if_neg e]; exact hv
theorem set7_cell {w : World} {b o j : Nat} {u0 u1 u2 u3 u4 u5 u6 v : Value} (hv : w.cell? ⟨b, j, none⟩ = some v) : (set7 w b o u0 u1 u2 u3 u4 u5 u6).cell? ⟨b, j, none⟩ = some (if o + 6 = j then u6 else if o + 5 = j then u5 else if o + 4 = j then u4 else if o + 3 = j then u3 else if o + 2 = j then u2 else if o + 1 = j then u1 else if o = j then u0 else v) := by
  unfold set7
  exact cell_set (cell_set (cell_set (cell_set (cell_set (cell_set (cell_set hv))))))
theorem set7_far {w : World} {b o j : Nat} {u0 u1 u2 u3 u4 u5 u6 : Value} (h : j < o ∨ o + 6 < j) : (set7 w b o u0 u1 u2 u3 u4 u5 u6).cell? ⟨b, j, none⟩ = w.cell? ⟨b, j, none⟩ := by
  have e : ∀ i, o ≤ i → i ≤ o + 6 → (⟨b, i, none⟩ : Addr) ≠ ⟨b, j, none⟩ := fun i h1 h2 e3 => by injection e3 with _ e4; omega
  unfold set7
  rw [World.cell?_setCell_other _ _ _ _ (e _ (by omega) (by omega)), World.cell?_setCell_other _ _ _ _ (e _ (by omega) (by omega)), World.cell?_setCell_other _ _ _ _ (e _ (by omega) (by omega)), World.cell?_setCell_other _ _ _ _ (e _ (by omega) (by omega)), World.cell?_setCell_other _ _ _ _ (e _ (by omega) (by omega)), World.cell?_setCell_other _ _ _ _ (e _ (by omega) (by omega)), World.cell?_setCell_other _ _ _ _ (e _ (by omega) (by omega))]

/-- A clause that is being copied: k of its literals are there. -/
structure CC (w wr : World) (c : List Lit) (k : Nat) (B : List Nat) : Prop where
  own : OwnCl wr (c.take k) w.heap.size 0 B
  nd : B.Nodup
  rng : ∀ j, j ∈ B → w.heap.size < j ∧ j < wr.heap.size
  cells : ∀ j, j < c.length * 7 → ∃ u, wr.cell? ⟨w.heap.size, j, none⟩ = some u
  fr : ∀ j, wr.frozen? ⟨w.heap.size, j, none⟩ = false
  below : Below w.heap.size w wr
  gl : w.heap.size < wr.heap.size
theorem CC.step {w wr w2 : World} {c : List Lit} {k : Nat} {B : List Nat} {x : Lit} {s1 s2 : Value} {B1 B2 : List Nat} (h : CC w wr c k B) (hx : c[k]? = some x) (hb : Below wr.heap.size wr w2) (o1 : x.2.1.Own w2 s1 B1) (o2 : x.2.2.Own w2 s2 B2) (hn : (B1 ++ B2).Nodup) (hr : ∀ j, j ∈ B1 ++ B2 → wr.heap.size ≤ j ∧ j < w2.heap.size) :
    CC w (set7 w2 w.heap.size (k * 7) (.bool x.1) (.int .i64 x.2.1.v) (.int .i64 x.2.1.f) s1 (.int .i64 x.2.2.v) (.int .i64 x.2.2.f) s2) c (k + 1) (B ++ (B1 ++ B2)) := by
  have hlt := (List.getElem?_eq_some_iff.1 hx).1
  have hgl := h.gl
  have hsz := hb.size
  have hcell : ∀ j, j < c.length * 7 → ∃ u, w2.cell? ⟨w.heap.size, j, none⟩ = some u := fun j hj => by
    obtain ⟨u, hu⟩ := h.cells j hj
    exact ⟨u, cell_below hb hu⟩
  have hown : OwnCl w2 (c.take k) w.heap.size 0 B := OwnCl_mono (fun j hj => hb.block j (h.rng j hj).2) (fun j _ hj => hb.cell (p := ⟨w.heap.size, j, none⟩) hgl) h.own
  have hkl : (c.take k).length = k := by rw [List.length_take]; omega
  have hT : c.take (k + 1) = c.take k ++ [x] := by rw [List.take_add_one, hx]; rfl
  have hB : ∀ j, j ∈ B1 ++ B2 → j ≠ w.heap.size := fun j hj => by have := (hr j hj).1; omega
  obtain ⟨WS, hWS⟩ : ∃ WS, WS = set7 w2 w.heap.size (k * 7) (.bool x.1) (.int .i64 x.2.1.v) (.int .i64 x.2.1.f) s1 (.int .i64 x.2.2.v) (.int .i64 x.2.2.f) s2 := ⟨_, rfl⟩
  have hfar : ∀ j, (j < k * 7 ∨ k * 7 + 6 < j) → WS.cell? ⟨w.heap.size, j, none⟩ = w2.cell? ⟨w.heap.size, j, none⟩ := fun j hj => by rw [hWS]; exact set7_far hj
  have hblk : ∀ j, j ≠ w.heap.size → WS.heap[j]? = w2.heap[j]? := fun j hj => by rw [hWS]; exact set7_block hj
  have hsz2 : WS.heap.size = w2.heap.size := by rw [hWS]; exact set7_size
  have hfr2 : ∀ a, WS.frozen? a = w2.frozen? a := fun a => by rw [hWS]; exact set7_fr a
  have e0 : WS.cell? ⟨w.heap.size, k * 7, none⟩ = some (.bool x.1) := by obtain ⟨u, hu⟩ := hcell (k * 7) (by omega); rw [hWS, set7_cell hu]; simp
  have e1 : WS.cell? ⟨w.heap.size, k * 7 + 1, none⟩ = some (.int .i64 x.2.1.v) := by obtain ⟨u, hu⟩ := hcell (k * 7 + 1) (by omega); rw [hWS, set7_cell hu]; simp
  have e2 : WS.cell? ⟨w.heap.size, k * 7 + 2, none⟩ = some (.int .i64 x.2.1.f) := by obtain ⟨u, hu⟩ := hcell (k * 7 + 2) (by omega); rw [hWS, set7_cell hu]; simp
  have e3 : WS.cell? ⟨w.heap.size, k * 7 + 3, none⟩ = some s1 := by obtain ⟨u, hu⟩ := hcell (k * 7 + 3) (by omega); rw [hWS, set7_cell hu]; simp
  have e4 : WS.cell? ⟨w.heap.size, k * 7 + 4, none⟩ = some (.int .i64 x.2.2.v) := by obtain ⟨u, hu⟩ := hcell (k * 7 + 4) (by omega); rw [hWS, set7_cell hu]; simp
  have e5 : WS.cell? ⟨w.heap.size, k * 7 + 5, none⟩ = some (.int .i64 x.2.2.f) := by obtain ⟨u, hu⟩ := hcell (k * 7 + 5) (by omega); rw [hWS, set7_cell hu]; simp
  have e6 : WS.cell? ⟨w.heap.size, k * 7 + 6, none⟩ = some s2 := by obtain ⟨u, hu⟩ := hcell (k * 7 + 6) (by omega); rw [hWS, set7_cell hu]; simp
  have ecell : ∀ j, j < c.length * 7 → ∃ u, WS.cell? ⟨w.heap.size, j, none⟩ = some u := fun j hj => by obtain ⟨u, hu⟩ := hcell j hj; exact ⟨_, by rw [hWS]; exact set7_cell hu⟩
  have hos : WS.os = w2.os ∧ WS.tape = w2.tape ∧ WS.output = w2.output := by rw [hWS]; exact set7_io
  rw [← hWS]
  clear hWS
  refine ⟨?_, ?_, fun j hj => ?_, ecell, fun j => by rw [hfr2, hb.frozen (p := ⟨w.heap.size, j, none⟩) hgl]; exact h.fr j, ?_, by rw [hsz2]; omega⟩
  · rw [hT]
    have h9 : OwnCl WS (c.take k) w.heap.size 0 B := OwnCl_mono (fun j hj => hblk j (by have := (h.rng j hj).1; omega)) (fun j _ hj => hfar j (by rw [hkl] at hj; omega)) hown
    have q1 := Own_mono (w' := WS) (fun j hj => hblk j (hB j (List.mem_append_left _ hj))) o1
    have q2 := Own_mono (w' := WS) (fun j hj => hblk j (hB j (List.mem_append_right _ hj))) o2
    exact OwnCl_snoc h9 (by rw [hkl, Nat.zero_add]; exact e0) (by rw [hkl, Nat.zero_add]; exact e1) (by rw [hkl, Nat.zero_add]; exact e2) (by rw [hkl, Nat.zero_add]; exact e3) (by rw [hkl, Nat.zero_add]; exact e4) (by rw [hkl, Nat.zero_add]; exact e5) (by rw [hkl, Nat.zero_add]; exact e6) q1 q2
  · rw [List.nodup_append]
    refine ⟨h.nd, hn, fun a ha b hb' e => ?_⟩
    have h1 := (h.rng a ha).2
    have h2 := (hr b hb').1
    omega
  · rw [hsz2]
    rcases List.mem_append.1 hj with hj | hj
    · have := h.rng j hj; omega
    · have := hr j hj; omega
  · have hb2 := h.below.trans (hb.mono h.below.size)
    exact ⟨hos.1.trans hb2.os, hos.2.1.trans hb2.tape, hos.2.2.trans hb2.output, by rw [hsz2]; exact hb2.size, fun j hj => by rw [hblk j (by omega)]; exact hb2.block j hj⟩

def row7 (n : Nat) : Array Value := madeCells #[.bool false, .int .i64 0, .int .i64 0, .slice none 0 0, .int .i64 0, .int .i64 0, .slice none 0 0] (n * 7)
theorem run_make7 (n : Nat) (hn : n ≤ 100000) (w : World) : (Instr.makeSlice 26 (.int .i64 (n : Int)) (.int .i64 (n : Int))).run Tryz.prog w = .ok (.slice (some ⟨w.heap.size, 0, none⟩) n n) (w.alloc (.cells (row7 n) 79)) := by
  obtain ⟨i, hi, hzz⟩ := Option.map_eq_some_iff.1 Tryz.info79
  simp only [Prod.mk.injEq] at hzz
  obtain ⟨hz, hs, hb⟩ := hzz
  have hr := run_make (P := Tryz.prog) w 26 79 i _ Go.Proofs.Tryz.underlying26 hi hz .i64 .i64 n n (by omega) (Int.le_refl _) (by rw [hb]; omega) (by omega)
  simp only [Int.toNat_natCast, hs] at hr
  exact hr
theorem CC.start (w : World) (c : List Lit) : CC w (w.alloc (.cells (row7 c.length) 79)) c 0 [] := by
  refine ⟨rfl, List.nodup_nil, (fun j hj => by cases hj), fun j hj => ?_, fun j => ?_, below1 _ _, by simp⟩
  · have hs : j < (row7 c.length).size := by rw [row7, size_madeCells]; exact hj
    exact ⟨(row7 c.length)[j], by rw [cell_new j rfl]; simp [hs]⟩
  · exact frozen_of_heap (heap_alloc_new w _) j

attribute [local go_sem ↓] Go.wp_at_zero Go.wp_at_succ
set_option maxRecDepth 100000 in
set_option maxHeartbeats 2000000 in
theorem copyClause_any (c : List Lit) (ca : Option Addr) (cc : Nat) (w : World) (hl : c.length ≤ 1000) (hsz : ∀ x, x ∈ c → LitSz x) (hc : LitsP w c ca) :
    Calls Tryz.prog 91 #[.slice ca c.length cc] w fun e w' => e = .returned (.slice (some ⟨w.heap.size, 0, none⟩) c.length c.length) ∧ ∃ B, CC w w' c c.length B := by
  have hmk := run_make7 c.length (by omega)
  have Hc := hide hc
  have Hsz := hide hsz
  have HC0 := hide (CC.start w c)
  clear hc hsz
  go_enter Tryz.func91, Tryz.ntmps91
  go_wp2_with fail
  go_loopw [11] (fun i wr => ∃ (k : Nat) (B : List Nat), k ≤ c.length ∧ i = .int .i64 k ∧ Hid (CC w wr c k B)) (fun i _ => c.length - (intOf i).toNat)
  case atStart => exact ⟨0, [], Nat.zero_le _, rfl, HC0⟩
  case round =>
    obtain ⟨k, B, hk, rfl, HCC⟩ := hrel
    have hzr := HCC.out.below.size
    have hgl := HCC.out.gl
    by_cases hlt : k < c.length
    · obtain ⟨x, hx⟩ : ∃ x, c[k]? = some x := ⟨c[k], List.getElem?_eq_getElem hlt⟩
      obtain ⟨b, off, rfl⟩ := LitsP_some Hc.out (by omega)
      obtain ⟨a1, c1, a2, c2, k0, k1, k2, k3, k4, k5, k6, i1, i2⟩ := LitsP_at (LitsP_below HCC.out.below Hc.out) hx
      have hkI : (k : Int) < c.length := by omega
      have hk0 : (0 : Int) ≤ k := by omega
      obtain ⟨W1, hW1⟩ : ∃ W1, W1 = wr.alloc (.cells #[.bool x.1, .int .i64 x.2.1.v, .int .i64 x.2.1.f, .slice a1 x.2.1.args.length c1, .int .i64 x.2.2.v, .int .i64 x.2.2.f, .slice a2 x.2.2.args.length c2] 79) := ⟨_, rfl⟩
      have HW1 := hide hW1
      have hbW : Below wr.heap.size wr W1 := by rw [hW1]; exact below1 _ _
      have hx7 : L7 W1 wr.heap.size 0 x a1 c1 a2 c2 := by rw [hW1]; exact L7.new _ rfl
      have hxs := Hsz.out x (List.mem_of_getElem? hx)
      have HA := hide (fun (w' : World) (hb' : Below W1.heap.size W1 w') => copyOf_any (x.2.1.sz + 1) x.2.1 a1 c1 w' (by omega) hxs.1 (InP_below (hbW.trans (hb'.mono hbW.size)) i1))
      have HB := hide (fun (w' : World) (hb' : Below W1.heap.size W1 w') => copyOf_any (x.2.2.sz + 1) x.2.2 a2 c2 w' (by omega) hxs.2 (InP_below (hbW.trans (hb'.mono hbW.size)) i2))
      have HSt := hide (fun (w2 : World) (s1 s2 : Value) (B1 B2 : List Nat) (hb2 : Below W1.heap.size W1 w2) => CC.step (w2 := w2) (s1 := s1) (s2 := s2) (B1 := B1) (B2 := B2) HCC.out hx (hbW.trans (hb2.mono hbW.size)))
      have hS := hide (fun (w' : World) (hb' : Below W1.heap.size W1 w') => (show w'.cell? ⟨wr.heap.size, 0, none⟩ = some (.bool x.1) ∧ w'.cell? ⟨wr.heap.size, 1, none⟩ = some (.int .i64 x.2.1.v) ∧ w'.cell? ⟨wr.heap.size, 1 + 1, none⟩ = some (.int .i64 x.2.1.f) ∧ w'.cell? ⟨wr.heap.size, 1 + 2, none⟩ = some (.slice a1 x.2.1.args.length c1) ∧ w'.cell? ⟨wr.heap.size, 4, none⟩ = some (.int .i64 x.2.2.v) ∧ w'.cell? ⟨wr.heap.size, 4 + 1, none⟩ = some (.int .i64 x.2.2.f) ∧ w'.cell? ⟨wr.heap.size, 4 + 2, none⟩ = some (.slice a2 x.2.2.args.length c2) from
        ⟨cellB hb' hx7.e0, cellB hb' hx7.e1, cellB hb' hx7.e2, cellB hb' hx7.e3, cellB hb' hx7.e4, cellB hb' hx7.e5, cellB hb' hx7.e6⟩))
      have hS7 := hide (fun (w' : World) (hb' : Below W1.heap.size W1 w') (u0 u1 u2 u3 u4 u5 u6 : Value) => (show (set7 w' w.heap.size (k * 7) u0 u1 u2 u3 u4 u5 u6).cell? ⟨wr.heap.size, 0, none⟩ = some (.bool x.1) ∧ (set7 w' w.heap.size (k * 7) u0 u1 u2 u3 u4 u5 u6).cell? ⟨wr.heap.size, 1, none⟩ = some (.int .i64 x.2.1.v) ∧ (set7 w' w.heap.size (k * 7) u0 u1 u2 u3 u4 u5 u6).cell? ⟨wr.heap.size, 1 + 1, none⟩ = some (.int .i64 x.2.1.f) ∧ (set7 w' w.heap.size (k * 7) u0 u1 u2 u3 u4 u5 u6).cell? ⟨wr.heap.size, 1 + 2, none⟩ = some (.slice a1 x.2.1.args.length c1) ∧ (set7 w' w.heap.size (k * 7) u0 u1 u2 u3 u4 u5 u6).cell? ⟨wr.heap.size, 4, none⟩ = some (.int .i64 x.2.2.v) ∧ (set7 w' w.heap.size (k * 7) u0 u1 u2 u3 u4 u5 u6).cell? ⟨wr.heap.size, 4 + 1, none⟩ = some (.int .i64 x.2.2.f) ∧ (set7 w' w.heap.size (k * 7) u0 u1 u2 u3 u4 u5 u6).cell? ⟨wr.heap.size, 4 + 2, none⟩ = some (.slice a2 x.2.2.args.length c2) from by
        obtain ⟨z0, z1, z2, z3, z4, z5, z6⟩ := hS.out w' hb'
        have hne : wr.heap.size ≠ w.heap.size := by omega
        have hC : ∀ {o : Nat} {v : Value}, w'.cell? ⟨wr.heap.size, o, none⟩ = some v → (set7 w' w.heap.size (k * 7) u0 u1 u2 u3 u4 u5 u6).cell? ⟨wr.heap.size, o, none⟩ = some v := fun {o v} hv => by rw [World.cell?_of_block (w := w') (a := ⟨wr.heap.size, o, none⟩) (set7_block hne)]; exact hv
        exact ⟨hC z0, hC z1, hC z2, hC z3, hC z4, hC z5, hC z6⟩))
      have hRow := hide (fun (w' : World) (hb' : Below W1.heap.size W1 w') (j : Nat) (hj : j < c.length * 7) => (show ∃ u, w'.cell? ⟨w.heap.size, j, none⟩ = some u from by
        obtain ⟨u, hu⟩ := HCC.out.cells j hj
        exact ⟨u, cell_below hb' (cell_below hbW hu)⟩))
      have hFr := hide (fun (w' : World) (hb' : Below W1.heap.size W1 w') (j : Nat) => (show w'.frozen? ⟨w.heap.size, j, none⟩ = false from by
        rw [hb'.frozen (p := ⟨w.heap.size, j, none⟩) (Nat.lt_of_lt_of_le hgl hbW.size), hbW.frozen (p := ⟨w.heap.size, j, none⟩) hgl]; exact HCC.out.fr j))
      have HR := hide (Below.refl W1.heap.size W1)
      clear hW1 hbW hx7 i1 i2 hx hxs
      go_upto_region 5 with fail
      rw [← HW1.out]
      obtain ⟨l0, l1, l2, l3, l4, l5, l6⟩ := hS.out W1 HR.out
      go_region_held3 (fun w' => w'.cell? ⟨wr.heap.size, 0, none⟩ = some (.bool x.1) ∧ w'.cell? ⟨wr.heap.size, 1, none⟩ = some (.int .i64 x.2.1.v) ∧ w'.cell? ⟨wr.heap.size, 1 + 1, none⟩ = some (.int .i64 x.2.1.f) ∧ w'.cell? ⟨wr.heap.size, 1 + 2, none⟩ = some (.slice a1 x.2.1.args.length c1) ∧ w'.cell? ⟨wr.heap.size, 4, none⟩ = some (.int .i64 x.2.2.v) ∧ w'.cell? ⟨wr.heap.size, 4 + 1, none⟩ = some (.int .i64 x.2.2.f) ∧ w'.cell? ⟨wr.heap.size, 4 + 2, none⟩ = some (.slice a2 x.2.2.args.length c2)) ((first | (refine hS.out _ ?_; (repeat' (first | with_reducible exact Hid.out ‹Hid (Below _ _ _)› | with_reducible exact Below.refl _ _ | (with_reducible refine Below.drew ?_))); done) | exact hS7.out _ HbC.out _ _ _ _ _ _ _ | go_keep)) ((first
        | (go_at_call 153
           with_reducible refine (HA.out _ ?_).mono ?_
           · (repeat' (first | with_reducible exact Hid.out ‹Hid (Below _ _ _)› | with_reducible exact Below.refl _ _ | (with_reducible refine Below.drew ?_)))
           rintro e wA ⟨sA, BA, rfl, hoA, hnA, hrA, hbA⟩
           obtain ⟨aA, capA, rfl, _⟩ := Own_in hoA
           have HbA : Hid (Below W1.heap.size W1 wA) := by first | exact hbA | exact below_undrew hbA
           have HrA : Hid (∀ j, j ∈ BA → W1.heap.size ≤ j ∧ j < wA.heap.size) := hrA
           have HoA := hide hoA
           have HnA := hide hnA
           clear hoA hnA hrA hbA)
        | (go_at_call 153
           with_reducible refine (HB.out _ ?_).mono ?_
           · (repeat' (first | with_reducible exact Hid.out ‹Hid (Below _ _ _)› | with_reducible exact Below.refl _ _ | (with_reducible refine Below.drew ?_)))
           rintro e wB ⟨sB, BB, rfl, hoB, hnB, hrB, hbB⟩
           obtain ⟨aB, capB, rfl, _⟩ := Own_in hoB
           have HbB : Hid (Below wA.heap.size wA wB) := by first | exact hbB | exact below_undrew hbB
           have HbC := hide (HbA.out.trans (HbB.out.mono HbA.out.size))
           have HrB : Hid (∀ j, j ∈ BB → wA.heap.size ≤ j ∧ j < wB.heap.size) := hrB
           obtain ⟨v0, e0⟩ := hRow.out wB HbC.out (k * 7) (by omega)
           obtain ⟨v1, e1⟩ := hRow.out wB HbC.out (k * 7 + 1) (by omega)
           obtain ⟨v2, e2⟩ := hRow.out wB HbC.out (k * 7 + 2) (by omega)
           obtain ⟨v3, e3⟩ := hRow.out wB HbC.out (k * 7 + 3) (by omega)
           obtain ⟨v4, e4⟩ := hRow.out wB HbC.out (k * 7 + 4) (by omega)
           obtain ⟨v5, e5⟩ := hRow.out wB HbC.out (k * 7 + 5) (by omega)
           obtain ⟨v6, e6⟩ := hRow.out wB HbC.out (k * 7 + 6) (by omega)
           have f0 := hFr.out wB HbC.out (k * 7)
           have f1 := hFr.out wB HbC.out (k * 7 + 1)
           have f2 := hFr.out wB HbC.out (k * 7 + 2)
           have f3 := hFr.out wB HbC.out (k * 7 + 3)
           have f4 := hFr.out wB HbC.out (k * 7 + 4)
           have f5 := hFr.out wB HbC.out (k * 7 + 5)
           have f6 := hFr.out wB HbC.out (k * 7 + 6)
           have HoB := hide hoB
           have HnB := hide hnB
           clear hoB hnB hrB hbB)))
      have hoA2 : x.2.1.Own wB (.slice aA x.2.1.args.length capA) BA := Own_mono (fun j hj => HbB.out.block j (HrA.out j hj).2) HoA.out
      have hsA := HbA.out.size
      have hsB := HbB.out.size
      have hW1z : wr.heap.size ≤ W1.heap.size := by rw [HW1.out]; simp
      have HN := hide (HSt.out wB _ _ BA BB HbC.out hoA2 HoB.out (by
        rw [List.nodup_append]
        exact ⟨HnA.out, HnB.out, fun a ha b' hb' e => by have h1 := (HrA.out a ha).2; have h2 := (HrB.out b' hb').1; omega⟩) (fun j hj => by
        rcases List.mem_append.1 hj with h | h
        · have := HrA.out j h; omega
        · have := HrB.out j h; omega))
      clear hoA2 hsA hsB
      go_wp2_with fail
      go_roundw
      case rel => exact ⟨k + 1, _, by omega, by go_num, HN⟩
      case measure => simp [intOf]; omega
    · have hk2 : k = c.length := by omega
      subst hk2
      go_wp2_with fail
      go_ret
      exact ⟨rfl, B, HCC.out⟩
end Go.Proofs.YtbkedppkdhfpoabGreat

namespace Go.Proofs.YtbkedppkdhfpoabGreat
open Go.RowKit

theorem numsOf_mem {ps : List T} {v : Int} : v ∈ numsOf ps ↔ ∃ x, x ∈ ps ∧ x.v ≠ 0 ∧ x.v = v := by
  rw [numsOf, List.mem_map]
  constructor
  · rintro ⟨x, hx, rfl⟩
    rw [List.mem_filter] at hx
    exact ⟨x, hx.1, by simpa using hx.2, rfl⟩
  · rintro ⟨x, hx, h0, rfl⟩
    exact ⟨x, List.mem_filter.2 ⟨hx, by simpa using h0⟩, rfl⟩
theorem varsT_mem {t : T} {v : Int} : v ∈ varsT t ↔ ∃ x, x ∈ parts t ∧ x.v ≠ 0 ∧ x.v = v := by
  rw [varsT, (compact_facts _ (sort_facts _).1).2, (sort_facts _).2, allVars, lookL_cons]
  have h := (look_nums t.sz).1 t [] (Nat.le_refl _)
  rw [h]
  show v ∈ [] ++ numsOf (parts t) ↔ _
  rw [List.nil_append, numsOf_mem]
theorem part_v {ar : List Int} {t x : T} (ht : okP ar t) (hx : x ∈ parts t) (hv : x.v ≠ 0) : 1 ≤ x.v ∧ x.v ≤ 1000 := by
  have h1 := (parts_ok (ar := ar) t.sz).1 t (Nat.le_refl _) ht x hx
  rw [partErr, if_pos hv] at h1
  by_cases h2 : x.v < 1 ∨ 1000 < x.v
  · rw [if_pos h2] at h1; cases h1
  · omega
/-- What Value answers. -/
def valueS (ar : List Int) (n : Int) (ls : List (List Int)) (t : T) (zs : List Int) : Int × Int :=
  if modelErr ar n ls = 0 then (if allErr ar [t] = 0 then (if (varsT t).all (fun v => decide (v ≤ (zs.length : Int))) then (if allT n zs then (valT n ls (fun k => zs.getD (k - 1).toNat 0) t, 0) else (0, 5)) else (0, 1)) else (0, allErr ar [t])) else (0, modelErr ar n ls)
theorem all_stepI {p : Int → Bool} {l : List Int} {k : Nat} (hk : k < l.length) (h : (l.take k).all p = true) : (p (l.getD k 0) = true → (l.take (k + 1)).all p = true) ∧ (p (l.getD k 0) = false → l.all p = false) := by
  have hg : l.getD k 0 = l[k] := by rw [List.getD_eq_getElem?_getD, List.getElem?_eq_getElem hk]; rfl
  constructor
  · intro h1
    rw [List.take_add_one, List.getElem?_eq_getElem hk, List.all_append, h, ← hg]
    simpa using h1
  · intro h1
    rw [List.all_eq_false]
    exact ⟨l[k], List.getElem_mem hk, by rw [← hg, h1]; decide⟩
/-- Which thing each of some variables is. -/
def givenBy (zs : List Int) (vs : List Int) (k : Int) : Option Int := if k ∈ vs then some (zs.getD (k - 1).toNat 0) else none
theorem givenBy_step {zs vs : List Int} {k : Nat} (hk : k < vs.length) (j : Int) : givenBy zs (vs.take (k + 1)) j = if j = vs.getD k 0 then some (zs.getD (vs.getD k 0 - 1).toNat 0) else givenBy zs (vs.take k) j := by
  rw [givenBy, givenBy]
  by_cases e : j = vs.getD k 0
  · rw [if_pos e, if_pos ((mem_take_succ hk).2 (Or.inr e.symm)), e]
  · rw [if_neg e]
    have h : (j ∈ vs.take (k + 1)) ↔ j ∈ vs.take k := by
      rw [mem_take_succ hk]
      exact ⟨fun h => h.resolve_right (fun h => e h.symm), Or.inl⟩
    simp only [h]

set_option maxRecDepth 100000 in
set_option maxHeartbeats 1000000 in
theorem Value_any (ar : List Int) (ga : Option Addr) (gcap : Nat) (n : Int) (ls : List (List Int)) (ta : Option Addr) (tc : Nat) (t : T) (a : Option Addr) (cap : Nat) (zs : List Int) (va : Option Addr) (vc : Nat) (w : World) (hg : Ints w ar ga) (ht : TabsP w ls ta) (hin : InL w t.args a) (hv : Ints w zs va) (hzl : zs.length ≤ 9223372036854775807) :
    Calls Tryz.prog 65 #[.agg #[.slice ga ar.length gcap], .agg #[.int .i64 n, .slice ta ls.length tc], .agg #[.int .i64 t.v, .int .i64 t.f, .slice a t.args.length cap], .slice va zs.length vc] w fun e w' => e = .returned (.tuple #[.int .i64 (valueS ar n ls t zs).1, .int .i64 (valueS ar n ls t zs).2]) ∧ Below w.heap.size w w' := by
  obtain ⟨W3, hW3⟩ : ∃ W3, W3 = ((w.alloc (.cells #[.slice ga ar.length gcap] 24)).alloc (.cells #[.int .i64 n, .slice ta ls.length tc] 43)).alloc (.cells #[.int .i64 t.v, .int .i64 t.f, .slice a t.args.length cap] 77) := ⟨_, rfl⟩
  have hb3 : Below w.heap.size w W3 := by rw [hW3]; exact below3 _ _ _ _
  have hz3 : W3.heap.size = w.heap.size + 3 := by rw [hW3]; simp
  have cg : W3.cell? ⟨w.heap.size, 0, none⟩ = some (.slice ga ar.length gcap) := by rw [hW3, cell_alloc_lt (by simp; omega), cell_alloc_lt (by simp)]; exact cell_new 0 rfl
  have cn : W3.cell? ⟨w.heap.size + 1, 0, none⟩ = some (.int .i64 n) := by rw [hW3, cell_alloc_lt (by simp)]; exact cell_new 0 (by simp)
  have ct : W3.cell? ⟨w.heap.size + 1, 1, none⟩ = some (.slice ta ls.length tc) := by rw [hW3, cell_alloc_lt (by simp)]; exact cell_new 1 (by simp)
  have h3 : Three W3 (w.heap.size + 1 + 1) (.int .i64 t.v) (.int .i64 t.f) (.slice a t.args.length cap) := by rw [hW3]; exact Three.new 77 (by simp)
  obtain ⟨V, hV⟩ : ∃ V, V = valueS ar n ls t zs := ⟨_, rfl⟩
  rw [← hV]
  have HV := hide hV
  obtain ⟨E, hE⟩ : ∃ E, E = modelErr ar n ls := ⟨_, rfl⟩
  have H1 := hide (mCheck_any ar ga gcap n ls ta tc W3 (Ints_below hb3 hg) (TabsP_below hb3 ht))
  rw [← hE] at H1
  have HE := hide hE
  have Hg := hide hg
  have Ht := hide ht
  have Hin := hide hin
  have Hv := hide hv
  have HW3 := hide hW3
  have Hb3 := hide hb3
  have H3 := hide h3
  have hmm := @run_makeMap Tryz.prog
  clear hV hE hg ht hin hv hW3 hb3 h3
  go_enter Tryz.func65, Tryz.ntmps65
  go_wp2_with fail
  rw [← HW3.out]
  refine H1.out.mono ?_
  rintro e w1 ⟨rfl, hb1⟩
  have hz1 := hb1.size
  have cg1 := cellB hb1 cg
  have cn1 := cellB hb1 cn
  have ct1 := cellB hb1 ct
  have H31 := hide (H3.out.below hb1)
  have Hb1 := hide (Hb3.out.trans (hb1.mono (by omega)))
  clear hb1 H1 cg cn ct HW3 H3
  by_cases h0 : E = 0
  · have HV1 : Hid (V = if allErr ar [t] = 0 then (if (varsT t).all (fun v => decide (v ≤ (zs.length : Int))) then (if allT n zs then (valT n ls (fun k => zs.getD (k - 1).toNat 0) t, 0) else (0, 5)) else (0, 1)) else (0, allErr ar [t])) := by show _ = _; rw [HV.out, valueS, if_pos (HE.out.symm.trans h0)]
    have Hmo := hide (MOk.of (HE.out.symm.trans h0))
    subst h0
    obtain ⟨F, hF⟩ : ∃ F, F = allErr ar [t] := ⟨_, rfl⟩
    have HVa := hide (Vars_any ar ga gcap t a cap w1 (Ints_below Hb1.out Hg.out) (InP_below Hb1.out Hin.out) (fun h => ((allErr_iff.1 h).2 t (by simp)).1))
    rw [← hF] at HVa HV1
    have HF := hide hF
    obtain ⟨t0, t1, t2, _, _, _⟩ := H31.out
    have Hcn := hide cn1
    have Hct := hide ct1
    clear HV HE hF
    go_wp2_with fail
    refine HVa.out.mono ?_
    rintro e w2 ⟨⟨va2, vc2, rfl, hI2⟩, hb2⟩
    have hz2 := hb2.size
    have cn2 := cellB hb2 cn1
    have ct2 := cellB hb2 ct1
    have H32 := hide (H31.out.below hb2)
    have Hb2 := hide (Hb1.out.trans (hb2.mono Hb1.out.size))
    clear HVa t0 t1 t2 cg1 hb2 cn1 ct1 Hcn Hct H31
    by_cases hF0 : F = 0
    · have HV2 : Hid (V = if (varsT t).all (fun v => decide (v ≤ (zs.length : Int))) then (if allT n zs then (valT n ls (fun k => zs.getD (k - 1).toNat 0) t, 0) else (0, 5)) else (0, 1)) := by show _ = _; rw [HV1.out, if_pos hF0]
      have hto := (allErr_iff.1 (HF.out.symm.trans hF0)).2 t (by simp)
      have hvs : varsSpec ar t = varsT t := by rw [varsSpec, if_pos (HF.out.symm.trans hF0)]
      rw [hvs] at hI2 ⊢
      have Hto := hide hto
      have hvl : (varsT t).length ≤ 1000 := by
        have h1 := compact_le ((allVars t).mergeSort fun x y => decide (x ≤ y))
        rw [List.length_mergeSort] at h1
        have h2 := allVars_le t
        have h3 := hto.1
        show (Lib.compact _).length ≤ 1000
        omega
      have Hvm : Hid (∀ v, v ∈ varsT t → 1 ≤ v ∧ v ≤ 1000) := fun v hv => by
        obtain ⟨x, hx, hx0, rfl⟩ := varsT_mem.1 hv
        exact part_v hto.2 hx hx0
      obtain ⟨vs, hvse⟩ : ∃ vs, vs = varsT t := ⟨_, rfl⟩
      rw [← hvse] at hI2 hvl Hvm HV2 ⊢
      have Hvs := hide hvse
      have HI2 := hide hI2
      have Hcn := hide cn2
      have Hct := hide ct2
      subst hF0
      clear hI2 hto hvs HV1 HF hvse
      go_wp2_with fail
      go_loopw [34] (fun i wr => ∃ (k : Nat), k ≤ vs.length ∧ i = .int .i64 k ∧ IsAt wr w2.heap.size k (givenBy zs (vs.take k)) ∧ Hid ((vs.take k).all (fun v => decide (v ≤ (zs.length : Int))) = true) ∧ Hid (Below w2.heap.size w2 wr)) (fun i _ => vs.length - (intOf i).toNat)
      case atStart => exact ⟨0, Nat.zero_le _, rfl, MapAt.congr (MapAt.made w2) (fun k => by simp [givenBy]), rfl, below1 _ _⟩
      case round =>
        obtain ⟨k, hk, rfl, hM, Hk, Hbr⟩ := hrel
        have hzr := Hbr.out.size
        have HM := hide hM
        have hMl := MapAt.lt hM
        have Hbw := hide (Hb2.out.trans (Hbr.out.mono Hb2.out.size))
        clear hM hmm
        by_cases hlt : k < vs.length
        · obtain ⟨vb, voff, rfl, hvc⟩ := Ints_some (Ints_below Hbr.out HI2.out) (by omega)
          have ck := hvc k hlt
          have hgk : vs.getD k 0 = vs[k] := by rw [List.getD_eq_getElem?_getD, List.getElem?_eq_getElem hlt]; rfl
          have hvr := Hvm.out (vs.getD k 0) (by rw [hgk]; exact List.getElem_mem hlt)
          have Hst := hide (all_stepI (p := fun v => decide (v ≤ (zs.length : Int))) hlt Hk.out)
          have Hgs := hide (fun j => givenBy_step (zs := zs) hlt j)
          have hkI : (k : Int) < vs.length := by omega
          have hk0 : (0 : Int) ≤ k := by omega
          clear hvc hgk Hk
          generalize vs.getD k 0 = v at *
          by_cases hvz : v ≤ (zs.length : Int)
          · have hvn : ¬ (zs.length : Int) < v := by omega
            have Hn := hide (Hst.out.1 (decide_eq_true hvz))
            obtain ⟨zb, zoff, rfl, hzc⟩ := Ints_some (Ints_below Hbw.out Hv.out) (by omega)
            have cz := hzc (v - 1).toNat (by omega)
            obtain ⟨q, hq⟩ : ∃ q : Nat, v = (q : Int) + 1 := ⟨(v - 1).toNat, by omega⟩
            obtain ⟨u, hu⟩ : ∃ u, u = zs.getD (v - 1).toNat 0 := ⟨_, rfl⟩
            rw [← hu] at cz Hgs
            rw [show (v - 1).toNat = q by omega] at cz
            have hs1 : v - 1 = (q : Int) := by omega
            have hqI : (q : Int) < zs.length := by omega
            have hq0 : (0 : Int) ≤ q := by omega
            obtain ⟨hv1, hv2⟩ := hvr
            clear hq hu hzc Hst
            go_wp2_with (at_mapUpdate; refine wpList_store_map _ rfl _ _ _ 107 rfl 3 Tryz.under81 w2.heap.size k (fun j => (givenBy zs (vs.take k) j).map (Value.int .i64)) rfl HM.out (by unfold maxLen; omega) v (.int .i64 u) (by first | rfl | simp [go_sem]) (by first | rfl | simp [go_sem]) (by omega) (by omega) ?_; intro w5 hM5 hg5)
            have hM6 : IsAt w5 w2.heap.size (k + 1) (givenBy zs (vs.take (k + 1))) := MapAt.congr hM5 (fun j => by
              rw [Hgs.out j]
              by_cases e : j = v
              · rw [if_pos e, if_pos e]; rfl
              · rw [if_neg e, if_neg e])
            have Hb5 : Hid (Below w2.heap.size w2 w5) := Hbr.out.grown hg5 (by omega) (fun j hj => by cases hj; exact Nat.le_refl _)
            clear hM5 hg5 Hgs
            go_wp2_with fail
            go_roundw
            case rel => exact ⟨k + 1, by omega, by go_num, hM6, Hn, Hb5⟩
            case measure => simp [intOf]; omega
          · have hvn : (zs.length : Int) < v := by omega
            have hfa := Hst.out.2 (decide_eq_false hvz)
            obtain rfl : V = (0, 1) := by rw [HV2.out, hfa]; simp
            clear Hst hfa HV2 Hgs
            go_wp2_with fail
            go_ret2
            exact ⟨rfl, Hbw.out⟩
        · have hk2 : k = vs.length := by omega
          subst hk2
          rw [List.take_length] at Hk HM
          have HV3 : Hid (V = if allT n zs then (valT n ls (fun k => zs.getD (k - 1).toNat 0) t, 0) else (0, 5)) := by show _ = _; rw [HV2.out, Hk.out]; simp
          have cnr := cellB Hbr.out Hcn.out
          have Hctr := hide (cellB Hbr.out Hct.out)
          have HAl := hide (allThings_any n zs va vc wr (Ints_below Hbw.out Hv.out) hzl)
          clear HV2
          go_wp2_with fail
          refine HAl.out.mono ?_
          rintro e w6 ⟨rfl, hb6⟩
          have Hb6 := hide (Hbw.out.trans (hb6.mono Hbw.out.size))
          have cn6 := cellB hb6 cnr
          have ct6 := cellB hb6 Hctr.out
          obtain ⟨s0, s1, s2, _, _, _⟩ := (H32.out.below Hbr.out).below hb6
          have HM6 := hide (IsAt.below HM.out hb6)
          clear hb6 HAl cnr
          cases hA : allT n zs with
          | false =>
            rw [hA] at HV3
            obtain rfl : V = (0, 5) := by rw [HV3.out]; simp
            clear HV3 hA
            go_wp2_with fail
            go_ret2
            exact ⟨rfl, Hb6.out⟩
          | true =>
            rw [hA] at HV3
            have hV4 : V = (valT n ls (fun k => zs.getD (k - 1).toNat 0) t, 0) := by rw [HV3.out]; simp
            have hfr : ∀ x, x ∈ parts t → x.v ≠ 0 → givenBy zs vs x.v = some (zs.getD (x.v - 1).toNat 0) ∧ 0 ≤ zs.getD (x.v - 1).toNat 0 ∧ zs.getD (x.v - 1).toNat 0 < n := fun x hx h0 => by
              have hm : x.v ∈ vs := by rw [Hvs.out]; exact varsT_mem.2 ⟨x, hx, h0, rfl⟩
              have hle : x.v ≤ (zs.length : Int) := by
                have h9 := List.all_eq_true.1 Hk.out x.v hm
                simpa using h9
              have hr := part_v Hto.out.2 hx h0
              rw [givenBy, if_pos hm]
              refine ⟨rfl, ?_⟩
              have hlt9 : (x.v - 1).toNat < zs.length := by omega
              have hg9 : zs.getD (x.v - 1).toNat 0 = zs[(x.v - 1).toNat] := by rw [List.getD_eq_getElem?_getD, List.getElem?_eq_getElem hlt9]; rfl
              rw [allT, List.all_eq_true] at hA
              have h8 := hA zs[(x.v - 1).toNat] (List.getElem_mem hlt9)
              rw [hg9]
              simpa using h8
            have hvc := val_congr (n := n) (ls := ls) (f := fun k => (givenBy zs vs k).getD 0) (g := fun k => zs.getD (k - 1).toNat 0) t.sz t (Nat.le_refl _) (fun x hx h0 => by show (givenBy zs vs x.v).getD 0 = _; rw [(hfr x hx h0).1]; rfl)
            have HVP := hide (valueP_any Hmo.out ta tc w2.heap.size vs.length (givenBy zs vs) t.sz t a cap w6 (Nat.le_refl _) Hto.out.2 (fun x hx h0 => by rw [(hfr x hx h0).1]; exact (hfr x hx h0).2) HM6.out (TabsP_below Hb6.out Ht.out) (InP_below Hb6.out Hin.out))
            rw [hvc] at HVP
            obtain ⟨U, hU⟩ : ∃ U, U = valT n ls (fun k => zs.getD (k - 1).toNat 0) t := ⟨_, rfl⟩
            rw [← hU] at HVP hV4
            subst hV4
            clear HV3 hA hfr hvc hU
            go_wp2_with fail
            refine HVP.out.mono ?_
            rintro e w7 ⟨rfl, hb7⟩
            have Hb7 := hide (Hb6.out.trans (hb7.mono Hb6.out.size))
            clear hb7 HVP
            go_wp2_with fail
            go_ret2
            exact ⟨rfl, Hb7.out⟩
    · have hFb : (F != 0) = true := by simpa using hF0
      obtain rfl : V = (0, F) := by rw [HV1.out, if_neg hF0]
      clear HV1 HF hF0 hI2
      go_wp2_with fail
      go_ret2
      exact ⟨rfl, Hb2.out⟩
  · have h0b : (E != 0) = true := by simpa using h0
    obtain rfl : V = (0, E) := by rw [HV.out, valueS, if_neg (fun h => h0 (HE.out.trans h)), HE.out]
    clear HV HE h0
    go_wp2_with fail
    go_ret2
    exact ⟨rfl, Hb1.out⟩

end Go.Proofs.YtbkedppkdhfpoabGreat

namespace Go.Proofs.YtbkedppkdhfpoabGreat
open Go.RowKit

/-- One variable is another thing. -/
def updI (g : Int → Option Int) (v i : Int) : Int → Option Int := fun k => if k = v then some i else g k
/-- Is it so, whichever things these variables are? -/
def allV (n : Int) (G : (Int → Option Int) → Bool) : List Int → (Int → Option Int) → Bool
  | [], g => G g
  | v :: vs, g => (List.range n.toNat).all (fun i => allV n G vs (updI g v (i : Int)))
theorem allV_congr {n : Int} {G : (Int → Option Int) → Bool} : ∀ {vs : List Int} {g1 g2 : Int → Option Int}, (∀ k, k ∉ vs → g1 k = g2 k) → allV n G vs g1 = allV n G vs g2 := by
  intro vs
  induction vs with
  | nil =>
    intro g1 g2 h
    have : g1 = g2 := funext (fun k => h k (by simp))
    rw [this]
  | cons v vs ih =>
    intro g1 g2 h
    rw [allV, allV]
    have hh : (fun i : Nat => allV n G vs (updI g1 v (i : Int))) = (fun i : Nat => allV n G vs (updI g2 v (i : Int))) := funext (fun i => ih (fun k hk => by
      rw [updI, updI]
      by_cases e : k = v
      · rw [if_pos e, if_pos e]
      · rw [if_neg e, if_neg e]; exact h k (by simp [e, hk])))
    rw [hh]
def costV : Nat → Nat
  | 0 => 0
  | k + 1 => 3 * (1 + costV k)
/-- What always leans on: where it lies, ahead of the map. -/
structure AB (ar : List Int) (n : Int) (ls : List (List Int)) (ta : Option Addr) (tc b bi bm bc : Nat) (c : List Lit) (ca : Option Addr) (cc : Nat) (W0 : World) : Prop where
  mo : MOk ar n ls
  ok : LitsOk ar c
  len : c.length ≤ 8
  tabs : TabsP W0 ls ta
  lits : LitsP W0 c ca
  cn : W0.cell? ⟨bm, 0, none⟩ = some (.int .i64 n)
  ct : W0.cell? ⟨bm, 1, none⟩ = some (.slice ta ls.length tc)
  cc : W0.cell? ⟨bc, 0, none⟩ = some (.slice ca c.length cc)
  hb : W0.heap.size ≤ b
  ne : bi ≠ b
/-- What stands of it later. -/
structure AW (n : Int) (b bi : Nat) (W0 w : World) (m : Nat) (g : Int → Option Int) : Prop where
  below : Below W0.heap.size W0 w
  rng : ∀ k, 0 ≤ (g k).getD 0 ∧ (g k).getD 0 < n
  map : IsAt w b m g
  ci : w.cell? ⟨bi, 0, none⟩ = some (.map (some b))
theorem AB.hs {ar : List Int} {n : Int} {ls : List (List Int)} {ta : Option Addr} {tc b bi bm bc : Nat} {c : List Lit} {ca : Option Addr} {cc : Nat} {W0 w : World} {m : Nat} {g : Int → Option Int} (h : AB ar n ls ta tc b bi bm bc c ca cc W0) (a : AW n b bi W0 w m g) : HS ar n ls ta tc b bi bm c ca w m g :=
  ⟨h.mo, h.ok, h.len, a.rng, a.map, TabsP_below a.below h.tabs, LitsP_below a.below h.lits, a.ci, cellB a.below h.cn, cellB a.below h.ct⟩
theorem AW.bel {n : Int} {b bi : Nat} {W0 w w' : World} {m : Nat} {g : Int → Option Int} (a : AW n b bi W0 w m g) (hb : Below w.heap.size w w') : AW n b bi W0 w' m g :=
  ⟨a.below.trans (hb.mono a.below.size), a.rng, a.map.below hb, cellB hb a.ci⟩
theorem AW.put {n : Int} {b bi : Nat} {W0 w w' : World} {m : Nat} {g : Int → Option Int} (a : AW n b bi W0 w m g) (hW : W0.heap.size ≤ b) (ne : bi ≠ b) {v i : Int} (hi0 : 0 ≤ i) (hi : i < n) (hM : IsAt w' b (m + 1) (updI g v i)) (hg : w.grownBy w' (some b)) : AW n b bi W0 w' (m + 1) (updI g v i) := by
  refine ⟨a.below.grown hg a.below.size (fun k hk => by cases hk; exact hW), fun k => ?_, hM, ?_⟩
  · rw [updI]
    by_cases e : k = v
    · rw [if_pos e]; exact ⟨hi0, hi⟩
    · rw [if_neg e]; exact a.rng k
  · rw [World.cell?_of_block (w := w) (a := ⟨bi, 0, none⟩) (hg.block bi (lt_of_cell a.ci) (fun e => by cases e; exact ne rfl))]; exact a.ci
theorem eg69 (args : Array Value) (w : World) : (callFunc 69 args).run Tryz.prog w = .ok (.enter 69 args) w := by kernel_rfl
theorem range_step {p : Nat → Bool} {k N : Nat} (hk : k < N) (h : (List.range k).all p = true) : (p k = true → (List.range (k + 1)).all p = true) ∧ (p k = false → (List.range N).all p = false) := by
  constructor
  · intro h1
    rw [List.range_succ, List.all_append, h]
    simpa using h1
  · intro h1
    rw [List.all_eq_false]
    exact ⟨k, List.mem_range.2 hk, by rw [h1]; decide⟩

set_option maxRecDepth 100000 in
set_option maxHeartbeats 1000000 in
theorem always_any {ar : List Int} {n : Int} {ls : List (List Int)} {ta : Option Addr} {tc b bi bm bc : Nat} {c : List Lit} {ca : Option Addr} {cc : Nat} {W0 : World} (h : AB ar n ls ta tc b bi bm bc c ca cc W0) : ∀ (vs : List Int) (va : Option Addr) (vc : Nat) (w : World) (m : Nat) (g : Int → Option Int), AW n b bi W0 w m g → Ints W0 vs va → vs.length ≤ vc → vs.length ≤ 1000 → (∀ v, v ∈ vs → 1 ≤ v ∧ v ≤ 1000) → m + costV vs.length ≤ 1000000 →
    Calls Tryz.prog 68 #[.map (some b), .int .i64 n, .slice va vs.length vc, .func (.func 69) #[] #[.pointer (some ⟨bc, 0, none⟩), .pointer (some ⟨bi, 0, none⟩), .pointer (some ⟨bm, 0, none⟩)]] w fun e w' => e = .returned (.bool (allV n (fun g => clHolds n ls (fun k => (g k).getD 0) c) vs g)) ∧ ∃ m' g', AW n b bi W0 w' m' g' ∧ m' ≤ m + costV vs.length ∧ ∀ k, k ∉ vs → g' k = g k := by
  intro vs
  induction vs with
  | nil =>
    intro va vc w m g ha _ _ _ _ _
    have eg := eg69
    have HC := hide (holdsC1_any (h.hs ha) cc bc (cellB ha.below h.cc))
    have Ha := hide ha
    clear ha h
    go_enter Tryz.func68, Tryz.ntmps68
    go_wp2_with fail
    refine HC.out.mono ?_
    rintro e w' ⟨rfl, hb'⟩
    have Hf : Hid (∃ m' g', AW n b bi W0 w' m' g' ∧ m' ≤ m + costV 0 ∧ ∀ k, k ∉ ([] : List Int) → g' k = g k) := ⟨m, g, Ha.out.bel hb', Nat.le_refl _, fun _ _ => rfl⟩
    clear hb'
    go_wp2_with fail
    go_ret
    exact ⟨rfl, Hf.out⟩
  | cons v vs ih =>
    intro va vc w m g ha hI hvc hvl hvm hmc
    have Hih := hide ih
    have H := hide h
    have Ha := hide ha
    have hvr := hvm v (by simp)
    have Hvm := hide (fun x hx => hvm x (List.mem_cons_of_mem v hx))
    obtain ⟨vb, voff, rfl, hc0⟩ := Ints_some hI (by simp)
    have cv0 : W0.cell? ⟨vb, voff, none⟩ = some (.int .i64 v) := by have := hc0 0 (by simp); simpa using this
    have hl1 : (v :: vs).length = vs.length + 1 := by simp
    rw [hl1] at hvc hvl hmc
    obtain ⟨pa', hsl, hpt⟩ := tail_any hI hvc
    have Hpt := hide hpt
    have Hcv := hide cv0
    have hlo := h.mo.lo
    have hhi := h.mo.hi
    have hWb := h.hb
    have hne := h.ne
    have hcs : costV (vs.length + 1) = 3 * (1 + costV vs.length) := rfl
    rw [hcs] at hmc
    have hne0 : (((vs.length + 1 : Nat) : Int) == 0) = false := by rw [beq_eq_false_iff_ne]; omega
    have hne1 : ((vs.length : Int) + 1 == 0) = false := by rw [beq_eq_false_iff_ne]; omega
    obtain ⟨G, hG⟩ : ∃ G, G = fun g : Int → Option Int => clHolds n ls (fun k => (g k).getD 0) c := ⟨_, rfl⟩
    rw [← hG] at Hih ⊢
    rw [hl1]
    obtain ⟨N, hN⟩ := Int.eq_ofNat_of_zero_le (show 0 ≤ n by omega)
    have HN := hide hN
    obtain ⟨Z, hZ⟩ : ∃ Z, Z = allV n G (v :: vs) g := ⟨_, rfl⟩
    rw [← hZ]
    have HZ : Hid (Z = (List.range N).all (fun i => allV n G vs (updI g v (i : Int)))) := by show _ = _; rw [hZ, allV, hN]; rfl
    clear ih h ha hI hvm hc0 hpt hG hl1 hcs hZ cv0 hN
    go_enter Tryz.func68, Tryz.ntmps68
    go_wp2_with fail
    go_loopw [16] (fun i wr => ∃ (k mk : Nat) (gk : Int → Option Int), k ≤ N ∧ i = .int .i64 k ∧ Hid ((List.range k).all (fun i => allV n G vs (updI g v (i : Int))) = true) ∧ Hid (AW n b bi W0 wr mk gk) ∧ mk ≤ m + k * (1 + costV vs.length) ∧ Hid (∀ j, j ∉ v :: vs → gk j = g j)) (fun i _ => N - (intOf i).toNat)
    case atStart => exact ⟨0, m, g, Nat.zero_le _, rfl, rfl, Ha, by omega, fun _ _ => rfl⟩
    case round =>
      obtain ⟨k, mk, gk, hk, rfl, Hk, Haw, hmk, Hag⟩ := hrel
      by_cases hlt : k < N
      · have hkn : (k : Int) < n := by have := HN.out; omega
        have hk0 : (0 : Int) ≤ k := by omega
        have cv := cellB Haw.out.below Hcv.out
        have hk3 : k ≤ 2 := by have := HN.out; omega
        have hmk2 : k * (1 + costV vs.length) ≤ 2 * (1 + costV vs.length) := Nat.mul_le_mul_right _ hk3
        have hstep : (k + 1) * (1 + costV vs.length) = k * (1 + costV vs.length) + (1 + costV vs.length) := Nat.succ_mul _ _
        have Hst := hide (range_step (p := fun i => allV n G vs (updI g v (i : Int))) hlt Hk.out)
        have Hcg : Hid (allV n G vs (updI gk v (k : Int)) = allV n G vs (updI g v (k : Int))) := allV_congr (fun j hj => by
          rw [updI, updI]
          by_cases e : j = v
          · rw [if_pos e, if_pos e]
          · rw [if_neg e, if_neg e]; exact Hag.out j (by simp [e, hj]))
        obtain ⟨hv1, hv2⟩ := hvr
        clear Hk
        go_wp2_with (at_mapUpdate; refine wpList_store_map _ rfl _ _ _ 107 rfl 3 Tryz.under81 b mk (fun j => (gk j).map (Value.int .i64)) rfl Haw.out.map (by unfold maxLen; omega) v (.int .i64 (k : Int)) (by first | rfl | simp [go_sem]) (by first | rfl | simp [go_sem]) (by omega) (by omega) ?_; intro w5 hM5 hg5)
        have hM6 : IsAt w5 b (mk + 1) (updI gk v (k : Int)) := MapAt.congr hM5 (fun j => by
          rw [updI]
          by_cases e : j = v
          · rw [if_pos e, if_pos e]; rfl
          · rw [if_neg e, if_neg e])
        have Ha5 := hide (Haw.out.put hWb hne hk0 hkn hM6 hg5)
        have HR := hide (Hih.out pa' (vc - 1) w5 (mk + 1) (updI gk v (k : Int)) Ha5.out Hpt.out (by omega) (by omega) Hvm.out (by omega))
        rw [Hcg.out] at HR
        obtain ⟨D, hD⟩ : ∃ D, D = allV n G vs (updI g v (k : Int)) := ⟨_, rfl⟩
        rw [← hD] at HR Hst
        clear hM5 hg5 hM6 Hcg hD cv
        go_wp2_with fail
        refine HR.out.mono ?_
        rintro e w6 ⟨rfl, m6, g6, ha6, hm6, hg6⟩
        have Hag6 : Hid (∀ j, j ∉ v :: vs → g6 j = g j) := fun j hj => by
          rw [hg6 j (fun h => hj (List.mem_cons_of_mem v h)), updI, if_neg (fun e => hj (by rw [e]; simp))]
          exact Hag.out j hj
        have Ha6 := hide ha6
        clear hg6 ha6 HR Ha5 Haw Hag
        cases D
        · obtain rfl : Z = false := by rw [HZ.out]; exact Hst.out.2 rfl
          have Hf : Hid (∃ m' g', AW n b bi W0 w6 m' g' ∧ m' ≤ m + costV (vs.length + 1) ∧ ∀ j, j ∉ v :: vs → g' j = g j) := ⟨m6, g6, Ha6.out, by
            show m6 ≤ m + 3 * (1 + costV vs.length)
            omega, Hag6.out⟩
          clear Ha6 Hag6 Hst hmk hm6
          go_wp2_with fail
          go_ret
          exact ⟨rfl, by simpa using Hf.out⟩
        · have Hk' : Hid ((List.range (k + 1)).all (fun i => allV n G vs (updI g v (i : Int))) = true) := Hst.out.1 rfl
          clear Hst
          go_wp2_with fail
          go_roundw
          case rel => exact ⟨k + 1, m6, g6, by omega, by go_num, Hk', Ha6, by omega, Hag6⟩
          case measure => simp [intOf]; omega
      · have hk2 : k = N := by omega
        subst hk2
        have hkn : ¬ (k : Int) < n := by have := HN.out; omega
        obtain rfl : Z = true := by rw [HZ.out, Hk.out]
        have Hf : Hid (∃ m' g', AW n b bi W0 wr m' g' ∧ m' ≤ m + costV (vs.length + 1) ∧ ∀ j, j ∉ v :: vs → g' j = g j) := ⟨mk, gk, Haw.out, by
          have h1 : k ≤ 3 := by have := HN.out; omega
          have h2 : k * (1 + costV vs.length) ≤ 3 * (1 + costV vs.length) := Nat.mul_le_mul_right _ h1
          show mk ≤ m + 3 * (1 + costV vs.length)
          omega, Hag.out⟩
        clear Hk Haw hmk Hag
        go_wp2_with fail
        go_ret
        exact ⟨rfl, by simpa using Hf.out⟩

end Go.Proofs.YtbkedppkdhfpoabGreat
