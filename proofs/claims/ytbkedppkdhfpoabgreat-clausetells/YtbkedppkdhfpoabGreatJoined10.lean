/- Lists of ways: joined, and those that agree. Lists of ways: those that agree with one. Lists of ways: can one be taken of each, so that all agree? Lists of ways: can one be taken of each, so that all agree? As the program asks it. Numbers in a row of the call's own: sorted, made each once; the variables of a term so. Clauses: in how many literals each variable stands. -/
import Derived.Deep.DrawnRows
import Derived.Deep.RegionHeld3
import Derived.Test.YtbkedppkdhfpoabGreatJoined9
namespace Go.Proofs.YtbkedppkdhfpoabGreat
open Go.RowKit Go.Maps

theorem KidsE_one {α : Type} {E : α → Value → Prop} (h1 : ∀ x v, E x v → v.oneCell' = true) {l : List α} : ∀ {xs : List Value}, KidsE E l xs → ∀ u, u ∈ xs → u.oneCell' = true := by
  induction l with
  | nil => intro xs h u hu; rw [show xs = [] from h] at hu; cases hu
  | cons x l ih =>
    intro xs h u hu
    obtain ⟨v, rest, rfl, h0, h⟩ := h
    rcases List.mem_cons.1 hu with rfl | hu
    · exact h1 x _ h0
    · exact ih h u hu
/-- A row of lists, to be joined. -/
structure RowS (p : Nat → Prop) (w : World) (v : Value) (Ls : List (List Way)) (xs : List Value) : Prop where
  src : SrcE w v Ls.length xs
  kid : KidsE (ListV p w) Ls xs
theorem SrcE_below {w w' : World} {x : Value} {m : Nat} {news : List Value} (hb : Below w.heap.size w w') (h : SrcE w x m news) : SrcE w' x m news := by
  rcases h with h | ⟨b, off, c, h1, h2, h3, h4⟩
  · exact Or.inl h
  · exact Or.inr ⟨b, off, c, h1, h2, fun j u hu => cell_below hb (h3 j u hu), h4⟩
theorem ListV_one : ∀ {p : Nat → Prop} {w : World} (x : List Way) (v : Value), ListV p w x v → v.oneCell' = true := fun _ _ h => by obtain ⟨a, cap, rfl, _⟩ := h; rfl
/-- A part of a row. -/
theorem rowS_take {p : Nat → Prop} {w : World} {Ls : List (List Way)} {b off cap : Nat} (k : Nat) (hk : k ≤ Ls.length) (h : RowE p (ListV p w) w Ls (some ⟨b, off, none⟩)) : ∃ xs, RowS p w (.slice (some ⟨b, off, none⟩) k cap) (Ls.take k) xs := by
  rcases h with h | ⟨b', off', xs, h1, _, h2, h3⟩
  · subst h
    obtain rfl : k = 0 := by simpa using hk
    exact ⟨[], ⟨Or.inr ⟨b, off, cap, rfl, rfl, fun j u hu => by simp at hu, fun u hu => by cases hu⟩, rfl⟩⟩
  · injection h1 with h1
    injection h1 with e1 e2 e3
    subst e1 e2
    have h4 := (KidsE_take k h2).1
    have h5 := KidsE_len h4
    have h6 : (Ls.take k).length = k := by rw [List.length_take]; omega
    refine ⟨xs.take k, ⟨Or.inr ⟨b, off, cap, by rw [h6], h5, fun j u hu => ?_, KidsE_one ListV_one h4⟩, h4⟩⟩
    have hj : j < k := by
      have := (List.getElem?_eq_some_iff.1 hu).1
      rw [h5, h6] at this
      exact this
    rw [List.getElem?_take_of_lt hj] at hu
    exact h3 j u hu
theorem rowS_drop {p : Nat → Prop} {w : World} {Ls : List (List Way)} {b off cap : Nat} (k : Nat) (hk : k < Ls.length) (h : RowE p (ListV p w) w Ls (some ⟨b, off, none⟩)) : ∃ xs, RowS p w (.slice (some ⟨b, off + k, none⟩) (Ls.length - k) cap) (Ls.drop k) xs := by
  rcases h with h | ⟨b', off', xs, h1, _, h2, h3⟩
  · subst h; simp at hk
  · injection h1 with h1
    injection h1 with e1 e2 e3
    subst e1 e2
    have h4 := (KidsE_take k h2).2
    have h5 := KidsE_len h4
    refine ⟨xs.drop k, ⟨Or.inr ⟨b, off + k, cap, by rw [List.length_drop], h5, fun j u hu => ?_, KidsE_one ListV_one h4⟩, h4⟩⟩
    rw [List.getElem?_drop] at hu
    rw [Nat.add_assoc]
    exact h3 (k + j) u hu
attribute [local go_sem ↓] Go.wp_at_zero Go.wp_at_succ
set_option maxRecDepth 100000 in
set_option maxHeartbeats 1000000 in
theorem concatL_any (p : Nat → Prop) (L M : List (List Way)) (v1 v2 : Value) (q qc : Nat) (xs1 xs2 : List Value) (a1 : Option Addr) (k1 : Nat) (a2 : Option Addr) (k2 : Nat) (w : World) (hv1 : v1 = .slice a1 L.length k1) (hv2 : v2 = .slice a2 M.length k2) (hpw : ∀ k, p k → k < w.heap.size) (hc : L.length ≤ 1000) (hd : M.length ≤ 1000)
    (q0 : w.cell? ⟨q, 0, none⟩ = some v1) (q1 : w.cell? ⟨q, 1, none⟩ = some v2) (r1 : RowS p w v1 L xs1) (r2 : RowS p w v2 M xs2) :
    Calls Tryz.prog 163 #[.slice (some ⟨q, 0, none⟩) 2 qc] w fun e w' => (∃ a cap, e = .returned (.slice a (L ++ M).length cap) ∧ RowE (fun k => p k ∨ w.heap.size ≤ k) (ListV (fun k => p k ∨ w.heap.size ≤ k) w') w' (L ++ M) a) ∧ Below w.heap.size w w' := by
  subst hv1 hv2
  have HG := hide (growL_any (L.length + M.length) w (by omega))
  have HR1 := hide r1
  have HR2 := hide r2
  have HQ0 := hide q0
  have HQ1 := hide q1
  have Hpw := hide hpw
  clear r1 r2 hpw
  go_enter Tryz.func163, Tryz.ntmps163
  go_wp2_with fail
  go_loopw [3, 11] (fun s i wr => Hid (wr = w) ∧ ((s = .int .i64 0 ∧ i = .int .i64 0) ∨ (s = .int .i64 (L.length : Int) ∧ i = .int .i64 1) ∨ (s = .int .i64 ((L.length + M.length : Nat) : Int) ∧ i = .int .i64 2))) (fun _ i _ => 2 - (intOf i).toNat)
  case atStart => exact ⟨rfl, Or.inl ⟨rfl, rfl⟩⟩
  case round =>
    obtain ⟨HW, hrel⟩ := hrel
    have hW : w = wr := HW.out.symm
    subst hW
    clear HW
    obtain ⟨rfl, rfl⟩ | ⟨rfl, rfl⟩ | ⟨rfl, rfl⟩ := hrel
    · have g0 : ¬ ((L.length : Int) < 0) := by omega
      go_wp2_with fail
      go_roundw
      case rel => exact ⟨trivial, Or.inr (Or.inl ⟨by simp, rfl⟩)⟩
      case measure => simp [intOf]
    · have g0 : ¬ ((L.length : Int) + M.length < 0) := by omega
      go_wp2_with fail
      go_roundw
      case rel => exact ⟨trivial, Or.inr (Or.inr ⟨by simp, rfl⟩)⟩
      case measure => simp [intOf]
    · go_wp2_with fail
      refine HG.out.mono ?_
      rintro e w1 ⟨v, rfl, hown, hb1⟩
      have Hown := hide hown
      have Hb1 := hide hb1
      clear hown hb1 HG q0 q1
      go_wp2_with fail
      go_loopw [6, 27] (fun v i wr => Hid (Below w.heap.size w wr) ∧ ((i = .int .i64 0 ∧ Hid (wr.ownsRow w.heap.size 150 1 v 0 [])) ∨ (i = .int .i64 1 ∧ Hid (wr.ownsRow w.heap.size 150 1 v L.length xs1)) ∨ (i = .int .i64 2 ∧ Hid (wr.ownsRow w.heap.size 150 1 v (L.length + M.length) (xs1 ++ xs2))))) (fun _ i _ => 2 - (intOf i).toNat)
      case atStart => exact ⟨Hb1, Or.inl ⟨rfl, Hown⟩⟩
      case round =>
        obtain ⟨HB, hrel⟩ := hrel
        have q0 := cell_below HB.out HQ0.out
        have q1 := cell_below HB.out HQ1.out
        have hzr := HB.out.size
        have HNx := hide (fun (v : Value) (n m : Nat) (xs news : List Value) (ho : wr.ownsRow w.heap.size 150 1 v n xs) (v' : Value) (w' : World) (_ : w'.ownsRow w.heap.size 150 1 v' (n + m) (xs ++ news)) (h3 : wr.grownBy w' v.ownBlock) => (show Below w.heap.size w w' from
          HB.out.grown h3 (by omega) (fun k hk => (own_lt ho k hk).1)))
        obtain ⟨rfl, Ho⟩ | ⟨rfl, Ho⟩ | ⟨rfl, Ho⟩ := hrel
        · have HS := hide (SrcE_below HB.out HR1.out.src)
          go_wp2_with (at_builtin
                       go_must (refine wpList_append_m ty_lists rfl (.tmp 31) (.tmp 32) rfl w.heap.size 0 L.length _ _ xs1 rfl Ho.out _ rfl HS.out (by omega) (by omega) ?_)
                       intro v' w2 hown2 hgr2 hat2)
          have hb2 := HNx.out _ _ _ _ _ Ho.out _ _ hown2 hgr2
          go_roundw
          case rel => exact ⟨hb2, Or.inr (Or.inl ⟨rfl, by rw [Nat.zero_add, List.nil_append] at hown2; exact hown2⟩)⟩
          case measure => simp [intOf]
        · have HS := hide (SrcE_below HB.out HR2.out.src)
          go_wp2_with (at_builtin
                       go_must (refine wpList_append_m ty_lists rfl (.tmp 31) (.tmp 32) rfl w.heap.size L.length M.length _ _ xs2 rfl Ho.out _ rfl HS.out (by omega) (by omega) ?_)
                       intro v' w2 hown2 hgr2 hat2)
          have hb2 := HNx.out _ _ _ _ _ Ho.out _ _ hown2 hgr2
          go_roundw
          case rel => exact ⟨hb2, Or.inr (Or.inr ⟨rfl, hown2⟩)⟩
          case measure => simp [intOf]
        · obtain ⟨a, cap, rfl⟩ := own_shape Ho.out
          have Hend : Hid (RowE (fun k => p k ∨ w.heap.size ≤ k) (ListV (fun k => p k ∨ w.heap.size ≤ k) wr) wr (L ++ M) a) := by
            have hk := KidsE_imp (fun x u => ListV_stays p (fun k => p k ∨ w.heap.size ≤ k) w wr x u (fun k hk _ => ⟨Or.inl hk, HB.out.block k (Hpw.out k hk)⟩)) (KidsE_append HR1.out.kid HR2.out.kid)
            by_cases h0 : 0 < L.length + M.length
            · obtain ⟨g, cap', e, hb, hlt, hcell⟩ := own_cellsN Ho.out h0
              injection e with e1 e2 e3
              rw [e1]
              exact Or.inr ⟨g, 0, xs1 ++ xs2, rfl, Or.inr hb, hk, fun j u hu => by rw [Nat.zero_add]; exact hcell j u hu⟩
            · exact Or.inl (List.length_eq_zero_iff.1 (by rw [List.length_append]; omega))
          clear HNx q0 q1 Ho
          go_wp2_with fail
          go_ret
          exact ⟨⟨a, cap, by rw [List.length_append]; rfl, Hend.out⟩, HB.out⟩
end Go.Proofs.YtbkedppkdhfpoabGreat

namespace Go.Proofs.YtbkedppkdhfpoabGreat
open Go.RowKit Go.Maps

section
variable {α : Type}
/-- A row of the call's own; what lies behind it lies in blocks of q, or in new ones. -/
def OutsQ (q : Nat → Prop) (E : (Nat → Prop) → World → α → Value → Prop) (Ty : TypeId) (base : Nat) (w : World) (l : Value) (xs : List α) : Prop :=
  ∃ vs, w.ownsRow base Ty 1 l xs.length vs ∧ KidsE (E (fun k => (q k ∨ base ≤ k) ∧ l.ownBlock ≠ some k) w) xs vs
theorem OutsQ_nil {q : Nat → Prop} {E : (Nat → Prop) → World → α → Value → Prop} {Ty : TypeId} {base : Nat} {w : World} : OutsQ q E Ty base w (.slice none 0 0) [] := ⟨[], ⟨rfl, Or.inl ⟨rfl, rfl⟩⟩, rfl⟩
theorem OutsQ_below {q : Nat → Prop} {E : (Nat → Prop) → World → α → Value → Prop} (hS : Stays E) {Ty : TypeId} {base : Nat} {w w' : World} {l : Value} {xs : List α} (h : OutsQ q E Ty base w l xs) (hb : Below w.heap.size w w') : OutsQ q E Ty base w' l xs := by
  obtain ⟨vs, h1, h2⟩ := h
  exact ⟨vs, own_same h1 (fun g hg => hb.block g (own_lt h1 g hg).2), KidsE_imp (fun x v => hS _ _ _ _ x v (fun k hk hlt => ⟨hk, hb.block k hlt⟩)) h2⟩
theorem OutsQ_row {q : Nat → Prop} {E : (Nat → Prop) → World → α → Value → Prop} (hS : Stays E) {Ty : TypeId} {base n cap : Nat} {w : World} {a : Option Addr} {xs : List α} (h : OutsQ q E Ty base w (.slice a n cap) xs) : RowE (fun k => q k ∨ base ≤ k) (E (fun k => q k ∨ base ≤ k) w) w xs a := by
  obtain ⟨vs, h1, h2⟩ := h
  by_cases h0 : 0 < xs.length
  · obtain ⟨g, cap', e, hb, hlt, hcell⟩ := own_cellsN h1 h0
    injection e with e1 e2 e3
    rw [e1]
    exact Or.inr ⟨g, 0, vs, rfl, Or.inr hb, KidsE_imp (fun x v => hS _ _ _ _ x v (fun k hk _ => ⟨hk.1, rfl⟩)) h2, fun j u hu => by rw [Nat.zero_add]; exact hcell j u hu⟩
  · exact Or.inl (List.length_eq_zero_iff.1 (by omega))
theorem OutsQ_cap {q : Nat → Prop} {E : (Nat → Prop) → World → α → Value → Prop} {Ty : TypeId} {base cap : Nat} {w : World} {a : Option Addr} {xs : List α} (h : OutsQ q E Ty base w (.slice a xs.length cap) xs) : xs.length ≤ cap := by
  obtain ⟨vs, h1, _⟩ := h
  rcases h1.2 with ⟨_, h0⟩ | ⟨g, cap', cur, e, hb, hg, hc, hm, hsz', htk⟩
  · omega
  · injection e with e1 e2 e3
    omega
/-- One more, behind the cell that is laid for it. -/
theorem OutsQ_next {q : Nat → Prop} {E : (Nat → Prop) → World → α → Value → Prop} (hS : Stays E) {Ty : TypeId} {base : Nat} {w w1 w3 : World} {l v' u : Value} {xs : List α} {x : α} {vs : List Value} {e : TypeId} (hb0 : base ≤ w.heap.size) (hb : Below w.heap.size w w1) (h1 : w.ownsRow base Ty 1 l xs.length vs) (hk : KidsE (E (fun k => (q k ∨ base ≤ k) ∧ l.ownBlock ≠ some k) w) xs vs) (hx : E (fun k => (q k ∨ base ≤ k) ∧ l.ownBlock ≠ some k) w1 x u)
    (hown : w3.ownsRow base Ty 1 v' (xs.length + 1) (vs ++ [u])) (hg : (w1.alloc (.cells #[u] e)).grownBy w3 l.ownBlock) (hat : v'.ownBlock = l.ownBlock ∨ v'.ownBlock = some (w1.alloc (.cells #[u] e)).heap.size) : OutsQ q E Ty base w3 v' (xs ++ [x]) ∧ Below base w w3 := by
  have hz := hb.size
  have hb2 : Below w.heap.size w (w1.alloc (.cells #[u] e)) := hb.trans ((below1 _ _).mono hz)
  refine ⟨⟨_, by rw [List.length_append]; exact hown, KidsE_imp (fun y v => hS _ _ _ _ y v (fun k hp hlt => ⟨⟨hp.1, ?_⟩, hg.block k hlt (fun e => hp.2 e.symm)⟩)) (KidsE_append (KidsE_imp (fun y v => hS _ _ _ _ y v (fun k hk hlt => ⟨hk, hb2.block k hlt⟩)) hk) ⟨u, [], rfl, hS _ _ _ _ x u (fun k hk hlt => ⟨hk, (below1 _ _).block k hlt⟩) hx, rfl⟩)⟩, (hb2.mono hb0).grown hg (by simp; omega) (fun k hk => (own_lt h1 k hk).1)⟩
  rcases hat with hat | hat
  · rw [hat]; exact hp.2
  · rw [hat]; intro e'; cases e'; simp at hlt
end
/-- Of each list those that agree with a way. -/
def FiltP (g : Way) (gs hs : List Way) : Prop := hs.length ≤ gs.length ∧ ∀ x, x ∈ hs ↔ x ∈ gs ∧ agreeP g x
def FiltL (g : Way) (Ls Rs : List (List Way)) : Prop := Rs.length = Ls.length ∧ ∀ (i : Nat) (gs hs : List Way), Ls[i]? = some gs → Rs[i]? = some hs → FiltP g gs hs
theorem FiltL_snoc {g : Way} {Ls Rs : List (List Way)} {k : Nat} {gs hs : List Way} (hk : Ls[k]? = some gs) (h : FiltL g (Ls.take k) Rs) (hf : FiltP g gs hs) : FiltL g (Ls.take (k + 1)) (Rs ++ [hs]) := by
  have hlt := (List.getElem?_eq_some_iff.1 hk).1
  have hl : Rs.length = k := by rw [h.1, List.length_take]; omega
  refine ⟨by rw [List.length_append, List.length_take, hl]; simp; omega, fun i gs' hs' h1 h2 => ?_⟩
  by_cases hi : i < k
  · rw [List.getElem?_take_of_lt (by omega)] at h1
    rw [List.getElem?_append_left (by omega)] at h2
    exact h.2 i gs' hs' (by rw [List.getElem?_take_of_lt hi]; exact h1) h2
  · have hi2 := (List.getElem?_eq_some_iff.1 h2).1
    rw [List.length_append, hl] at hi2
    simp at hi2
    obtain rfl : i = k := by omega
    rw [List.getElem?_take_of_lt (by omega), hk] at h1
    obtain rfl := Option.some.inj h1
    rw [List.getElem?_append_right (by omega), hl] at h2
    simp at h2
    rw [← h2]; exact hf
attribute [local go_sem ↓] Go.wp_at_zero Go.wp_at_succ
set_option maxRecDepth 100000 in
set_option maxHeartbeats 1000000 in
theorem agreeing_any (p : Nat → Prop) (g : Way) (b n : Nat) (L M : List (List Way)) (v1 v2 : Value) (q qc : Nat) (xs1 xs2 : List Value) (a1 : Option Addr) (k1 : Nat) (a2 : Option Addr) (k2 : Nat) (w : World) (hgz : WaySz g) (hg : WayAt p w b n g) (hv1 : v1 = .slice a1 L.length k1) (hv2 : v2 = .slice a2 M.length k2) (hpw : ∀ k, p k → k < w.heap.size) (hc : L.length ≤ 1000) (hd : M.length ≤ 1000)
    (q0 : w.cell? ⟨q, 0, none⟩ = some v1) (q1 : w.cell? ⟨q, 1, none⟩ = some v2) (r1 : RowS p w v1 L xs1) (r2 : RowS p w v2 M xs2) :
    Calls Tryz.prog 112 #[.map (some b), .slice (some ⟨q, 0, none⟩) 2 qc] w fun e w' => (∃ Rs a cap, e = .returned (.slice a Rs.length cap) ∧ Rs.length ≤ cap ∧ FiltL g (L ++ M) Rs ∧ RowE (fun k => p k ∨ w.heap.size ≤ k) (ListV (fun k => p k ∨ w.heap.size ≤ k) w') w' Rs a) ∧ Below w.heap.size w w' := by
  have HC := hide (concatL_any p L M v1 v2 q qc xs1 xs2 a1 k1 a2 k2 w hv1 hv2 hpw hc hd q0 q1 r1 r2)
  have hll : (L ++ M).length ≤ 2000 := by rw [List.length_append]; omega
  obtain ⟨Ls, hLs⟩ : ∃ Ls, Ls = L ++ M := ⟨_, rfl⟩
  rw [← hLs] at HC hll ⊢
  have Hg := hide hg
  have Hgz := hide hgz
  have Hpw := hide hpw
  clear hLs hg hgz hpw q0 q1 r1 r2 hv1 hv2
  go_enter Tryz.func112, Tryz.ntmps112
  go_wp2_with fail
  refine HC.out.mono ?_
  rintro e w1 ⟨⟨ra, rc, rfl, hrow⟩, hb1⟩
  have Hrow := hide hrow
  have Hb1 := hide hb1
  have hz1 := hb1.size
  clear hrow hb1 HC
  go_upto_region 3 with fail
  go_loopw [5, 14] (fun l i wr => ∃ (k : Nat) (Rs : List (List Way)) (la : Option Addr) (lc : Nat), k ≤ Ls.length ∧ i = .int .i64 k ∧ l = .slice la Rs.length lc ∧ Hid (FiltL g (Ls.take k) Rs) ∧ Hid (OutsQ (fun k => p k ∨ w.heap.size ≤ k ∧ k < w1.heap.size) ListV 150 w1.heap.size wr (.slice la Rs.length lc) Rs) ∧ Hid (Below w1.heap.size w1 wr)) (fun _ i _ => Ls.length - (intOf i).toNat)
  case atStart => exact ⟨0, [], none, 0, Nat.zero_le _, rfl, rfl, hide ⟨rfl, fun i gs hs h => by simp at h⟩, hide OutsQ_nil, hide (Below.refl _ _)⟩
  case round =>
    obtain ⟨k, Rs, la, lc, hk, rfl, rfl, HFl, HO, Hb⟩ := hrel
    obtain ⟨wo, rfl⟩ : ∃ wo, wo = wr := ⟨_, rfl⟩
    by_cases hlt : k < Ls.length
    · obtain ⟨gs, hgs⟩ : ∃ gs, Ls[k]? = some gs := ⟨Ls[k], List.getElem?_eq_getElem hlt⟩
      obtain ⟨rb, ro, rfl⟩ := RowE_some Hrow.out (by omega)
      obtain ⟨v, hv, ga, gc, rfl, hgl, hgr⟩ := RowE_at Hrow.out hgs
      have c0 := cell_below Hb.out hv
      have Hgr := hide (RowE_mono hgr (q := fun k => p k ∨ w.heap.size ≤ k ∧ k < w1.heap.size) (w' := w1) (F := WayV (fun k => p k ∨ w.heap.size ≤ k ∧ k < w1.heap.size) w1) (fun j hj hl => ⟨hj.imp id (fun h => ⟨h, hl⟩), rfl⟩) (fun x u hxu => by
        have h9 := WayV_stays _ (fun k => (p k ∨ w.heap.size ≤ k) ∧ k < w1.heap.size) w1 w1 x u (fun j hj hl => ⟨⟨hj, hl⟩, rfl⟩) hxu
        exact WayV_stays _ _ _ _ x u (fun j hj _ => ⟨hj.1.imp id (fun h => ⟨h, hj.2⟩), rfl⟩) h9))
      have hkI : (k : Int) < Ls.length := by omega
      have hk0 : (0 : Int) ≤ k := by omega
      have hzr := Hb.out.size
      have HFs := hide (fun hs (hf : FiltP g gs hs) => FiltL_snoc hgs HFl.out hf)
      have Hgw := hide (Hg.out.below Hb1.out)
      clear hv hgr hgs
      go_upto_region 7 with fail
      clear c0
      go_loopw [8, 20] (fun s j wr => ∃ (m : Nat) (hs : List Way) (sa : Option Addr) (sc : Nat), m ≤ gs.length ∧ j = .int .i64 m ∧ s = .slice sa hs.length sc ∧ Hid (FiltP g (gs.take m) hs) ∧ Hid (OutsQ (fun k => p k ∨ w.heap.size ≤ k ∧ k < w1.heap.size) WayV 152 wo.heap.size wr (.slice sa hs.length sc) hs) ∧ Hid (Below wo.heap.size wo wr)) (fun _ j _ => gs.length - (intOf j).toNat)
      case atStart => exact ⟨0, [], none, 0, Nat.zero_le _, rfl, rfl, hide ⟨by simp, fun x => by simp⟩, hide OutsQ_nil, hide (Below.refl _ _)⟩
      case round =>
        obtain ⟨m, hs, sa, sc, hm, rfl, rfl, HF, HS, Hbi⟩ := hrel
        by_cases hlm : m < gs.length
        · obtain ⟨o, hgo⟩ : ∃ o, gs[m]? = some o := ⟨gs[m], List.getElem?_eq_getElem hlm⟩
          obtain ⟨gb, goff, rfl⟩ := RowE_some Hgr.out (by omega)
          obtain ⟨u, hu, hoz, ob, on, rfl, hoW, hon⟩ := RowE_at Hgr.out hgo
          have Hbw := hide (Hb.out.trans (Hbi.out.mono Hb.out.size))
          have Hpq : Hid (∀ k, (p k ∨ w.heap.size ≤ k ∧ k < w1.heap.size) → k < w1.heap.size) := fun k hk => by
            rcases hk with h | h
            · have := Hpw.out k h; omega
            · exact h.2
          have c0 := cell_below Hbw.out hu
          have hzi := Hbi.out.size
          have Hoz := hide hoz
          have Hon := hide hon
          have HA := hide (agrees_any (fun k => p k ∨ w.heap.size ≤ k ∧ k < w1.heap.size) g o b n ob on wr Hgz.out ((Hgw.out.below Hbw.out).imp (fun k h => Or.inl h)) (hoW.below Hbw.out))
          have HoW := hide hoW
          have hmI : (m : Int) < gs.length := by omega
          have hm0 : (0 : Int) ≤ m := by omega
          have Htk := hide (show gs.take (m + 1) = gs.take m ++ [o] by rw [List.take_add_one, hgo]; rfl)
          clear hu hoW hgo hoz hon
          go_wp2_with fail
          refine HA.out.mono ?_
          rintro e w2 ⟨⟨r, rfl, hr⟩, hb2⟩
          have Hb2 := hide hb2
          have hz2 := hb2.size
          have Hw2 := hide (HoW.out.below (Hbw.out.trans (hb2.mono Hbw.out.size)))
          clear hb2 HA c0
          cases r with
          | true =>
            have hag := hr.1 rfl
            have HFn : Hid (FiltP g (gs.take (m + 1)) (hs ++ [o])) := by
              have h9 := HF.out
              refine ⟨?_, fun x => ?_⟩
              · rw [Htk.out, List.length_append, List.length_append]
                have := h9.1
                simp only [List.length_cons, List.length_nil]
                omega
              · rw [Htk.out, List.mem_append, List.mem_append, h9.2 x, List.mem_singleton]
                constructor
                · rintro (⟨h1, h2⟩ | rfl)
                  · exact ⟨Or.inl h1, h2⟩
                  · exact ⟨Or.inr rfl, hag⟩
                · rintro ⟨h1 | rfl, h2⟩
                  · exact Or.inl ⟨h1, h2⟩
                  · exact Or.inr rfl
            have hhl : hs.length ≤ 1000 := by have := HF.out.1; rw [List.length_take] at this; omega
            obtain ⟨vs, h1, h2⟩ := HS.out
            have H1 := hide h1
            have H2 := hide h2
            have HO1 := hide (fun ob' => own_same H1.out (w' := w2.alloc ob') (fun x hx => (Below.heap_alloc _ _ _ (by have := (own_lt H1.out x hx).2; omega)).trans (Hb2.out.block x (own_lt H1.out x hx).2)))
            have Hx : Hid (WayV (fun k => ((p k ∨ w.heap.size ≤ k ∧ k < w1.heap.size) ∨ wo.heap.size ≤ k) ∧ (Value.slice sa hs.length sc).ownBlock ≠ some k) w2 o (.map (some ob))) := ⟨Hoz.out, ob, on, rfl, Hw2.out.imp (fun k hk => ⟨Or.inl hk, fun e => by have h8 := (own_lt H1.out k e).1; have h7 := Hpq.out k hk; omega⟩), Hon.out⟩
            clear h1 h2 hr hag
            go_wp2_with (at_builtin
                         go_must (refine wpList_append_1 ty_ways rfl (.tmp 27) (.tmp 29) rfl wo.heap.size hs.length w2.heap.size 1 (.slice sa hs.length sc) (.map (some ob)) vs rfl (HO1.out _) _ rfl rfl (cell_new 0 rfl) rfl (by omega) (by simp; omega) ?_)
                         intro v' w3 hown3 hgr3 hat3
                         obtain ⟨va3, vc3, rfl⟩ := own_shape hown3
                         obtain ⟨hO3, hB3⟩ := OutsQ_next WayV_stays (show wo.heap.size ≤ wr.heap.size by omega) Hb2.out H1.out H2.out Hx.out hown3 hgr3 hat3
                         have HO3 := hide hO3
                         have HB3 := hide (Hbi.out.trans hB3)
                         clear hown3 hgr3 hat3 hO3 hB3 H1 H2 HO1 Hx)
            go_roundw
            case rel => exact ⟨m + 1, hs ++ [o], va3, vc3, by omega, by go_num, by rw [List.length_append]; rfl, HFn, by rw [List.length_append] at *; exact HO3, HB3⟩
            case measure => simp [intOf]; omega
          | false =>
            have hag : ¬ agreeP g o := fun h => by have := hr.2 h; cases this
            have HFn : Hid (FiltP g (gs.take (m + 1)) hs) := by
              have h9 := HF.out
              refine ⟨?_, fun x => ?_⟩
              · rw [Htk.out, List.length_append]
                exact Nat.le_trans h9.1 (Nat.le_add_right _ _)
              · rw [Htk.out, List.mem_append, h9.2 x, List.mem_singleton]
                constructor
                · rintro ⟨h1, h2⟩
                  exact ⟨Or.inl h1, h2⟩
                · rintro ⟨h1 | rfl, h2⟩
                  · exact ⟨h1, h2⟩
                  · exact absurd h2 hag
            have HS2 := hide (OutsQ_below WayV_stays HS.out Hb2.out)
            have HB2 := hide (Hbi.out.trans (Hb2.out.mono hzi))
            clear hr hag
            go_wp2_with fail
            go_roundw
            case rel => exact ⟨m + 1, hs, sa, sc, by omega, by go_num, rfl, HFn, HS2, HB2⟩
            case measure => simp [intOf]; omega
        · obtain rfl : m = gs.length := by omega
          rw [List.take_length] at HF
          have hzi := Hbi.out.size
          have hhl : hs.length ≤ 1000 := by have := HF.out.1; omega
          have HFn := hide (HFs.out hs HF.out)
          have hRl : Rs.length ≤ 2000 := by have := HFl.out.1; rw [List.length_take] at this; omega
          obtain ⟨vs, h1, h2⟩ := HO.out
          have H1 := hide h1
          have H2 := hide h2
          have HO1 := hide (fun ob' => own_same H1.out (w' := wr.alloc ob') (fun x hx => (Below.heap_alloc _ _ _ (by have := (own_lt H1.out x hx).2; omega)).trans (Hbi.out.block x (own_lt H1.out x hx).2)))
          have Hx : Hid (ListV (fun k => ((p k ∨ w.heap.size ≤ k ∧ k < w1.heap.size) ∨ w1.heap.size ≤ k) ∧ (Value.slice la Rs.length lc).ownBlock ≠ some k) wr hs (.slice sa hs.length sc)) := by
            have hq : ∀ k, ((p k ∨ w.heap.size ≤ k ∧ k < w1.heap.size) ∨ wo.heap.size ≤ k) → k < wr.heap.size → (((p k ∨ w.heap.size ≤ k ∧ k < w1.heap.size) ∨ w1.heap.size ≤ k) ∧ (Value.slice la Rs.length lc).ownBlock ≠ some k) ∧ wr.heap[k]? = wr.heap[k]? := fun k hk _ => by
              refine ⟨⟨?_, fun e => ?_⟩, rfl⟩
              · rcases hk with h | h
                · exact Or.inl h
                · exact Or.inr (by omega)
              · have h8 := own_lt H1.out k e
                rcases hk with (h | h) | h
                · have := Hpw.out k h; omega
                · omega
                · omega
            exact ⟨sa, sc, rfl, hhl, RowE_mono (OutsQ_row WayV_stays HS.out) hq (fun x u => WayV_stays _ _ _ _ x u hq)⟩
          clear h1 h2
          go_wp2_with (at_builtin
                       go_must (refine wpList_append_1 ty_lists rfl (.tmp 32) (.tmp 34) rfl w1.heap.size Rs.length wr.heap.size 1 (.slice la Rs.length lc) (.slice sa hs.length sc) vs rfl (HO1.out _) _ rfl rfl (cell_new 0 rfl) rfl (by omega) (by simp; omega) ?_)
                       intro v' w3 hown3 hgr3 hat3
                       obtain ⟨va3, vc3, rfl⟩ := own_shape hown3
                       obtain ⟨hO3, hB3⟩ := OutsQ_next ListV_stays hzr Hbi.out H1.out H2.out Hx.out hown3 hgr3 hat3
                       have HO3 := hide hO3
                       have HB3 := hide (Hb.out.trans hB3)
                       clear hown3 hgr3 hat3 hO3 hB3 H1 H2 HO1 Hx)
          go_roundw
          case rel => exact ⟨k + 1, Rs ++ [hs], va3, vc3, by omega, by go_num, by rw [List.length_append]; rfl, HFn, by rw [List.length_append] at *; exact HO3, HB3⟩
          case measure => simp [intOf]; omega
    · obtain rfl : k = Ls.length := by omega
      rw [List.take_length] at HFl
      have HR := hide (OutsQ_row ListV_stays HO.out)
      have Hcp := hide (OutsQ_cap HO.out)
      have Hf := hide (Hb1.out.trans (Hb.out.mono Hb1.out.size))
      go_wp2_with fail
      go_ret
      exact ⟨⟨Rs, la, lc, rfl, Hcp.out, HFl.out, RowE_mono HR.out (fun j hj _ => ⟨by rcases hj with (h | h) | h; exact Or.inl h; exact Or.inr h.1; exact Or.inr (by omega), rfl⟩) (fun x u => ListV_stays _ _ _ _ x u (fun j hj _ => ⟨by rcases hj with (h | h) | h; exact Or.inl h; exact Or.inr h.1; exact Or.inr (by omega), rfl⟩))⟩, Hf.out⟩
end Go.Proofs.YtbkedppkdhfpoabGreat

namespace Go.Proofs.YtbkedppkdhfpoabGreat
open Go.RowKit Go.Maps

theorem agreeP_comm {g o : Way} (h : agreeP g o) : agreeP o g := fun v t u h1 h2 => (h v u t h2 h1).symm
theorem agreeP_self (g : Way) : agreeP g g := fun v t u h1 h2 => by rw [h1] at h2; exact Option.some.inj h2
/-- One of each list, and all of them agree. -/
def Fit (Ls : List (List Way)) : Prop := ∃ c : Nat → Way, (∀ (i : Nat) (gs : List Way), Ls[i]? = some gs → c i ∈ gs) ∧ ∀ i j, i < Ls.length → j < Ls.length → agreeP (c i) (c j)
/-- One of each list, all agree, and with one way too. -/
def FitW (g : Way) (Ls : List (List Way)) : Prop := ∃ c : Nat → Way, (∀ (i : Nat) (gs : List Way), Ls[i]? = some gs → c i ∈ gs ∧ agreeP g (c i)) ∧ ∀ i j, i < Ls.length → j < Ls.length → agreeP (c i) (c j)
theorem fit_nil : Fit [] := ⟨fun _ _ => none, fun i gs h => by simp at h, fun i j h => by simp at h⟩
theorem fit_filt {g : Way} {Ls Rs : List (List Way)} (h : FiltL g Ls Rs) : Fit Rs ↔ FitW g Ls := by
  have hi : ∀ {i : Nat}, i < Ls.length → ∃ gs hs, Ls[i]? = some gs ∧ Rs[i]? = some hs ∧ FiltP g gs hs := fun {i} hlt => ⟨Ls[i], Rs[i]'(by rw [h.1]; exact hlt), List.getElem?_eq_getElem _, List.getElem?_eq_getElem _, h.2 i _ _ (List.getElem?_eq_getElem _) (List.getElem?_eq_getElem _)⟩
  constructor
  · rintro ⟨c, h1, h2⟩
    refine ⟨c, fun i gs hg => ?_, fun i j => by rw [← h.1]; exact h2 i j⟩
    obtain ⟨gs', hs, e1, e2, hf⟩ := hi (List.getElem?_eq_some_iff.1 hg).1
    rw [hg] at e1
    obtain rfl := Option.some.inj e1
    exact (hf.2 _).1 (h1 i hs e2)
  · rintro ⟨c, h1, h2⟩
    refine ⟨c, fun i hs hg => ?_, fun i j => by rw [h.1]; exact h2 i j⟩
    obtain ⟨gs, hs', e1, e2, hf⟩ := hi (i := i) (by rw [← h.1]; exact (List.getElem?_eq_some_iff.1 hg).1)
    rw [hg] at e2
    obtain rfl := Option.some.inj e2
    exact (hf.2 _).2 (h1 i gs e1)
theorem at_cut {Ls : List (List Way)} {k i : Nat} : (Ls.take k ++ Ls.drop (k + 1))[i]? = if i < k then Ls[i]? else Ls[i + 1]? := by
  rw [← List.eraseIdx_eq_take_drop_succ, List.getElem?_eraseIdx]
theorem fit_cut {Ls : List (List Way)} {k : Nat} {gs : List Way} (hk : Ls[k]? = some gs) : Fit Ls ↔ ∃ g, g ∈ gs ∧ FitW g (Ls.take k ++ Ls.drop (k + 1)) := by
  have hlt := (List.getElem?_eq_some_iff.1 hk).1
  have hlen : (Ls.take k ++ Ls.drop (k + 1)).length = Ls.length - 1 := by rw [List.length_append, List.length_take, List.length_drop]; omega
  constructor
  · rintro ⟨c, h1, h2⟩
    refine ⟨c k, h1 k gs hk, fun i => if i < k then c i else c (i + 1), fun i gs' hg => ?_, fun i j hi hj => ?_⟩
    · rw [at_cut] at hg
      by_cases hik : i < k
      · rw [if_pos hik] at hg
        simp only [if_pos hik]
        exact ⟨h1 i gs' hg, h2 k i hlt (by omega)⟩
      · rw [if_neg hik] at hg
        simp only [if_neg hik]
        exact ⟨h1 (i + 1) gs' hg, h2 k (i + 1) hlt (List.getElem?_eq_some_iff.1 hg).1⟩
    · rw [hlen] at hi hj
      have e : ∀ i, i < Ls.length - 1 → ∃ m, m < Ls.length ∧ (if i < k then c i else c (i + 1)) = c m := fun i hi => by
        by_cases hik : i < k
        · exact ⟨i, by omega, by rw [if_pos hik]⟩
        · exact ⟨i + 1, by omega, by rw [if_neg hik]⟩
      obtain ⟨m, hm, e1⟩ := e i hi
      obtain ⟨n, hn, e2⟩ := e j hj
      show agreeP (if i < k then c i else c (i + 1)) (if j < k then c j else c (j + 1))
      rw [e1, e2]
      exact h2 m n hm hn
  · rintro ⟨g, hg, c, h1, h2⟩
    have hin : ∀ (i : Nat), i < Ls.length - 1 → agreeP g (c i) := fun i hi => by
      have hi' : i < (Ls.take k ++ Ls.drop (k + 1)).length := by omega
      exact (h1 i _ (List.getElem?_eq_getElem hi')).2
    refine ⟨fun i => if i < k then c i else if i = k then g else c (i - 1), fun i gs' hgs => ?_, fun i j hi hj => ?_⟩
    · by_cases hik : i < k
      · simp only [if_pos hik]
        exact (h1 i gs' (by rw [at_cut, if_pos hik]; exact hgs)).1
      · by_cases hie : i = k
        · subst hie
          rw [hk] at hgs
          obtain rfl := Option.some.inj hgs
          simp only [if_neg hik, if_pos]
          exact hg
        · simp only [if_neg hik, if_neg hie]
          refine (h1 (i - 1) gs' ?_).1
          rw [at_cut, if_neg (by omega), show i - 1 + 1 = i by omega]
          exact hgs
    · have e : ∀ i, i < Ls.length → (if i < k then c i else if i = k then g else c (i - 1)) = g ∨ ∃ m, m < Ls.length - 1 ∧ (if i < k then c i else if i = k then g else c (i - 1)) = c m := fun i hi => by
        by_cases hik : i < k
        · exact Or.inr ⟨i, by omega, by rw [if_pos hik]⟩
        · by_cases hie : i = k
          · exact Or.inl (by rw [if_neg hik, if_pos hie])
          · exact Or.inr ⟨i - 1, by omega, by rw [if_neg hik, if_neg hie]⟩
      show agreeP (if i < k then c i else if i = k then g else c (i - 1)) (if j < k then c j else if j = k then g else c (j - 1))
      rcases e i hi with e1 | ⟨m, hm, e1⟩ <;> rcases e j hj with e2 | ⟨n, hn, e2⟩ <;> rw [e1, e2]
      · exact agreeP_self g
      · exact hin n hn
      · exact agreeP_comm (hin m hm)
      · exact h2 m n (by omega) (by omega)
attribute [local go_sem ↓] Go.wp_at_zero Go.wp_at_succ
/-- The lists ahead of one, and those behind it, as the program cuts them off. -/
theorem cutL {p : Nat → Prop} {w : World} {Ls : List (List Way)} {b off cap k : Nat} (h : RowE p (ListV p w) w Ls (some ⟨b, off, none⟩)) (hc : Ls.length ≤ cap) (hk : k < Ls.length) :
    ∃ pa xs1 xs2, (∀ w' : World, (Instr.slice 84 (.slice (some ⟨b, off, none⟩) Ls.length cap) none (some (.int .i64 (k : Int))) none).run Tryz.prog w' = .ok (.slice (some ⟨b, off, none⟩) k cap) w')
      ∧ (∀ w' : World, (Instr.slice 84 (.slice (some ⟨b, off, none⟩) Ls.length cap) (some (.int .i64 ((k : Int) + 1))) none none).run Tryz.prog w' = .ok (.slice pa (Ls.length - (k + 1)) (cap - (k + 1))) w')
      ∧ RowS p w (.slice (some ⟨b, off, none⟩) k cap) (Ls.take k) xs1 ∧ RowS p w (.slice pa (Ls.length - (k + 1)) (cap - (k + 1))) (Ls.drop (k + 1)) xs2 := by
  have ht : Tryz.prog.underlying 84 = some (.slice (Tryz.prog.elem 84)) := by kernel_rfl
  have hsz : ∀ w : World, (sizeOf (Tryz.prog.elem 84)).run Tryz.prog w = .ok 1 w := fun w => by kernel_rfl
  have hr1 := fun w' : World => run_slice_h (P := Tryz.prog) w' 84 (some ⟨b, off, none⟩) Ls.length cap ht .i64 (k : Int) (by omega) (by omega)
  have hr2 := fun w' : World => run_slice_l (P := Tryz.prog) w' 84 (some ⟨b, off, none⟩) Ls.length cap ht .i64 ((k : Int) + 1) (by omega) (by omega)
  have hN : ((k : Int) + 1).toNat = k + 1 := by omega
  obtain ⟨xs1, h1⟩ := rowS_take (cap := cap) k (by omega) h
  have g1 : ∀ w' : World, (Instr.slice 84 (.slice (some ⟨b, off, none⟩) Ls.length cap) none (some (.int .i64 (k : Int))) none).run Tryz.prog w' = .ok (.slice (some ⟨b, off, none⟩) k cap) w' := fun w' => by
    rw [hr1 w', hsz]
    simp [sliced, Addr.add]
  by_cases he : k + 1 < Ls.length
  · obtain ⟨xs2, h2⟩ := rowS_drop (cap := cap - (k + 1)) (k + 1) he h
    refine ⟨some ⟨b, off + (k + 1), none⟩, xs1, xs2, g1, fun w' => ?_, h1, h2⟩
    rw [hr2 w', hsz, hN]
    have hne : ¬ cap = k + 1 := by omega
    simp [sliced, hne, Addr.add]
  · have hl : Ls.length = k + 1 := by omega
    have hd : Ls.drop (k + 1) = [] := by rw [← hl, List.drop_length]
    have h2 : ∀ qb qo : Nat, RowS p w (.slice (some ⟨qb, qo, none⟩) (Ls.length - (k + 1)) (cap - (k + 1))) (Ls.drop (k + 1)) [] := fun qb qo => by
      rw [hd, hl, Nat.sub_self]
      exact ⟨Or.inr ⟨qb, qo, _, rfl, rfl, fun j u hu => by simp at hu, fun u hu => by cases hu⟩, rfl⟩
    by_cases hce : cap = k + 1
    · refine ⟨some ⟨b, off, none⟩, xs1, [], g1, fun w' => ?_, h1, h2 _ _⟩
      rw [hr2 w', hsz, hN]
      simp [sliced, hce]
    · refine ⟨some ⟨b, off + (k + 1), none⟩, xs1, [], g1, fun w' => ?_, h1, h2 _ _⟩
      rw [hr2 w', hsz, hN]
      simp [sliced, hce, Addr.add]
end Go.Proofs.YtbkedppkdhfpoabGreat

namespace Go.Proofs.YtbkedppkdhfpoabGreat
open Go.RowKit Go.Maps

theorem eg111 (args : Array Value) (w : World) : (callFunc 111 args).run Tryz.prog w = .ok (.enter 111 args) w := by kernel_rfl
attribute [local go_sem ↓] Go.wp_at_zero Go.wp_at_succ
set_option maxRecDepth 100000 in
set_option maxHeartbeats 1000000 in
theorem fits1_any (p : Nat → Prop) (Ls : List (List Way)) (k : Nat) (g : Way) (b n : Nat) (a : Option Addr) (cap pb kb : Nat) (w : World) (hk : k < Ls.length) (hl : Ls.length ≤ 1000) (hcap : Ls.length ≤ cap) (hpw : ∀ k, p k → k < w.heap.size) (hgz : WaySz g) (hg : WayAt p w b n g) (hr : RowE p (ListV p w) w Ls a) (c0 : w.cell? ⟨pb, 0, none⟩ = some (.slice a Ls.length cap)) (c1 : w.cell? ⟨kb, 0, none⟩ = some (.int .i64 (k : Int)))
    (ih : ∀ (p' : Nat → Prop) (Rs : List (List Way)) (a' : Option Addr) (cap' : Nat) (w' : World), Rs.length + 1 = Ls.length → Rs.length ≤ cap' → RowE p' (ListV p' w') w' Rs a' → Calls Tryz.prog 48 #[.slice a' Rs.length cap'] w' fun e w'' => Says (Fit Rs) e ∧ Below w'.heap.size w' w'') :
    Calls Tryz.prog 111 #[.map (some b), .pointer (some ⟨pb, 0, none⟩), .pointer (some ⟨kb, 0, none⟩)] w fun e w' => Says (FitW g (Ls.take k ++ Ls.drop (k + 1))) e ∧ Below w.heap.size w w' := by
  obtain ⟨rb, ro, rfl⟩ := RowE_some hr (by omega)
  obtain ⟨pa, xs1, xs2, hs1, hs2, hr1, hr2⟩ := cutL hr hcap hk
  have hwr : IntKind.i64.wrap ((k : Int) + 1) = (k : Int) + 1 := wrap_ok _ (by omega) (by omega)
  have ht1 : (Ls.take k).length = k := by rw [List.length_take]; omega
  have ht2 : (Ls.drop (k + 1)).length = Ls.length - (k + 1) := List.length_drop
  have HA := hide (fun (w' : World) (q : Nat) (hb : Below w.heap.size w w') (q0 : w'.cell? ⟨q, 0, none⟩ = some (.slice (some ⟨rb, ro, none⟩) k cap)) (q1 : w'.cell? ⟨q, 1, none⟩ = some (.slice pa (Ls.length - (k + 1)) (cap - (k + 1)))) =>
    agreeing_any p g b n (Ls.take k) (Ls.drop (k + 1)) (.slice (some ⟨rb, ro, none⟩) k cap) (.slice pa (Ls.length - (k + 1)) (cap - (k + 1))) q 2 xs1 xs2 (some ⟨rb, ro, none⟩) cap pa (cap - (k + 1)) w' hgz (hg.below hb) (by rw [ht1]) (by rw [ht2]) (fun j hj => Nat.lt_of_lt_of_le (hpw j hj) hb.size) (by omega) (by omega) q0 q1 ⟨SrcE_below hb hr1.src, KidsE_imp (fun x v => ListV_stays _ _ _ _ x v (fun j hj hlt => ⟨hj, hb.block j hlt⟩)) hr1.kid⟩ ⟨SrcE_below hb hr2.src, KidsE_imp (fun x v => ListV_stays _ _ _ _ x v (fun j hj hlt => ⟨hj, hb.block j hlt⟩)) hr2.kid⟩)
  have Hih := hide ih
  have HC0 := hide c0
  have HC1 := hide c1
  have HK : Hid (∀ w', Below w.heap.size w w' → w'.cell? ⟨pb, 0, none⟩ = some (.slice (some ⟨rb, ro, none⟩) Ls.length cap) ∧ w'.cell? ⟨kb, 0, none⟩ = some (.int .i64 (k : Int))) := fun w' hb => ⟨cell_below hb c0, cell_below hb c1⟩
  have Hln : Hid (∀ Rs, FiltL g (Ls.take k ++ Ls.drop (k + 1)) Rs → Rs.length + 1 = Ls.length) := fun Rs h => by rw [h.1, List.length_append, ht1, ht2]; omega
  obtain ⟨N, hN⟩ : ∃ N, N = Ls.take k ++ Ls.drop (k + 1) := ⟨_, rfl⟩
  rw [← hN] at HA Hln ⊢
  have HA1 := hide (HA.out (w.alloc (.cells #[.slice (some ⟨rb, ro, none⟩) k cap, .slice pa (Ls.length - (k + 1)) (cap - (k + 1))] 84)).drew w.heap.size (Below.drew (below1 _ _)) (cell_new 0 rfl) (cell_new 1 rfl))
  have HbW : Hid (Below w.heap.size w (w.alloc (.cells #[.slice (some ⟨rb, ro, none⟩) k cap, .slice pa (Ls.length - (k + 1)) (cap - (k + 1))] 84)).drew) := Below.drew (below1 _ _)
  clear HA
  clear hN ih hr hr1 hr2 hg hgz hpw ht1 ht2
  go_enter Tryz.func111, Tryz.ntmps111
  go_wp2_with fail
  go_region_held3 (fun w' => w'.cell? ⟨pb, 0, none⟩ = some (.slice (some ⟨rb, ro, none⟩) Ls.length cap) ∧ w'.cell? ⟨kb, 0, none⟩ = some (.int .i64 (k : Int))) ((first | with_reducible exact HK.out _ (Hid.out Hb3) | with_reducible exact HK.out _ (Hid.out Hb2) | go_keep)) ((
    first
    | (go_at_call 112
       refine HA1.out.mono ?_
       rintro e w2 ⟨⟨Rs, ra, rc, rfl, hrc, hF, hR⟩, hb2⟩
       have Hb2 := hide (HbW.out.trans (hb2.mono HbW.out.size))
       have HF := hide hF
       have HI := hide (Hih.out _ Rs ra rc w2 (Hln.out Rs hF) hrc hR)
       clear hF hR hb2)
    | (go_at_call 48
       refine HI.out.mono ?_
       rintro e w3 ⟨⟨r, rfl, hr⟩, hb3⟩
       have Hb3 := hide (Hb2.out.trans (hb3.mono Hb2.out.size))
       have Hr := hide hr
       clear hb3 hr)))
  go_wp2_with fail
  go_ret
  exact ⟨⟨r, rfl, Hr.out.trans (fit_filt HF.out)⟩, Hb3.out⟩
set_option maxRecDepth 100000 in
set_option maxHeartbeats 1000000 in
theorem fits_step (p : Nat → Prop) (Ls : List (List Way)) (a : Option Addr) (cap : Nat) (w : World) (hl : Ls.length ≤ 1000) (hcap : Ls.length ≤ cap) (hr : RowE p (ListV p w) w Ls a)
    (ih : ∀ (p' : Nat → Prop) (Rs : List (List Way)) (a' : Option Addr) (cap' : Nat) (w' : World), Rs.length + 1 = Ls.length → Rs.length ≤ cap' → RowE p' (ListV p' w') w' Rs a' → Calls Tryz.prog 48 #[.slice a' Rs.length cap'] w' fun e w'' => Says (Fit Rs) e ∧ Below w'.heap.size w' w'') :
    Calls Tryz.prog 48 #[.slice a Ls.length cap] w fun e w' => Says (Fit Ls) e ∧ Below w.heap.size w w' := by
  by_cases h0 : Ls.length = 0
  · obtain rfl : Ls = [] := List.length_eq_zero_iff.1 h0
    have Hf := hide fit_nil
    clear hr ih
    go_enter Tryz.func48, Tryz.ntmps48
    go_wp2_with fail
    go_ret
    exact ⟨says_yes Hf.out, below1 _ _⟩
  · obtain ⟨rb, ro, rfl⟩ := RowE_some hr (by omega)
    have hL0 : ¬ ((Ls.length : Int) = 0) := by omega
    obtain ⟨W0, hW0⟩ : ∃ W0, W0 = w.alloc (.cells #[.slice (some ⟨rb, ro, none⟩) Ls.length cap] 84) := ⟨_, rfl⟩
    have hb0 : Below w.heap.size w W0 := by rw [hW0]; exact below1 _ _
    have hz0 : W0.heap.size = w.heap.size + 1 := by rw [hW0]; simp
    have hr0 : RowE (fun k => p k ∧ k < w.heap.size) (ListV (fun k => p k ∧ k < w.heap.size) W0) W0 Ls (some ⟨rb, ro, none⟩) := RowE_mono hr (fun k hk hlt => ⟨⟨hk, hlt⟩, hb0.block k hlt⟩) (fun x v => ListV_stays _ _ _ _ x v (fun k hk hlt => ⟨⟨hk, hlt⟩, hb0.block k hlt⟩))
    have c0 : W0.cell? ⟨w.heap.size, 0, none⟩ = some (.slice (some ⟨rb, ro, none⟩) Ls.length cap) := by rw [hW0]; exact cell_new 0 rfl
    have HS := hide (shortest_any _ Ls _ cap W0 (by omega) (by omega) hr0)
    have Hr0 := hide hr0
    have Hih := hide ih
    have HW0 := hide hW0
    have Hb0 := hide hb0
    clear hr hr0 ih hW0 hb0
    go_enter Tryz.func48, Tryz.ntmps48
    go_upto_region 1 with fail
    rw [← HW0.out]
    go_wp2_with fail
    refine HS.out.mono ?_
    rintro e w1 ⟨⟨k, hk, rfl⟩, rfl⟩
    obtain ⟨gs, hgs⟩ : ∃ gs, Ls[k]? = some gs := ⟨Ls[k], List.getElem?_eq_getElem hk⟩
    obtain ⟨v, hv, ga, gc, rfl, hgl, hgr⟩ := RowE_at Hr0.out hgs
    obtain ⟨W2, hW2⟩ : ∃ W2, W2 = w1.alloc (.cells #[.int .i64 (k : Int)] 3) := ⟨_, rfl⟩
    have hb2 : Below w1.heap.size w1 W2 := by rw [hW2]; exact below1 _ _
    have c2 : W2.cell? ⟨w.heap.size, 0, none⟩ = some (.slice (some ⟨rb, ro, none⟩) Ls.length cap) := cell_below hb2 c0
    have k2 : W2.cell? ⟨w.heap.size + 1, 0, none⟩ = some (.int .i64 (k : Int)) := by rw [hW2, ← hz0]; exact cell_new 0 rfl
    have v2 := cell_below hb2 hv
    have HB2 := hide (Hb0.out.trans (hb2.mono Hb0.out.size))
    have hz2 : w.heap.size ≤ W2.heap.size := HB2.out.size
    have Hr2 := hide (RowE_mono Hr0.out (w' := W2) (q := fun k => p k ∧ k < w.heap.size) (F := ListV (fun k => p k ∧ k < w.heap.size) W2) (fun j hj hlt => ⟨hj, hb2.block j hlt⟩) (fun x u => ListV_stays _ _ _ _ x u (fun j hj hlt => ⟨hj, hb2.block j hlt⟩)))
    have HC2 := hide c2
    have HK2 := hide k2
    have HF := hide (fun (w' : World) (g : Way) (bb n : Nat) (hb : Below W2.heap.size W2 w') (_ : g ∈ gs) (hz : WaySz g) (_ : n ≤ 2000) (hW : WayAt (fun k => p k ∧ k < w.heap.size) w' bb n g) =>
      fits1_any (fun k => p k ∧ k < w.heap.size) Ls k g bb n (some ⟨rb, ro, none⟩) cap w.heap.size (w.heap.size + 1) w' hk hl hcap (fun j hj => by have := hb.size; omega) hz hW (RowE_mono Hr2.out (fun j hj hlt => ⟨hj, hb.block j hlt⟩) (fun x u => ListV_stays _ _ _ _ x u (fun j hj hlt => ⟨hj, hb.block j hlt⟩))) (cell_below hb HC2.out) (cell_below hb HK2.out) Hih.out)
    have HX := hide (containsW2_any (F := 111) (P := .pointer (some ⟨w.heap.size, 0, none⟩)) (P2 := .pointer (some ⟨w.heap.size + 1, 0, none⟩)) (Q := fun g => FitW g (Ls.take k ++ Ls.drop (k + 1))) (fun k => p k ∧ k < w.heap.size) gs ga gc W2 (by omega) eg111 HF.out (RowE_mono hgr (fun j hj hlt => ⟨hj, hb2.block j hlt⟩) (fun x u => WayV_stays _ _ _ _ x u (fun j hj hlt => ⟨hj, hb2.block j hlt⟩))))
    have HQ := hide (fit_cut hgs)
    have HW2 := hide hW2
    have hkI : (k : Int) < Ls.length := by omega
    have hk0 : (0 : Int) ≤ k := by omega
    clear hW2 hb2 hv hgr hgs c0 Hr0 HF HS Hr2
    go_upto_region 4 with fail
    rw [← HW2.out]
    go_wp2_with fail
    refine HX.out.mono ?_
    rintro e w3 ⟨⟨r, rfl, hr⟩, hb3⟩
    have Hr := hide (hr.trans HQ.out.symm)
    have Hb3 := hide (HB2.out.trans (hb3.mono hz2))
    clear hr hb3 HX HQ
    go_wp2_with fail
    go_ret
    exact ⟨⟨r, rfl, Hr.out⟩, Hb3.out⟩
/-- Can one be taken of each list, so that all agree? -/
theorem fits_any : ∀ (m : Nat) (p : Nat → Prop) (Ls : List (List Way)) (a : Option Addr) (cap : Nat) (w : World), Ls.length ≤ m → Ls.length ≤ 1000 → Ls.length ≤ cap → RowE p (ListV p w) w Ls a →
    Calls Tryz.prog 48 #[.slice a Ls.length cap] w fun e w' => Says (Fit Ls) e ∧ Below w.heap.size w w' := by
  intro m
  induction m with
  | zero => intro p Ls a cap w hm hl hc hr; exact fits_step p Ls a cap w hl hc hr (fun _ Rs _ _ _ h => by omega)
  | succ m ih => intro p Ls a cap w hm hl hc hr; exact fits_step p Ls a cap w hl hc hr (fun p' Rs a' cap' w' h h1 h2 => ih p' Rs a' cap' w' (by omega) (by omega) h1 h2)
end Go.Proofs.YtbkedppkdhfpoabGreat

namespace Go.Proofs.YtbkedppkdhfpoabGreat
open Go.RowKit Go.Maps

/-- A block whose first cells hold these numbers. -/
def RowI (w : World) (g cap : Nat) (zs : List Int) : Prop := ∃ cur, w.heap[g]? = some (.cells cur 3 (0, 0)) ∧ zs.length ≤ cap ∧ cap ≤ maxLen ∧ cur.size = cap ∧ ∀ (i : Nat) (z : Int), zs[i]? = some z → cur[i]? = some (.int .i64 z)
theorem RowI.own {w : World} {B g cap : Nat} {zs : List Int} (h : RowI w g cap zs) (hB : B ≤ g) : OwnI B w (.slice (some ⟨g, 0, none⟩) zs.length cap) zs := by
  obtain ⟨cur, h1, h2, h3, h4, h5⟩ := h
  refine ⟨by simp, Or.inr ⟨g, cap, cur, rfl, hB, h1, h2, h3, by omega, ?_⟩⟩
  apply List.ext_getElem?
  intro i
  by_cases hi : i < zs.length
  · rw [List.getElem?_take_of_lt (by omega), List.getElem?_map, List.getElem?_eq_getElem hi]
    have := h5 i _ (List.getElem?_eq_getElem hi)
    simpa using this
  · rw [List.getElem?_eq_none (by rw [List.length_take]; omega), List.getElem?_eq_none (by simp; omega)]
theorem rowI_own {w : World} {B g cap : Nat} {zs : List Int} (h : w.ownsRow B 3 1 (.slice (some ⟨g, 0, none⟩) zs.length cap) zs.length (zs.map (Value.int .i64))) : RowI w g cap zs := by
  rcases h.2 with ⟨e, _⟩ | ⟨g', cap', cur, he, hb, hg, hc, hm, hs, ht⟩
  · cases e
  · simp only [Value.slice.injEq, Option.some.injEq, Addr.mk.injEq, and_true, true_and] at he
    obtain ⟨rfl, rfl⟩ := he
    refine ⟨cur, hg, hc, hm, by omega, fun i z hz => ?_⟩
    have hi := (List.getElem?_eq_some_iff.1 hz).1
    have : (cur.toList.take (zs.length * 1))[i]? = some (.int .i64 z) := by rw [ht, List.getElem?_map, hz]; rfl
    rw [List.getElem?_take_of_lt (by omega)] at this
    simpa using this
theorem own_mono {w : World} {B B' : Nat} {e : TypeId} {n : Nat} {v : Value} {xs : List Value} (h : w.ownsRow B e 1 v n xs) (hB : B' ≤ B) : w.ownsRow B' e 1 v n xs := by
  refine ⟨h.1, ?_⟩
  rcases h.2 with h0 | ⟨g, cap, cur, h1, h2, h3⟩
  · exact Or.inl h0
  · exact Or.inr ⟨g, cap, cur, h1, by omega, h3⟩
theorem RowI.put {w : World} {g cap : Nat} {zs ys : List Int} (h : RowI w g cap zs) (n : Nat) (hl : ys.length = zs.length) : RowI (Sort.putRow (Value.int .i64) (Sort.ahead w n) g 0 ys.toArray) g cap ys := by
  obtain ⟨cur, h1, h2, h3, h4, h5⟩ := h
  refine ⟨Sort.putCells (Value.int .i64) 0 ys.toArray cur, ?_, by omega, h3, by simp [Sort.putCells, h4], fun i z hz => ?_⟩
  · simp [Sort.putRow, Sort.mapBlock, Array.getElem?_modify, Sort.ahead, h1, Sort.onCells]
  · have hi := (List.getElem?_eq_some_iff.1 hz).1
    have hic : i < cur.size := by omega
    simp only [Sort.putCells, Array.getElem?_mapIdx, Array.getElem?_eq_getElem hic, Option.map_some, Nat.zero_add, Nat.zero_le, true_and, List.size_toArray, hi, if_true, Nat.sub_zero]
    congr 2
    simp [hz]
theorem RowI.take {w : World} {g cap : Nat} {zs ys : List Int} (h : RowI w g cap (zs ++ ys)) : RowI w g cap zs := by
  obtain ⟨cur, h1, h2, h3, h4, h5⟩ := h
  rw [List.length_append] at h2
  exact ⟨cur, h1, by omega, h3, h4, fun i z hz => h5 i z (by rw [List.getElem?_append_left (List.getElem?_eq_some_iff.1 hz).1]; exact hz)⟩
theorem RowI.block {w w' : World} {g cap : Nat} {zs : List Int} (h : RowI w g cap zs) (hb : w'.heap[g]? = w.heap[g]?) : RowI w' g cap zs := by
  obtain ⟨cur, h1, h2⟩ := h
  exact ⟨cur, by rw [hb]; exact h1, h2⟩
theorem sortI_any (g cap : Nat) (zs : List Int) (w : World) (hH : Sort.Holds (Value.int .i64) w g 0 zs.toArray) (hR : RowI w g cap zs) (hg : g < w.heap.size) (hn : zs.length ≤ 2000) :
    Calls Tryz.prog 130 #[.slice (some ⟨g, 0, none⟩) zs.length cap] w fun e w' => e = .returned (.tuple #[]) ∧ Keeps g noFoot w w' ∧ Sort.Holds (Value.int .i64) w' g 0 (zs.mergeSort fun x y => decide (x ≤ y)).toArray ∧ RowI w' g cap (zs.mergeSort fun x y => decide (x ≤ y)) := by
  refine (Tryz.slices_Sort_int g 0 cap zs w hH hg (by omega)).mono ?_
  rintro e w' ⟨rfl, n, os, rfl⟩
  refine ⟨rfl, ⟨rfl, rfl, rfl, by simp, fun k hk hkg _ => ?_, fun _ h => h.elim⟩, ?_, ?_⟩
  · rw [Sort.heap_grow_old _ _ (by simpa using hk), putRow_block hkg]; rfl
  · refine Sort.holds_grow _ _ _ _ _ _ (by simpa using hg) (Sort.holds_putRow _ _ _ _ zs.toArray _ hH (by simp))
  · exact (hR.put n (by simp)).block (Sort.heap_grow_old _ _ (by simpa using hg))
theorem compactI_any (g cap : Nat) (zs : List Int) (w : World) (hH : Sort.Holds (Value.int .i64) w g 0 zs.toArray) (hR : RowI w g cap zs) (hcap : zs.length ≤ cap) (hn : zs.length ≤ 2000) :
    Calls Tryz.prog 131 #[.slice (some ⟨g, 0, none⟩) zs.length cap] w fun e w' => e = .returned (.slice (some ⟨g, 0, none⟩) (Lib.compact zs).length cap) ∧ Keeps g noFoot w w' ∧ Ints w' (Lib.compact zs) (some ⟨g, 0, none⟩) ∧ RowI w' g cap (Lib.compact zs) := by
  refine (Tryz.slices_Compact_int g 0 cap zs w hH (by omega) hcap).mono ?_
  rintro e w' ⟨rfl, q, rfl⟩
  have hle := compact_le zs
  refine ⟨rfl, ⟨rfl, rfl, rfl, by simp, fun k hk hkg _ => ?_, fun _ h => h.elim⟩, Or.inr ⟨g, 0, rfl, fun i hi => ?_⟩, ?_⟩
  · rw [putRow_block hkg]; rfl
  · have h1 := Sort.cell?_putRow (Value.int .i64) (Sort.ahead w q) g 0 zs.toArray (Lib.compact zs ++ List.replicate (zs.length - (Lib.compact zs).length) 0).toArray hH (by simp; omega) i (by simp; omega)
    rw [h1]
    congr 1
    simp [List.getElem?_append_left hi, List.getD]
  · exact RowI.take (ys := List.replicate (zs.length - (Lib.compact zs).length) 0) (hR.put q (by simp; omega))
/-- Numbers in a row of the call's own, and an error, handed back. -/
def GivesOwn (B : Nat) (zs : List Int) (err : Int) (e : Ending) (w' : World) : Prop := ∃ v, e = .returned (.tuple #[v, .int .i64 err]) ∧ OwnI B w' v zs
attribute [local go_sem ↓] Go.wp_at_zero Go.wp_at_succ
set_option maxRecDepth 100000 in
set_option maxHeartbeats 1000000 in
theorem Vars_own (ar : List Int) (ga : Option Addr) (gcap : Nat) (t : T) (a : Option Addr) (cap : Nat) (w : World) (hg : Ints w ar ga) (hin : InL w t.args a) (hszok : allErr ar [t] = 0 → t.sz ≤ 120) :
    Calls Tryz.prog 123 #[.agg #[.slice ga ar.length gcap], .agg #[.int .i64 t.v, .int .i64 t.f, .slice a t.args.length cap]] w fun e w' =>
      GivesOwn w.heap.size (varsSpec ar t) (allErr ar [t]) e w' ∧ Below w.heap.size w w' := by
  have hmf : ∀ (fn : Fn) (first cap : Array Value) (w : World), (Instr.makeFunc fn first cap).run Tryz.prog w = .ok (.func fn first cap) w := fun _ _ _ _ => rfl
  have Hg := hide (fun o1 o2 o3 => Ints_alloc o3 (Ints_alloc o2 (Ints_alloc o1 hg)))
  have Hin := hide (fun o1 o2 e => InP_new1 (n := w.heap.size + 1 + 1) (cap := cap) e (by simp) trivial (InP_alloc o2 (InP_alloc o1 hin)))
  have hs1 : T.sz.szL [t] = t.sz := by rw [T.szL_cons, T.szL_nil]; omega
  have Hs1 := hide hs1
  clear hg hs1
  go_enter Tryz.func123, Tryz.ntmps123
  go_wp2_with fail
  refine (check_any ar ga gcap [t] _ 1 _ (Hg.out _ _ _) (Hin.out _ _ _) (by simp)).mono ?_
  rintro e w1 ⟨rfl, hb1⟩
  have hbw : Below w.heap.size w w1 := (((below1 _ _).alloc (by simp) _).alloc (by simp; omega) _).trans (hb1.mono (by simp; omega))
  have hz1 : w.heap.size + 1 < w1.heap.size := by have := hb1.size; simp at this; omega
  have h3t : Three w1 (w.heap.size + 1) (.int .i64 t.v) (.int .i64 t.f) (.slice a t.args.length cap) := ((Three.new _ (by simp)).alloc _).below hb1
  clear hb1
  by_cases hs : allErr ar [t] = 0
  · have hsz := hszok hs
    have hsp : varsSpec ar t = varsT t := by rw [varsSpec, if_pos hs]
    have Hsp := hide hsp
    have Hs := hide hs
    rw [hs]
    obtain ⟨d0, d1, d2, _, _, _⟩ := h3t
    have hin1 := InP_lt (InP_below hbw hin)
    have hin2 : ∀ e1 e2, InP (fun k => k < w1.heap.size + 2 ∧ k ≠ w1.heap.size) ((w1.alloc (.cells #[.slice none 0 0] e1)).alloc (.cells #[.int .i64 t.v, .int .i64 t.f, .slice a t.args.length cap] e2)) [t] (some ⟨w1.heap.size + 1, 0, none⟩) :=
      fun e1 e2 => InP_new1 e2 (by simp) (by constructor <;> simp) (InP_alloc _ (InP_imp (fun k h => by omega) hin1))
    have hst : ∀ o2, VarsAt w1.heap.size (w1.heap.size + 2) ((w1.alloc (.cells #[.slice none 0 0] 22)).alloc o2) [] := fun o2 =>
      VarsAt.below ⟨.slice none 0 0, heap_alloc_new w1 _, ⟨rfl, Or.inl ⟨rfl, rfl⟩⟩⟩ (below1 _ _)
    have hft : ∀ o2, Foot w1.heap.size (w1.heap.size + 2) slFoot ((w1.alloc (.cells #[.slice none 0 0] 22)).alloc o2) := fun o2 =>
      ⟨by simp; omega, by simp, fun k hk => by
        rw [Below.heap_alloc _ _ _ (by simp), foot_of (heap_alloc_new w1 _)] at hk; cases hk⟩
    have Hin2 := hide hin2
    have Hst := hide hst
    have Hft := hide hft
    clear hin1 hin2 hst hft hs hsp
    go_wp2_with fail
    refine (look_vars _ (w1.heap.size + 2) [t] _ 1 _ (by omega) (by rw [Hs1.out]; omega) (Hft.out _) (Hin2.out _ _) (Hst.out _)).mono ?_
    rintro e w2 ⟨rfl, hvars, hkeep⟩
    have hb2 : Below w.heap.size w w2 := ((hbw.alloc (by omega) _).alloc (by simp; omega) _).trans (Below.of_keepsF hkeep (by omega) (by simp; omega) (fun k hk => by have := (Hft.out _).rng k hk; omega))
    have hsz2 := hkeep.size
    simp at hsz2
    have hle := allVars_le t
    change VarsAt w1.heap.size (w1.heap.size + 2) w2 (allVars t) at hvars
    obtain ⟨v, hv, hown⟩ := hvars
    obtain ⟨va, vc, rfl⟩ := own_shape hown
    have cv : w2.cell? ⟨w1.heap.size, 0, none⟩ = some (.slice va (allVars t).length vc) := by simp [World.cell?, hv]
    have Hv := hide hv
    have Hown := hide hown
    clear hkeep hv hown Hft Hin2 Hst
    clear hszok
    by_cases hnil : (allVars t).length = 0
    · have hv0 : varsSpec ar t = [] := by
        rw [Hsp.out, varsT, List.length_eq_zero_iff.1 hnil, List.mergeSort_nil]; rfl
      have Hv0 := hide hv0
      have Hvn : Hid (OwnI w.heap.size w2 (.slice va 0 vc) []) := by
        have h := Hown.out
        rw [List.length_eq_zero_iff.1 hnil] at h
        exact own_mono h (by omega)
      rw [hnil] at cv
      clear hnil hv0
      go_wp2_with fail
      refine (Tryz.slices_Sort_int_none va vc _).mono ?_
      rintro e w3 ⟨rfl, rfl⟩
      go_wp2_with fail
      refine (Tryz.slices_Compact_int_empty va vc _).mono ?_
      rintro e w4 ⟨rfl, rfl⟩
      go_wp2_with fail
      go_ret2
      exact ⟨by rw [Hv0.out, Hs.out]; exact ⟨_, rfl, Hvn.out⟩, hb2⟩
    · have hpos : 0 < (allVars t).length := by omega
      obtain ⟨g, cap2, hform, hBg, hglt⟩ := Hown.out.form hpos
      simp only [Value.slice.injEq, true_and] at hform
      obtain ⟨rfl, rfl⟩ := hform
      obtain ⟨hH, _, hcap⟩ := holds_own Hown.out hpos
      have HH := hide hH
      have HRi := hide (rowI_own Hown.out)
      have hlen : ((allVars t).mergeSort fun x y => decide (x ≤ y)).length = (allVars t).length := List.length_mergeSort _
      have Hlen := hide hlen
      clear hH hlen hnil
      go_wp2_with fail
      refine (sortI_any g vc (allVars t) _ HH.out HRi.out hglt (by omega)).mono ?_
      rintro e w3 ⟨rfl, hk3, hH3, hR3⟩
      have HR3 := hide hR3
      clear hR3
      have hz3 := hk3.size
      have cv3 : w3.cell? ⟨w1.heap.size, 0, none⟩ = some (.slice (some ⟨g, 0, none⟩) (allVars t).length vc) := by
        rw [World.cell?_of_block (w := w2) (a := ⟨w1.heap.size, 0, none⟩) (hk3.block w1.heap.size (by omega) (by omega) (fun h => h))]; exact cv
      have Hb3 := hide (hb2.trans (Below.of_keeps (B := w.heap.size) hk3 (by omega) (by have := hb2.size; omega)))
      have hH3' := hide hH3
      clear hk3 hH3
      go_wp2_with fail
      have hcm := compactI_any g vc ((allVars t).mergeSort fun x y => decide (x ≤ y)) w3 hH3'.out HR3.out (by rw [Hlen.out]; exact hcap) (by rw [Hlen.out]; omega)
      rw [Hlen.out] at hcm
      refine hcm.mono ?_
      rintro e w4 ⟨rfl, hk4, hI, hR4⟩
      have HR4 := hide hR4
      clear hR4
      clear hcm
      have hsp4 : varsSpec ar t = Lib.compact ((allVars t).mergeSort fun x y => decide (x ≤ y)) := Hsp.out
      have Hsp4 := hide hsp4
      have Hb4 := hide (Hb3.out.trans (Below.of_keeps (B := w.heap.size) hk4 (by omega) (by have := Hb3.out.size; omega)))
      have HI := hide hI
      clear hsp4 hk4 hI
      go_wp2_with fail
      go_ret2
      exact ⟨by rw [Hsp4.out, Hs.out]; exact ⟨_, rfl, HR4.out.own (by omega)⟩, Hb4.out⟩
  · have hs1 : (allErr ar [t] != 0) = true := by simpa using hs
    have hsp : varsSpec ar t = [] := by rw [varsSpec, if_neg hs]
    have Hsp := hide hsp
    clear hs hsp hszok
    go_wp2_with fail
    go_ret2
    exact ⟨by rw [Hsp.out]; exact ⟨_, rfl, rfl, Or.inl ⟨rfl, rfl⟩⟩, hbw⟩
end Go.Proofs.YtbkedppkdhfpoabGreat

namespace Go.Proofs.YtbkedppkdhfpoabGreat
open Go.RowKit Go.Maps

theorem ty_ints : OneTy 22 3 (.int .i64 0) 8 := ⟨by kernel_rfl, by kernel_rfl, rfl, by decide⟩
theorem Tryz.underC : Tryz.prog.underlying 106 = some (.map 3 3) := by kernel_rfl
theorem Tryz.zeroC (w : World) : (zeroValue 3).run Tryz.prog w = .ok (.int .i64 0) w := by kernel_rfl
theorem src_own {B : Nat} {w : World} {v : Value} {zs : List Int} (h : OwnI B w v zs) : SrcE w v zs.length (zs.map (Value.int .i64)) := by
  rcases h.2 with ⟨h1, h2⟩ | ⟨g, cap, cur, h1, _⟩
  · exact Or.inl ⟨h1, h2, by rw [List.length_eq_zero_iff.1 h2]; rfl⟩
  · by_cases h0 : 0 < zs.length
    · obtain ⟨g', cap', e, _, _, hc⟩ := own_cellsN h h0
      exact Or.inr ⟨g', 0, cap', e, by simp, fun j u hu => by rw [Nat.zero_add]; exact hc j u hu, fun u hu => by
        obtain ⟨z, _, rfl⟩ := List.mem_map.1 hu
        rfl⟩
    · have : zs = [] := List.length_eq_zero_iff.1 (by omega)
      subst this
      exact Or.inr ⟨g, 0, cap, h1, rfl, fun j u hu => by simp at hu, fun u hu => by cases hu⟩
theorem keeps_below {B g : Nat} {w w' : World} (h : Keeps g noFoot w w') (hg : B ≤ g) (hB : B ≤ w.heap.size) : Below B w w' := Below.of_keeps h hg hB
/-- A row of the call's own, sorted. -/
theorem sortO_any (B : Nat) (va : Option Addr) (vc : Nat) (zs : List Int) (w : World) (h : OwnI B w (.slice va zs.length vc) zs) (hB : B ≤ w.heap.size) (hn : zs.length ≤ 2000) :
    Calls Tryz.prog 130 #[.slice va zs.length vc] w fun e w' => e = .returned (.tuple #[]) ∧ OwnI B w' (.slice va zs.length vc) (zs.mergeSort fun x y => decide (x ≤ y)) ∧ Below B w w' := by
  by_cases h0 : 0 < zs.length
  · obtain ⟨g, cap, he, hb, hlt, _⟩ := own_cellsN h h0
    simp only [Value.slice.injEq, true_and] at he
    obtain ⟨rfl, rfl⟩ := he
    obtain ⟨hH, _, hcap⟩ := holds_own h h0
    refine (sortI_any g vc zs w hH (rowI_own h) hlt hn).mono ?_
    rintro e w' ⟨rfl, hk, _, hR⟩
    have h9 := hR.own hb
    rw [List.length_mergeSort] at h9
    exact ⟨rfl, h9, keeps_below hk hb hB⟩
  · obtain rfl : zs = [] := List.length_eq_zero_iff.1 (by omega)
    refine (Tryz.slices_Sort_int_none va vc _).mono ?_
    rintro e w' ⟨rfl, rfl⟩
    exact ⟨rfl, by rw [List.mergeSort_nil]; exact h, Below.refl _ _⟩
/-- A row of the call's own, each number once. -/
theorem compactO_any (B : Nat) (va : Option Addr) (vc : Nat) (zs : List Int) (w : World) (h : OwnI B w (.slice va zs.length vc) zs) (hB : B ≤ w.heap.size) (hn : zs.length ≤ 2000) :
    Calls Tryz.prog 131 #[.slice va zs.length vc] w fun e w' => e = .returned (.slice va (Lib.compact zs).length vc) ∧ OwnI B w' (.slice va (Lib.compact zs).length vc) (Lib.compact zs) ∧ Below B w w' := by
  by_cases h0 : 0 < zs.length
  · obtain ⟨g, cap, he, hb, hlt, _⟩ := own_cellsN h h0
    simp only [Value.slice.injEq, true_and] at he
    obtain ⟨rfl, rfl⟩ := he
    obtain ⟨hH, _, hcap⟩ := holds_own h h0
    refine (compactI_any g vc zs w hH (rowI_own h) hcap hn).mono ?_
    rintro e w' ⟨rfl, hk, _, hR⟩
    exact ⟨rfl, hR.own hb, keeps_below hk hb hB⟩
  · obtain rfl : zs = [] := List.length_eq_zero_iff.1 (by omega)
    refine (Tryz.slices_Compact_int_empty va vc _).mono ?_
    rintro e w' ⟨rfl, rfl⟩
    exact ⟨rfl, h, Below.refl _ _⟩
/-- The variables of a literal, rising, each once. -/
def litVars (x : Lit) : List Int := Lib.compact ((varsT x.2.1 ++ varsT x.2.2).mergeSort fun x y => decide (x ≤ y))
theorem litVars_mem {x : Lit} {v : Int} : v ∈ litVars x ↔ v ∈ varsT x.2.1 ∨ v ∈ varsT x.2.2 := by
  have := @clVars_mem [x] v
  rw [clVars] at this
  have e : clNums [x] = varsT x.2.1 ++ varsT x.2.2 := by simp [clNums]
  rw [e, List.mem_append] at this
  exact this
theorem litVars_up (x : Lit) : (litVars x).Pairwise (· < ·) := (compact_facts _ (sort_facts _).1).1
theorem litVars_le (x : Lit) : (litVars x).length ≤ (varsT x.2.1).length + (varsT x.2.2).length := by
  have h1 := compact_le ((varsT x.2.1 ++ varsT x.2.2).mergeSort fun x y => decide (x ≤ y))
  rw [List.length_mergeSort, List.length_append] at h1
  exact h1
/-- In how many literals a variable stands. -/
def stand (c : List Lit) (v : Int) : Nat := (c.filter fun x => decide (v ∈ litVars x)).length
/-- A map holds these counts. -/
def Cnt (h : Int → Nat) (f : Int → Option Value) : Prop := ∀ v, f v = if h v = 0 then none else some (.int .i64 (h v : Int))
theorem stand_take {c : List Lit} {k : Nat} {x : Lit} (hx : c[k]? = some x) (v : Int) : stand (c.take (k + 1)) v = stand (c.take k) v + if v ∈ litVars x then 1 else 0 := by
  rw [stand, stand, List.take_add_one, hx, List.filter_append, List.length_append]
  congr 1
  by_cases h : v ∈ litVars x <;> simp [h]
theorem stand_le (c : List Lit) (v : Int) : stand c v ≤ c.length := List.length_filter_le _ _
theorem up_new {zs : List Int} (h : zs.Pairwise (· < ·)) {m : Nat} {z : Int} (hz : zs[m]? = some z) : z ∉ zs.take m := by
  intro hm
  obtain ⟨i, hi⟩ := List.getElem?_of_mem hm
  have him : i < m := by have := (List.getElem?_eq_some_iff.1 hi).1; rw [List.length_take] at this; omega
  rw [List.getElem?_take_of_lt him] at hi
  obtain ⟨h1, e1⟩ := List.getElem?_eq_some_iff.1 hi
  obtain ⟨h2, e2⟩ := List.getElem?_eq_some_iff.1 hz
  have := List.pairwise_iff_getElem.1 h i m h1 h2 him
  omega
theorem cnt_step {h : Int → Nat} {f : Int → Option Value} {z : Int} (hc : Cnt h f) : Cnt (fun v => h v + if v = z then 1 else 0) (fun j => if j = z then some (.int .i64 ((h z : Int) + 1)) else f j) := fun v => by
  by_cases e : v = z
  · subst e
    simp
  · simp only [if_neg e, Nat.add_zero]
    exact hc v
theorem cnt_get {h : Int → Nat} {f : Int → Option Value} (hc : Cnt h f) (z : Int) : (f z).getD (.int .i64 0) = .int .i64 (h z : Int) := by
  rw [hc z]
  by_cases e : h z = 0
  · rw [if_pos e, e]; rfl
  · rw [if_neg e]; rfl
theorem boxed_cell {lb : Nat} {w w' : World} (h : Boxed w.heap.size lb w w') {b o : Nat} {v : Value} (hb : b ≠ lb) (hv : w.cell? ⟨b, o, none⟩ = some v) : w'.cell? ⟨b, o, none⟩ = some v := by
  rw [World.cell?_of_block (w := w) (a := ⟨b, o, none⟩) (h.block b (lt_of_cell hv) hb)]; exact hv
end Go.Proofs.YtbkedppkdhfpoabGreat
