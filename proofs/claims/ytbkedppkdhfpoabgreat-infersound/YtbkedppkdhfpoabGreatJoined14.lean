/- Inferences: two lists joined. Models, as plain data, and as they lie there; the program's Check of them. What a term is in a model, by what its variables are: as plain data. No word of the program's memory here. What a term is, by the program. -/
import Derived.Deep.RegionHeld3
import Derived.Test.YtbkedppkdhfpoabGreatJoined13
namespace Go.Proofs.YtbkedppkdhfpoabGreat
open Go.RowKit
theorem SrcL_below {w w' : World} {x : Value} {m : Nat} {news : List Value} (hb : Below w.heap.size w w') (h : SrcL w x m news) : SrcL w' x m news := by
  rcases h with ⟨h1, h2, h3⟩ | ⟨b, off, c, h1, h2, h3, h4⟩
  · exact Or.inl ⟨h1, h2, h3⟩
  · exact Or.inr ⟨b, off, c, h1, h2, fun j u hu => cell_below hb (h3 j u hu), h4⟩
theorem own_srcL {w : World} {base n : Nat} {v : Value} {xs : List Value} (h : w.ownsRow base 79 7 v n xs) (h1 : ∀ u, u ∈ xs → u.oneCell' = true) : SrcL w v n xs := by
  obtain ⟨hl, hr⟩ := h
  rcases hr with ⟨rfl, rfl⟩ | ⟨g, cap, cur, rfl, hg, hh, hn, hm, hsz, htk⟩
  · exact Or.inl ⟨rfl, rfl, List.length_eq_zero_iff.1 (by simpa using hl)⟩
  · refine Or.inr ⟨g, 0, cap, rfl, hl, fun j u hj => ?_, h1⟩
    rw [Nat.zero_add, cell_cur hh]
    rw [← htk, List.getElem?_take] at hj
    split at hj
    · simpa using hj
    · cases hj
theorem KidsL_lt {p : Nat → Prop} {w : World} {c : List Lit} : ∀ {cs : List Value}, KidsL p w c cs → KidsL (fun k => k < w.heap.size) w c cs := by
  induction c with
  | nil => intro cs h; exact h
  | cons x c ih =>
    intro cs h
    obtain ⟨a1, c1, a2, c2, rest, rfl, h0, h0', h⟩ := h
    exact ⟨a1, c1, a2, c2, rest, rfl, InP_imp (fun _ h => h.2) (InP_lt h0), InP_imp (fun _ h => h.2) (InP_lt h0'), ih h⟩
structure RowL (w : World) (v : Value) (c : List Lit) (xs : List Value) : Prop where
  src : SrcL w v c.length xs
  kid : KidsL (fun k => k < w.heap.size) w c xs
theorem OutsL.row {q : Nat → Prop} {base : Nat} {w : World} {v : Value} {c : List Lit} (h : OutsL q base w v c) : ∃ a cap xs, v = .slice a c.length cap ∧ RowL w v c xs := by
  obtain ⟨xs, h1, h2⟩ := h
  obtain ⟨a, cap, rfl⟩ := own_shape h1
  exact ⟨a, cap, xs, rfl, own_srcL h1 (KidsL_one h2), KidsL_lt h2⟩
attribute [local go_sem ↓] Go.wp_at_zero Go.wp_at_succ
set_option maxRecDepth 100000 in
set_option maxHeartbeats 1000000 in
theorem concat_any (c d : List Lit) (a1 : Option Addr) (k1 : Nat) (a2 : Option Addr) (k2 : Nat) (q qc : Nat) (xs1 xs2 : List Value) (w : World) (h0 : 0 < c.length + d.length) (hc : c.length ≤ 1000) (hd : d.length ≤ 1000)
    (q0 : w.cell? ⟨q, 0, none⟩ = some (.slice a1 c.length k1)) (q1 : w.cell? ⟨q, 1, none⟩ = some (.slice a2 d.length k2)) (r1 : RowL w (.slice a1 c.length k1) c xs1) (r2 : RowL w (.slice a2 d.length k2) d xs2) :
    Calls Tryz.prog 182 #[.slice (some ⟨q, 0, none⟩) 2 qc] w fun e w' => ∃ a cap, e = .returned (.slice a (c ++ d).length cap) ∧ LitsP w' (c ++ d) a ∧ Below w.heap.size w w' := by
  have HG := hide (growC_any (c.length + d.length) w h0 (by omega))
  have HR1 := hide r1
  have HR2 := hide r2
  have HQ0 := hide q0
  have HQ1 := hide q1
  clear r1 r2
  go_enter Tryz.func182, Tryz.ntmps182
  go_wp2_with fail
  go_loopw [3, 11] (fun s i wr => Hid (wr = w) ∧ ((s = .int .i64 0 ∧ i = .int .i64 0) ∨ (s = .int .i64 (c.length : Int) ∧ i = .int .i64 1) ∨ (s = .int .i64 ((c.length + d.length : Nat) : Int) ∧ i = .int .i64 2))) (fun _ i _ => 2 - (intOf i).toNat)
  case atStart => exact ⟨rfl, Or.inl ⟨rfl, rfl⟩⟩
  case round =>
    obtain ⟨HW, hrel⟩ := hrel
    have hW : w = wr := HW.out.symm
    subst hW
    clear HW
    obtain ⟨rfl, rfl⟩ | ⟨rfl, rfl⟩ | ⟨rfl, rfl⟩ := hrel
    · have g0 : ¬ ((c.length : Int) < 0) := by omega
      go_wp2_with fail
      go_roundw
      case rel => exact ⟨trivial, Or.inr (Or.inl ⟨by simp, rfl⟩)⟩
      case measure => simp [intOf]
    · have g0 : ¬ ((c.length : Int) + d.length < 0) := by omega
      go_wp2_with fail
      go_roundw
      case rel => exact ⟨trivial, Or.inr (Or.inr ⟨by simp, rfl⟩)⟩
      case measure => simp [intOf]
    · go_wp2_with fail
      refine HG.out.mono ?_
      rintro e w1 ⟨v, rfl, hown, hb1⟩
      have Hown := hide hown
      have Hb1 := hide hb1
      clear hown hb1 HG q0 q1
      go_wp2_with fail
      go_loopw [6, 27] (fun v i wr => Hid (Below w.heap.size w wr) ∧ ((i = .int .i64 0 ∧ Hid (wr.ownsRow w.heap.size 79 7 v 0 [])) ∨ (i = .int .i64 1 ∧ Hid (wr.ownsRow w.heap.size 79 7 v c.length xs1)) ∨ (i = .int .i64 2 ∧ Hid (wr.ownsRow w.heap.size 79 7 v (c.length + d.length) (xs1 ++ xs2))))) (fun _ i _ => 2 - (intOf i).toNat)
      case atStart => exact ⟨Hb1, Or.inl ⟨rfl, Hown⟩⟩
      case round =>
        obtain ⟨HB, hrel⟩ := hrel
        have q0 := cell_below HB.out HQ0.out
        have q1 := cell_below HB.out HQ1.out
        have hzr := HB.out.size
        have HNx := hide (fun (v : Value) (n m : Nat) (xs news : List Value) (ho : wr.ownsRow w.heap.size 79 7 v n xs) (v' : Value) (w' : World) (h2 : w'.ownsRow w.heap.size 79 7 v' (n + m) (xs ++ news)) (h3 : wr.grownBy w' v.ownBlock) => (show Below w.heap.size w w' from
          HB.out.grown h3 (by omega) (fun k hk => (own_lt ho k hk).1)))
        obtain ⟨rfl, Ho⟩ | ⟨rfl, Ho⟩ | ⟨rfl, Ho⟩ := hrel
        · have HS := hide (SrcL_below HB.out HR1.out.src)
          go_wp2_with (at_builtin
                       go_must (refine wpList_append_l rfl (.tmp 31) (.tmp 32) rfl w.heap.size 0 c.length _ _ xs1 rfl Ho.out _ rfl HS.out (by omega) (by omega) ?_)
                       intro v' w2 hown2 hgr2 hat2)
          have hb2 := HNx.out _ _ _ _ _ Ho.out _ _ hown2 hgr2
          go_roundw
          case rel => exact ⟨hb2, Or.inr (Or.inl ⟨rfl, by rw [Nat.zero_add, List.nil_append] at hown2; exact hown2⟩)⟩
          case measure => simp [intOf]
        · have HS := hide (SrcL_below HB.out HR2.out.src)
          go_wp2_with (at_builtin
                       go_must (refine wpList_append_l rfl (.tmp 31) (.tmp 32) rfl w.heap.size c.length d.length _ _ xs2 rfl Ho.out _ rfl HS.out (by omega) (by omega) ?_)
                       intro v' w2 hown2 hgr2 hat2)
          have hb2 := HNx.out _ _ _ _ _ Ho.out _ _ hown2 hgr2
          go_roundw
          case rel => exact ⟨hb2, Or.inr (Or.inr ⟨rfl, hown2⟩)⟩
          case measure => simp [intOf]
        · have Hend : Hid (OutsL (fun k => k < w.heap.size) w.heap.size wr u6 (c ++ d)) := by
            refine ⟨xs1 ++ xs2, by rw [List.length_append]; exact Ho.out, KidsL_mono (p := fun k => k < w.heap.size) (w := w) (fun k hk _ => ⟨⟨Or.inl hk, fun e => ?_⟩, HB.out.block k hk⟩) (KidsL_append HR1.out.kid HR2.out.kid)⟩
            have := (own_lt Ho.out k e).1
            omega
          obtain ⟨a, cap, rfl, hq⟩ := OutsL_end Hend.out
          have Hq := hide hq
          clear hq Hend Ho HNx q0 q1
          go_wp2_with fail
          go_ret
          exact ⟨a, cap, rfl, LitsQ_lits Hq.out, HB.out⟩
end Go.Proofs.YtbkedppkdhfpoabGreat

namespace Go.Proofs.YtbkedppkdhfpoabGreat
open Go.RowKit
def TabsP (w : World) : List (List Int) → Option Addr → Prop
  | [], _ => True
  | l :: ls, a => ∃ b off la lc, a = some ⟨b, off, none⟩ ∧ w.cell? ⟨b, off, none⟩ = some (.slice la l.length lc) ∧ Ints w l la ∧ TabsP w ls (some ⟨b, off + 1, none⟩)
theorem TabsP_below {w w' : World} (hb : Below w.heap.size w w') : ∀ {ls : List (List Int)} {a : Option Addr}, TabsP w ls a → TabsP w' ls a := by
  intro ls
  induction ls with
  | nil => intro a _; trivial
  | cons l ls ih =>
    intro a h
    obtain ⟨b, off, la, lc, rfl, h0, h1, h2⟩ := h
    exact ⟨b, off, la, lc, rfl, cellB hb h0, Ints_below hb h1, ih h2⟩
theorem TabsP_some {w : World} {ls : List (List Int)} {a : Option Addr} (h : TabsP w ls a) (hp : 0 < ls.length) : ∃ b off, a = some ⟨b, off, none⟩ := by
  cases ls with
  | nil => simp at hp
  | cons l ls => obtain ⟨b, off, _, _, rfl, _⟩ := h; exact ⟨b, off, rfl⟩
theorem TabsP_at {w : World} : ∀ {ls : List (List Int)} {b off k : Nat} {l : List Int}, TabsP w ls (some ⟨b, off, none⟩) → ls[k]? = some l → ∃ la lc, w.cell? ⟨b, off + k, none⟩ = some (.slice la l.length lc) ∧ Ints w l la := by
  intro ls
  induction ls with
  | nil => intro b off k l _ h; simp at h
  | cons m ls ih =>
    intro b off k l h hk
    obtain ⟨b', off', la, lc, hb, h0, h1, h2⟩ := h
    simp only [Option.some.injEq, Addr.mk.injEq] at hb
    obtain ⟨rfl, rfl, _⟩ := hb
    cases k with
    | zero => simp at hk; subst hk; exact ⟨la, lc, by simpa using h0, h1⟩
    | succ k =>
      obtain ⟨la2, lc2, g0, g1⟩ := ih h2 (by simpa using hk)
      exact ⟨la2, lc2, by rw [show off + (k + 1) = off + 1 + k by omega]; exact g0, g1⟩
def powI (n : Int) : Nat → Int
  | 0 => 1
  | k + 1 => powI n k * n
theorem powI_range {n : Int} (h0 : 1 ≤ n) (h1 : n ≤ 3) : ∀ k, 1 ≤ powI n k ∧ (k ≤ 3 → powI n k ≤ 27) ∧ (k ≤ 8 → powI n k ≤ 6561) := by
  have hP : ∀ k, 1 ≤ powI n k ∧ powI n k ≤ (3 : Int) ^ k := by
    intro k
    induction k with
    | zero => simp [powI]
    | succ k ih =>
      rw [powI, Int.pow_succ]
      refine ⟨?_, ?_⟩
      · have := Int.mul_le_mul ih.1 h0 (by omega) (by omega); omega
      · exact Int.mul_le_mul ih.2 h1 (by omega) (by have := ih.1; have := ih.2; omega)
  intro k
  refine ⟨(hP k).1, fun hk => ?_, fun hk => ?_⟩
  · have h2 := (hP k).2
    have h3 : (3 : Int) ^ k ≤ 27 := by
      match k, hk with
      | 0, _ => decide
      | 1, _ => decide
      | 2, _ => decide
      | 3, _ => decide
    omega
  · have h2 := (hP k).2
    have h3 : (3 : Int) ^ k ≤ 6561 := by
      match k, hk with
      | 0, _ => decide
      | 1, _ => decide
      | 2, _ => decide
      | 3, _ => decide
      | 4, _ => decide
      | 5, _ => decide
      | 6, _ => decide
      | 7, _ => decide
      | 8, _ => decide
    omega
def allT (n : Int) (zs : List Int) : Bool := zs.all (fun z => decide (0 ≤ z ∧ z < n))
def lensT (n : Int) : List Int → List (List Int) → Bool
  | [], [] => true
  | a :: ar, l :: ls => decide ((l.length : Int) = powI n a.toNat) && lensT n ar ls
  | _, _ => false
def modelErr (ar : List Int) (n : Int) (ls : List (List Int)) : Int :=
  if sigErr ar = 0 then (if n < 1 ∨ 3 < n then 3 else if lensT n ar ls then (if ls.all (allT n) then 0 else 5) else 1) else sigErr ar
set_option maxRecDepth 100000 in
set_option maxHeartbeats 400000 in
theorem rows_any (n : Int) (k : Nat) (w : World) (h0 : 1 ≤ n) (h1 : n ≤ 3) (hk : k ≤ 3) : Calls Tryz.prog 127 #[.int .i64 n, .int .i64 (k : Int)] w fun e w' => e = .returned (.int .i64 (powI n k)) ∧ w' = w := by
  have HP := hide (powI_range h0 h1)
  go_enter Tryz.func127, Tryz.ntmps127
  go_wp2_with fail
  go_loopw [5, 7] (fun p i wr => ∃ j : Nat, j ≤ k ∧ i = .int .i64 j ∧ p = .int .i64 (powI n j) ∧ Hid (wr = w)) (fun _ i _ => k - (intOf i).toNat)
  case atStart => exact ⟨0, Nat.zero_le _, rfl, rfl, rfl⟩
  case round =>
    obtain ⟨j, hj, rfl, rfl, hw⟩ := hrel
    obtain rfl := (show w = _ from Eq.symm hw)
    by_cases hlt : j < k
    · have hI : (j : Int) < k := by omega
      have hp := HP.out j
      have hp2 := HP.out (j + 1)
      have hpe : powI n (j + 1) = powI n j * n := rfl
      have h3 := hp.2.1 (by omega)
      have h4 := hp2.2.1 (by omega)
      have h5 := hp.1
      have h6 := hp2.1
      have Hpe := hide hpe
      rw [hpe] at h4 h6
      clear hp hp2 hpe
      generalize powI n j = P at *
      go_wp2_with fail
      go_roundw
      case rel => exact ⟨j + 1, by omega, by go_num, by rw [Hpe.out], trivial⟩
      case measure => simp [intOf]; omega
    · have hj2 : j = k := by omega
      subst hj2
      go_wp2_with fail
      go_ret
      exact ⟨rfl, rfl⟩
set_option maxRecDepth 100000 in
set_option maxHeartbeats 400000 in
theorem allThingsC_any (n z : Int) (b : Nat) (w : World) (hb : w.cell? ⟨b, 0, none⟩ = some (.int .i64 n)) : Calls Tryz.prog 170 #[.int .i64 z, .pointer (some ⟨b, 0, none⟩)] w fun e w' => e = .returned (.bool (!decide (0 ≤ z ∧ z < n))) ∧ w' = w := by
  go_enter Tryz.func170, Tryz.ntmps170
  by_cases h : z < 0
  · have e : (!decide (0 ≤ z ∧ z < n)) = true := by simp; omega
    rw [e]
    go_wp2_with fail
    go_ret
    exact ⟨rfl, rfl⟩
  · by_cases h2 : n ≤ z
    · have e : (!decide (0 ≤ z ∧ z < n)) = true := by simp; omega
      rw [e]
      go_wp2_with fail
      go_ret
      exact ⟨rfl, rfl⟩
    · have e : (!decide (0 ≤ z ∧ z < n)) = false := by simp; omega
      rw [e]
      go_wp2_with fail
      go_ret
      exact ⟨rfl, rfl⟩
theorem eg170 (args : Array Value) (w : World) : (callFunc 170 args).run Tryz.prog w = .ok (.enter 170 args) w := by kernel_rfl
theorem eg126 (args : Array Value) (w : World) : (callFunc 126 args).run Tryz.prog w = .ok (.enter 126 args) w := by kernel_rfl
theorem eg129 (args : Array Value) (w : World) : (callFunc 129 args).run Tryz.prog w = .ok (.enter 129 args) w := by kernel_rfl
theorem allT_step {n : Int} {zs : List Int} {k : Nat} (hk : k < zs.length) (h : allT n (zs.take k) = true) : (decide (0 ≤ zs.getD k 0 ∧ zs.getD k 0 < n) = true → allT n (zs.take (k + 1)) = true) ∧ (decide (0 ≤ zs.getD k 0 ∧ zs.getD k 0 < n) = false → allT n zs = false) := by
  have hg : zs.getD k 0 = zs[k] := by rw [List.getD_eq_getElem?_getD, List.getElem?_eq_getElem hk]; rfl
  constructor
  · intro h1
    rw [allT, List.take_add_one, List.getElem?_eq_getElem hk, List.all_append]
    rw [allT] at h
    rw [h, ← hg]
    simpa using h1
  · intro h1
    rw [allT, List.all_eq_false]
    exact ⟨zs[k], List.getElem_mem hk, by rw [← hg, h1]; decide⟩
set_option maxRecDepth 100000 in
set_option maxHeartbeats 400000 in
theorem indexT_any (n : Int) (zs : List Int) (a : Option Addr) (cap b : Nat) (w : World) (hI : Ints w zs a) (hl : zs.length ≤ 9223372036854775807) (hb : w.cell? ⟨b, 0, none⟩ = some (.int .i64 n)) :
    Calls Tryz.prog 212 #[.slice a zs.length cap, .func (.func 170) #[] #[.pointer (some ⟨b, 0, none⟩)]] w fun e w' => (∃ i : Int, e = .returned (.int .i64 i) ∧ decide (0 ≤ i) = !allT n zs) ∧ w' = w := by
  have eg := eg170
  have HC := hide (fun z => allThingsC_any n z b w hb)
  have HI := hide hI
  clear hI
  go_enter Tryz.func212, Tryz.ntmps212
  go_wp2_with fail
  go_loopw [8] (fun i wr => ∃ k : Nat, k ≤ zs.length ∧ i = .int .i64 k ∧ Hid (allT n (zs.take k) = true) ∧ Hid (wr = w)) (fun i _ => zs.length - (intOf i).toNat)
  case atStart => exact ⟨0, Nat.zero_le _, rfl, rfl, rfl⟩
  case round =>
    obtain ⟨k, hk, rfl, Hk, hw⟩ := hrel
    obtain rfl := (show w = _ from Eq.symm hw)
    by_cases hlt : k < zs.length
    · obtain ⟨bb, off, rfl, hc⟩ := Ints_some HI.out (by omega)
      have ck := hc k hlt
      have Hst := hide (allT_step hlt Hk.out)
      have hI : (k : Int) < zs.length := by omega
      have hk0 : (0 : Int) ≤ k := by omega
      clear hc Hk
      generalize zs.getD k 0 = z at *
      go_wp2_with fail
      refine (HC.out z).mono ?_
      rintro e w' ⟨rfl, hw'⟩
      obtain rfl := hw'.symm
      cases hd : decide (0 ≤ z ∧ z < n) with
      | true =>
        have Hn := hide (Hst.out.1 hd)
        clear Hst hd hw'
        simp only [Bool.not_true]
        go_wp2_with fail
        go_roundw
        case rel => exact ⟨k + 1, by omega, by go_num, Hn, trivial⟩
        case measure => simp [intOf]; omega
      | false =>
        have Hn := hide (Hst.out.2 hd)
        clear Hst hd hw'
        simp only [Bool.not_false]
        go_wp2_with fail
        go_ret
        exact ⟨⟨k, rfl, by rw [Hn.out]; simp⟩, rfl⟩
    · have hk2 : k = zs.length := by omega
      subst hk2
      rw [List.take_length] at Hk
      go_wp2_with fail
      go_ret
      exact ⟨⟨-1, rfl, by rw [Hk.out]; rfl⟩, rfl⟩
set_option maxRecDepth 100000 in
set_option maxHeartbeats 400000 in
theorem allThings_any (n : Int) (zs : List Int) (a : Option Addr) (cap : Nat) (w : World) (hI : Ints w zs a) (hl : zs.length ≤ 9223372036854775807) :
    Calls Tryz.prog 124 #[.int .i64 n, .slice a zs.length cap] w fun e w' => e = .returned (.bool (allT n zs)) ∧ Below w.heap.size w w' := by
  have HX := hide (fun (w' : World) (hw : w' = w.alloc (.cells #[.int .i64 n] 3)) => indexT_any n zs a cap w.heap.size w' (by rw [hw]; exact Ints_alloc _ hI) hl (by rw [hw]; exact cell_new 0 rfl))
  have HC : Hid (∀ (w' : World), w' = w.alloc (.cells #[.int .i64 n] 3) → Calls Tryz.prog 169 #[.slice a zs.length cap, .func (.func 170) #[] #[.pointer (some ⟨w.heap.size, 0, none⟩)]] w' fun e w'' => e = .returned (.bool (!allT n zs)) ∧ w'' = w') := fun w' hw => by
    have HY := hide (HX.out w' hw)
    clear hw
    go_enter Tryz.func169, Tryz.ntmps169
    go_wp2_with fail
    refine HY.out.mono ?_
    rintro e w2 ⟨⟨i, rfl, hi⟩, hw2⟩
    obtain rfl := hw2.symm
    have Hi := hide hi
    clear hi hw2
    go_wp2_with fail
    go_ret
    exact ⟨ret_bool Hi.out, rfl⟩
  clear HX hI
  go_enter Tryz.func124, Tryz.ntmps124
  go_wp2_with fail
  refine (HC.out _ rfl).mono ?_
  rintro e w2 ⟨rfl, hw2⟩
  obtain rfl := hw2.symm
  clear hw2
  go_wp2_with fail
  go_ret
  exact ⟨by simp, below1 _ _⟩
theorem lensT_len {n : Int} : ∀ {ar : List Int} {ls : List (List Int)}, ar.length ≠ ls.length → lensT n ar ls = false := by
  intro ar
  induction ar with
  | nil =>
    intro ls h
    cases ls with
    | nil => simp at h
    | cons l ls => rfl
  | cons a ar ih =>
    intro ls h
    cases ls with
    | nil => rfl
    | cons l ls =>
      rw [lensT, ih (fun e => h (by simp [e]))]
      simp
theorem lensT_drop {n : Int} {ar : List Int} {ls : List (List Int)} {k : Nat} {l : List Int} (hk : k < ar.length) (hl : ls[k]? = some l) : lensT n (ar.drop k) (ls.drop k) = (decide ((l.length : Int) = powI n (ar.getD k 0).toNat) && lensT n (ar.drop (k + 1)) (ls.drop (k + 1))) := by
  have hlt := (List.getElem?_eq_some_iff.1 hl).1
  have e1 : ls.drop k = l :: ls.drop (k + 1) := by
    rw [List.getElem?_eq_getElem hlt] at hl
    simp at hl
    rw [← hl, List.getElem_cons_drop]
  have e2 : ar.drop k = ar.getD k 0 :: ar.drop (k + 1) := by
    rw [List.getD_eq_getElem?_getD, List.getElem?_eq_getElem hk]
    show _ = ar[k] :: _
    rw [List.getElem_cons_drop]
  rw [e1, e2, lensT]
theorem sig_arity {ar : List Int} (h : sigErr ar = 0) {k : Nat} (hk : k < ar.length) : 0 ≤ ar.getD k 0 ∧ ar.getD k 0 ≤ 3 := by
  rw [sigErr] at h
  split at h
  · cases h
  · split at h
    · rename_i h2
      rw [List.all_eq_true] at h2
      have hg : ar.getD k 0 = ar[k] := by rw [List.getD_eq_getElem?_getD, List.getElem?_eq_getElem hk]; rfl
      have h3 := h2 ar[k] (List.getElem_mem hk)
      rw [hg]
      simpa using h3
    · cases h
theorem sig_short {ar : List Int} (h : sigErr ar = 0) : ar.length ≤ 12 := by
  rw [sigErr] at h
  split at h
  · cases h
  · omega
set_option maxRecDepth 100000 in
set_option maxHeartbeats 400000 in
theorem checkC1_any (n : Int) (k : Nat) (la : Option Addr) (ln lc b : Nat) (w : World) (h0 : 1 ≤ n) (h1 : n ≤ 3) (hk : k ≤ 3) (hb : w.cell? ⟨b, 0, none⟩ = some (.int .i64 n)) :
    Calls Tryz.prog 126 #[.int .i64 (k : Int), .slice la ln lc, .pointer (some ⟨b, 0, none⟩)] w fun e w' => e = .returned (.bool (decide ((ln : Int) = powI n k))) ∧ w' = w := by
  have HR := hide (rows_any n k w h0 h1 hk)
  obtain ⟨P, hP⟩ : ∃ P, P = powI n k := ⟨_, rfl⟩
  rw [← hP] at HR ⊢
  clear hP
  go_enter Tryz.func126, Tryz.ntmps126
  go_wp2_with fail
  refine HR.out.mono ?_
  rintro e w' ⟨rfl, hw⟩
  obtain rfl := hw.symm
  clear hw
  go_wp2_with fail
  go_ret
  exact ⟨ret_bool (by rw [Bool.eq_iff_iff]; simp), rfl⟩
set_option maxRecDepth 100000 in
set_option maxHeartbeats 400000 in
theorem equalM_any (ar : List Int) (ga : Option Addr) (gcap : Nat) (n : Int) (ls : List (List Int)) (ta : Option Addr) (tc b : Nat) (w : World) (hsig : sigErr ar = 0) (h0 : 1 ≤ n) (h1 : n ≤ 3) (hg : Ints w ar ga) (ht : TabsP w ls ta) (hb : w.cell? ⟨b, 0, none⟩ = some (.int .i64 n)) :
    Calls Tryz.prog 125 #[.slice ga ar.length gcap, .slice ta ls.length tc, .func (.func 126) #[] #[.pointer (some ⟨b, 0, none⟩)]] w fun e w' => e = .returned (.bool (lensT n ar ls)) ∧ w' = w := by
  have eg := eg126
  have HC := hide (fun k la ln lc hk => checkC1_any n k la ln lc b w h0 h1 hk hb)
  have Hg := hide hg
  have Ht := hide ht
  have Hsig := hide (fun k hk => sig_arity (k := k) hsig hk)
  have h12 := sig_short hsig
  obtain ⟨Z, hZ⟩ : ∃ Z, Z = lensT n ar ls := ⟨_, rfl⟩
  rw [← hZ]
  have HZ := hide hZ
  clear hg ht hsig hZ
  go_enter Tryz.func125, Tryz.ntmps125
  by_cases hlen : ar.length = ls.length
  · have hlI : ((ar.length : Int) != ls.length) = false := by simp; omega
    have Hlen := hide hlen
    clear hlen
    go_wp2_with fail
    go_loopw [17] (fun i wr => ∃ k : Nat, k ≤ ar.length ∧ i = .int .i64 k ∧ Hid (Z = lensT n (ar.drop k) (ls.drop k)) ∧ Hid (wr = w)) (fun i _ => ar.length - (intOf i).toNat)
    case atStart => exact ⟨0, Nat.zero_le _, rfl, by rw [List.drop_zero, List.drop_zero]; exact HZ.out, rfl⟩
    case round =>
      obtain ⟨k, hk, rfl, Hk, hw⟩ := hrel
      obtain rfl := (show w = _ from Eq.symm hw)
      by_cases hlt : k < ar.length
      · obtain ⟨gb, goff, rfl, hgc⟩ := Ints_some Hg.out (by omega)
        have hlt2 : k < ls.length := by have := Hlen.out; omega
        obtain ⟨tb, toff, rfl⟩ := TabsP_some Ht.out (by omega)
        obtain ⟨l, hl⟩ : ∃ l, ls[k]? = some l := ⟨ls[k], List.getElem?_eq_getElem hlt2⟩
        obtain ⟨la, lc, ct, _⟩ := TabsP_at Ht.out hl
        have cg := hgc k hlt
        have hst := lensT_drop (n := n) hlt hl
        rw [← Hk.out] at hst
        have har := Hsig.out k hlt
        obtain ⟨m, hm⟩ := Int.eq_ofNat_of_zero_le har.1
        rw [hm] at cg hst har
        rw [show ((m : Int)).toNat = m from rfl] at hst
        have Hst := hide hst
        have HC2 := hide (HC.out m la l.length lc (by omega))
        have hkI : (k : Int) < ar.length := by omega
        have hkJ : (k : Int) < ls.length := by omega
        have hk0 : (0 : Int) ≤ k := by omega
        clear hgc hl hst hm har Hk
        go_wp2_with fail
        refine HC2.out.mono ?_
        rintro e w' ⟨rfl, hw'⟩
        obtain rfl := hw'.symm
        clear hw'
        cases hd : decide ((l.length : Int) = powI n m) with
        | true =>
          rw [hd, Bool.true_and] at Hst
          clear hd
          go_wp2_with fail
          go_roundw
          case rel => exact ⟨k + 1, by omega, by go_num, Hst, trivial⟩
          case measure => simp [intOf]; omega
        | false =>
          rw [hd, Bool.false_and] at Hst
          obtain rfl : Z = false := Hst.out
          clear hd Hst
          go_wp2_with fail
          go_ret
          exact ⟨rfl, rfl⟩
      · have hk2 : k = ar.length := by omega
        subst hk2
        obtain rfl : Z = true := by
          rw [Hk.out, List.drop_length, show ar.length = ls.length from Hlen.out, List.drop_length]; rfl
        clear Hk
        go_wp2_with fail
        go_ret
        exact ⟨rfl, rfl⟩
  · have hlI : ((ar.length : Int) != ls.length) = true := by simp; omega
    obtain rfl : Z = false := by rw [HZ.out, lensT_len hlen]
    clear hlen HZ
    go_wp2_with fail
    go_ret
    exact ⟨rfl, rfl⟩
set_option maxRecDepth 100000 in
set_option maxHeartbeats 400000 in
theorem checkC2_any (n : Int) (zs : List Int) (a : Option Addr) (cap b : Nat) (w : World) (hI : Ints w zs a) (hl : zs.length ≤ 9223372036854775807) (hb : w.cell? ⟨b, 0, none⟩ = some (.int .i64 n)) :
    Calls Tryz.prog 129 #[.slice a zs.length cap, .pointer (some ⟨b, 0, none⟩)] w fun e w' => e = .returned (.bool (!allT n zs)) ∧ Below w.heap.size w w' := by
  have HA := hide (allThings_any n zs a cap w hI hl)
  clear hI
  go_enter Tryz.func129, Tryz.ntmps129
  go_wp2_with fail
  refine HA.out.mono ?_
  rintro e w' ⟨rfl, hb'⟩
  have Hb := hide hb'
  clear hb'
  go_wp2_with fail
  go_ret
  exact ⟨rfl, Hb.out⟩
theorem allM_step {n : Int} {ls : List (List Int)} {k : Nat} {l : List Int} (hl : ls[k]? = some l) (h : (ls.take k).all (allT n) = true) : (allT n l = true → (ls.take (k + 1)).all (allT n) = true) ∧ (allT n l = false → ls.all (allT n) = false) := by
  have hlt := (List.getElem?_eq_some_iff.1 hl).1
  constructor
  · intro h1
    rw [List.take_add_one, hl, List.all_append, h]
    simpa using h1
  · intro h1
    rw [List.all_eq_false]
    exact ⟨l, List.mem_of_getElem? hl, by rw [h1]; decide⟩
set_option maxRecDepth 100000 in
set_option maxHeartbeats 400000 in
theorem indexM_any (n : Int) (ls : List (List Int)) (ta : Option Addr) (tc b : Nat) (w : World) (ht : TabsP w ls ta) (hls : ls.length ≤ 1000) (hll : ∀ l, l ∈ ls → l.length ≤ 1000) (hb : w.cell? ⟨b, 0, none⟩ = some (.int .i64 n)) :
    Calls Tryz.prog 171 #[.slice ta ls.length tc, .func (.func 129) #[] #[.pointer (some ⟨b, 0, none⟩)]] w fun e w' => (∃ i : Int, e = .returned (.int .i64 i) ∧ decide (0 ≤ i) = !ls.all (allT n)) ∧ Below w.heap.size w w' := by
  have eg := eg129
  have Hb := hide hb
  have Ht := hide ht
  have Hll := hide hll
  clear ht hb hll
  go_enter Tryz.func171, Tryz.ntmps171
  go_wp2_with fail
  go_loopw [8] (fun i wr => ∃ k : Nat, k ≤ ls.length ∧ i = .int .i64 k ∧ Hid ((ls.take k).all (allT n) = true) ∧ Hid (Below w.heap.size w wr)) (fun i _ => ls.length - (intOf i).toNat)
  case atStart => exact ⟨0, Nat.zero_le _, rfl, rfl, Below.refl _ _⟩
  case round =>
    obtain ⟨k, hk, rfl, Hk, Hbr⟩ := hrel
    by_cases hlt : k < ls.length
    · obtain ⟨tb, toff, rfl⟩ := TabsP_some Ht.out (by omega)
      obtain ⟨l, hl⟩ : ∃ l, ls[k]? = some l := ⟨ls[k], List.getElem?_eq_getElem hlt⟩
      obtain ⟨la, lc, ct, hIl⟩ := TabsP_at (TabsP_below Hbr.out Ht.out) hl
      have Hst := hide (allM_step hl Hk.out)
      have hl1 := Hll.out l (List.mem_of_getElem? hl)
      have HC := hide (checkC2_any n l la lc b wr hIl (by omega) (cellB Hbr.out Hb.out))
      have hI : (k : Int) < ls.length := by omega
      have hk0 : (0 : Int) ≤ k := by omega
      clear hl hIl Hk
      go_wp2_with fail
      refine HC.out.mono ?_
      rintro e w' ⟨rfl, hb'⟩
      have Hb' := hide (Hbr.out.trans (hb'.mono Hbr.out.size))
      clear hb' HC ct
      cases hd : allT n l with
      | true =>
        have Hn := hide (Hst.out.1 hd)
        clear Hst hd
        simp only [Bool.not_true]
        go_wp2_with fail
        go_roundw
        case rel => exact ⟨k + 1, by omega, by go_num, Hn, Hb'⟩
        case measure => simp [intOf]; omega
      | false =>
        have Hn := hide (Hst.out.2 hd)
        clear Hst hd
        simp only [Bool.not_false]
        go_wp2_with fail
        go_ret
        exact ⟨⟨k, rfl, by rw [Hn.out]; simp⟩, Hb'.out⟩
    · have hk2 : k = ls.length := by omega
      subst hk2
      rw [List.take_length] at Hk
      go_wp2_with fail
      go_ret
      exact ⟨⟨-1, rfl, by rw [Hk.out]; rfl⟩, Hbr.out⟩
set_option maxRecDepth 100000 in
set_option maxHeartbeats 400000 in
theorem containsM_any (n : Int) (ls : List (List Int)) (ta : Option Addr) (tc b : Nat) (w : World) (ht : TabsP w ls ta) (hls : ls.length ≤ 1000) (hll : ∀ l, l ∈ ls → l.length ≤ 1000) (hb : w.cell? ⟨b, 0, none⟩ = some (.int .i64 n)) :
    Calls Tryz.prog 128 #[.slice ta ls.length tc, .func (.func 129) #[] #[.pointer (some ⟨b, 0, none⟩)]] w fun e w' => e = .returned (.bool (!ls.all (allT n))) ∧ Below w.heap.size w w' := by
  have HX := hide (indexM_any n ls ta tc b w ht hls hll hb)
  clear ht hll hb
  go_enter Tryz.func128, Tryz.ntmps128
  go_wp2_with fail
  refine HX.out.mono ?_
  rintro e w' ⟨⟨i, rfl, hi⟩, hb'⟩
  have Hi := hide hi
  have Hb := hide hb'
  clear hi hb'
  go_wp2_with fail
  go_ret
  exact ⟨ret_bool Hi.out, Hb.out⟩
theorem lens_all {n : Int} {k : Nat} : ∀ {ar : List Int} {ls : List (List Int)}, (∀ a, a ∈ ar → a ≤ k) → lensT n ar ls = true → ar.length = ls.length ∧ ∀ l, l ∈ ls → ∃ m, m ≤ k ∧ (l.length : Int) = powI n m := by
  intro ar
  induction ar with
  | nil =>
    intro ls _ h
    cases ls with
    | nil => exact ⟨rfl, fun l hl => by cases hl⟩
    | cons l ls => cases h
  | cons a ar ih =>
    intro ls ha h
    cases ls with
    | nil => cases h
    | cons l ls =>
      rw [lensT, Bool.and_eq_true, decide_eq_true_eq] at h
      obtain ⟨h1, h2⟩ := ih (fun x hx => ha x (by simp [hx])) h.2
      refine ⟨by simp [h1], fun m hm => ?_⟩
      rcases List.mem_cons.1 hm with rfl | hm
      · exact ⟨a.toNat, by have := ha a (by simp); omega, h.1⟩
      · exact h2 m hm
set_option maxRecDepth 100000 in
set_option maxHeartbeats 400000 in
theorem mCheck_any (ar : List Int) (ga : Option Addr) (gcap : Nat) (n : Int) (ls : List (List Int)) (ta : Option Addr) (tc : Nat) (w : World) (hg : Ints w ar ga) (ht : TabsP w ls ta) :
    Calls Tryz.prog 66 #[.agg #[.slice ga ar.length gcap], .agg #[.int .i64 n, .slice ta ls.length tc]] w fun e w' => e = .returned (.int .i64 (modelErr ar n ls)) ∧ Below w.heap.size w w' := by
  obtain ⟨W2, hW2⟩ : ∃ W2, W2 = (w.alloc (.cells #[.slice ga ar.length gcap] 24)).alloc (.cells #[.int .i64 n, .slice ta ls.length tc] 43) := ⟨_, rfl⟩
  have hb0 : Below w.heap.size w W2 := by rw [hW2]; exact (below1 _ _).alloc (by simp) _
  have hz2 : W2.heap.size = w.heap.size + 2 := by rw [hW2]; simp
  have cg : W2.cell? ⟨w.heap.size, 0, none⟩ = some (.slice ga ar.length gcap) := by rw [hW2, cell_alloc_lt (by simp)]; exact cell_new 0 rfl
  have cn : W2.cell? ⟨w.heap.size + 1, 0, none⟩ = some (.int .i64 n) := by rw [hW2]; exact cell_new 0 (by simp)
  have ct : W2.cell? ⟨w.heap.size + 1, 1, none⟩ = some (.slice ta ls.length tc) := by rw [hW2]; exact cell_new 1 (by simp)
  have H1 := hide (signature_any ar ga gcap W2 (Ints_below hb0 hg))
  obtain ⟨E, hE⟩ : ∃ E, E = sigErr ar := ⟨_, rfl⟩
  obtain ⟨Z, hZ⟩ : ∃ Z, Z = modelErr ar n ls := ⟨_, rfl⟩
  rw [← hE] at H1
  rw [← hZ]
  have HE := hide hE
  have HZ := hide hZ
  have Hg := hide hg
  have Ht := hide ht
  have HW2 := hide hW2
  have Hb0 := hide hb0
  clear hE hZ hg ht hW2 hb0
  go_enter Tryz.func66, Tryz.ntmps66
  go_wp2_with fail
  rw [← HW2.out]
  refine H1.out.mono ?_
  rintro e w1 ⟨rfl, hb1⟩
  have hz1 := hb1.size
  have cg1 := cellB hb1 cg
  have cn1 := cellB hb1 cn
  have ct1 := cellB hb1 ct
  have Hb1 := hide (Hb0.out.trans (hb1.mono (by omega)))
  clear hb1 H1 cg cn ct HW2
  by_cases h0 : E = 0
  · have HZ1 : Hid (Z = if n < 1 ∨ 3 < n then 3 else if lensT n ar ls then (if ls.all (allT n) then 0 else 5) else 1) := by show _ = _; rw [HZ.out, modelErr, if_pos (HE.out.symm.trans h0)]
    have Hsig := hide (HE.out.symm.trans h0)
    subst h0
    clear HZ HE
    by_cases hr1 : n < 1
    · obtain rfl : Z = 3 := by rw [HZ1.out, if_pos (Or.inl hr1)]
      clear HZ1
      go_wp2_with fail
      go_ret
      exact ⟨rfl, Hb1.out⟩
    · by_cases hr2 : 3 < n
      · obtain rfl : Z = 3 := by rw [HZ1.out, if_pos (Or.inr hr2)]
        clear HZ1
        go_wp2_with fail
        go_ret
        exact ⟨rfl, Hb1.out⟩
      · have HZ2 : Hid (Z = if lensT n ar ls then (if ls.all (allT n) then 0 else 5) else 1) := by show _ = _; rw [HZ1.out, if_neg (by omega)]
        have HEq := hide (equalM_any ar ga gcap n ls ta tc (w.heap.size + 1) w1 Hsig.out (by omega) (by omega) (Ints_below Hb1.out Hg.out) (TabsP_below Hb1.out Ht.out) cn1)
        have Hct1 := hide ct1
        have Hcn1 := hide cn1
        clear HZ1
        go_wp2_with fail
        refine HEq.out.mono ?_
        rintro e w' ⟨rfl, hw'⟩
        obtain rfl := hw'.symm
        clear hw' HEq
        cases hL : lensT n ar ls with
        | false =>
          rw [hL] at HZ2
          obtain rfl : Z = 1 := by rw [HZ2.out]; simp
          clear HZ2 hL
          go_wp2_with fail
          go_ret
          exact ⟨rfl, Hb1.out⟩
        | true =>
          rw [hL] at HZ2
          have HZ3 : Hid (Z = if ls.all (allT n) then 0 else 5) := by show _ = _; rw [HZ2.out]; simp
          have hla := lens_all (k := 3) (fun a ha => by
            obtain ⟨k, hk, rfl⟩ := List.mem_iff_getElem.1 ha
            have h9 := sig_arity Hsig.out hk
            have hg9 : ar.getD k 0 = ar[k] := by rw [List.getD_eq_getElem?_getD, List.getElem?_eq_getElem hk]; rfl
            rw [hg9] at h9; exact h9.2) hL
          have h12 := sig_short Hsig.out
          have HCo := hide (containsM_any n ls ta tc (w.heap.size + 1) w1 (TabsP_below Hb1.out Ht.out) (by omega) (fun l hl => by
            obtain ⟨m, hm, he⟩ := hla.2 l hl
            have := (powI_range (n := n) (by omega) (by omega) m).2.1 hm
            omega) Hcn1.out)
          clear HZ2 hL hla
          go_wp2_with fail
          refine HCo.out.mono ?_
          rintro e w2 ⟨rfl, hb2⟩
          have Hb2 := hide (Hb1.out.trans (hb2.mono Hb1.out.size))
          clear hb2 HCo
          cases hA : ls.all (allT n) with
          | true =>
            rw [hA] at HZ3
            obtain rfl : Z = 0 := by rw [HZ3.out]; simp
            clear HZ3 hA
            go_wp2_with fail
            go_ret
            exact ⟨rfl, Hb2.out⟩
          | false =>
            rw [hA] at HZ3
            obtain rfl : Z = 5 := by rw [HZ3.out]; simp
            clear HZ3 hA
            go_wp2_with fail
            go_ret
            exact ⟨rfl, Hb2.out⟩
  · have h0b : (E != 0) = true := by simpa using h0
    obtain rfl : Z = E := by rw [HZ.out, modelErr, if_neg (fun h => h0 (HE.out.trans h)), HE.out]
    clear HZ HE h0
    go_wp2_with fail
    go_ret
    exact ⟨rfl, Hb1.out⟩
end Go.Proofs.YtbkedppkdhfpoabGreat

namespace Go.Proofs.YtbkedppkdhfpoabGreat
def valT (n : Int) (ls : List (List Int)) (f : Int → Int) : T → Int
  | ⟨v, fn, args⟩ => if v ≠ 0 then f v else (ls.getD fn.toNat []).getD (rowL args 0).toNat 0
  where
  rowL : List T → Int → Int
    | [], r => r
    | a :: l, r => rowL l (r * n + valT n ls f a)
theorem valT_eq (n : Int) (ls : List (List Int)) (f : Int → Int) (t : T) : valT n ls f t = if t.v ≠ 0 then f t.v else (ls.getD t.f.toNat []).getD (valT.rowL n ls f t.args 0).toNat 0 := by cases t; rw [valT]
theorem rowL_append (n : Int) (ls : List (List Int)) (f : Int → Int) (a b : List T) : ∀ r, valT.rowL n ls f (a ++ b) r = valT.rowL n ls f b (valT.rowL n ls f a r) := by
  induction a with
  | nil => intro r; rfl
  | cons t a ih => intro r; rw [List.cons_append, valT.rowL, valT.rowL, ih]
theorem rowL_step {n : Int} {ls : List (List Int)} {f : Int → Int} {ts : List T} {k : Nat} {x : T} (hx : ts[k]? = some x) (r : Int) : valT.rowL n ls f (ts.take (k + 1)) r = valT.rowL n ls f (ts.take k) r * n + valT n ls f x := by
  rw [List.take_add_one, hx, rowL_append]; rfl
structure MOk (ar : List Int) (n : Int) (ls : List (List Int)) : Prop where
  sig : sigErr ar = 0
  lo : 1 ≤ n
  hi : n ≤ 3
  lens : lensT n ar ls = true
  all : ls.all (allT n) = true
theorem MOk.of {ar : List Int} {n : Int} {ls : List (List Int)} (h : modelErr ar n ls = 0) : MOk ar n ls := by
  rw [modelErr] at h
  by_cases h1 : sigErr ar = 0
  · rw [if_pos h1] at h
    by_cases h2 : n < 1 ∨ 3 < n
    · rw [if_pos h2] at h; cases h
    · rw [if_neg h2] at h
      cases h3 : lensT n ar ls with
      | false => rw [h3] at h; cases h
      | true =>
        rw [h3] at h
        cases h4 : ls.all (allT n) with
        | false => rw [h4] at h; cases h
        | true => exact ⟨h1, by omega, by omega, h3, h4⟩
  · rw [if_neg h1] at h; exact absurd h h1
theorem lens_at {n : Int} : ∀ {ar : List Int} {ls : List (List Int)} {k : Nat}, lensT n ar ls = true → k < ar.length → ∃ l, ls[k]? = some l ∧ (l.length : Int) = powI n (ar.getD k 0).toNat := by
  intro ar
  induction ar with
  | nil => intro ls k _ hk; simp at hk
  | cons a ar ih =>
    intro ls k h hk
    cases ls with
    | nil => cases h
    | cons l ls =>
      rw [lensT, Bool.and_eq_true, decide_eq_true_eq] at h
      cases k with
      | zero => exact ⟨l, rfl, h.1⟩
      | succ k =>
        obtain ⟨m, h1, h2⟩ := ih h.2 (by simpa using hk)
        exact ⟨m, by simpa using h1, by simpa using h2⟩
theorem MOk.table {ar : List Int} {n : Int} {ls : List (List Int)} (h : MOk ar n ls) {t : T} (ht : okP ar t) (hv : t.v = 0) : ∃ l, ls[t.f.toNat]? = some l ∧ 0 ≤ t.f ∧ t.f < ls.length ∧ (l.length : Int) = powI n t.args.length ∧ t.args.length ≤ 3 ∧ ∀ (i : Nat), i < l.length → 0 ≤ l.getD i 0 ∧ l.getD i 0 < n := by
  have h1 := (okP_iff.1 ht).1
  rw [partErr, if_neg (by omega)] at h1
  by_cases h2 : t.f < 0 ∨ (ar.length : Int) ≤ t.f
  · rw [if_pos h2] at h1; cases h1
  · rw [if_neg h2] at h1
    have h3 : (t.args.length : Int) = ar.getD t.f.toNat 0 := by
      by_cases h4 : (t.args.length : Int) ≠ ar.getD t.f.toNat 0
      · rw [if_pos h4] at h1; cases h1
      · omega
    have hk : t.f.toNat < ar.length := by omega
    obtain ⟨l, hl, hlen⟩ := lens_at h.lens hk
    have har := sig_arity h.sig hk
    rw [← h3] at hlen har
    rw [Int.toNat_natCast] at hlen
    have hlt := (List.getElem?_eq_some_iff.1 hl).1
    refine ⟨l, hl, by omega, by omega, hlen, by omega, fun i hi => ?_⟩
    have h5 := List.all_eq_true.1 h.all l (List.mem_of_getElem? hl)
    rw [allT, List.all_eq_true] at h5
    have hg : l.getD i 0 = l[i] := by rw [List.getD_eq_getElem?_getD, List.getElem?_eq_getElem hi]; rfl
    have h6 := h5 l[i] (List.getElem_mem hi)
    rw [hg]
    simpa using h6
theorem parts_arg {t a x : T} (ha : a ∈ t.args) (hx : x ∈ parts a) : x ∈ parts t := by
  rw [parts_eq]
  refine List.mem_append.2 (Or.inl ?_)
  have hL : ∀ (l : List T), a ∈ l → x ∈ parts.partsL l := by
    intro l
    induction l with
    | nil => intro h; cases h
    | cons b l ih =>
      intro h
      rw [partsL_cons]
      rcases List.mem_cons.1 h with rfl | h
      · exact List.mem_append.2 (Or.inl hx)
      · exact List.mem_append.2 (Or.inr (ih h))
  exact hL _ ha
theorem parts_self (t : T) : t ∈ parts t := by rw [parts_eq]; simp
theorem row_bound {n p r x : Int} (h0 : 1 ≤ n) (hr0 : 0 ≤ r) (hr : r < p) (hx0 : 0 ≤ x) (hx : x < n) : 0 ≤ r * n + x ∧ r * n + x < p * n := by
  have h1 : 0 ≤ r * n := Int.mul_nonneg hr0 (by omega)
  have h2 : (r + 1) * n ≤ p * n := Int.mul_le_mul_of_nonneg_right (by omega) (by omega)
  rw [Int.add_mul, Int.one_mul] at h2
  exact ⟨by omega, by omega⟩
theorem val_range {ar : List Int} {n : Int} {ls : List (List Int)} {f : Int → Int} (h : MOk ar n ls) : ∀ (N : Nat) (t : T), t.sz ≤ N → okP ar t → (∀ x, x ∈ parts t → x.v ≠ 0 → 0 ≤ f x.v ∧ f x.v < n) → (0 ≤ valT n ls f t ∧ valT n ls f t < n) ∧ ∀ k, k ≤ t.args.length → 0 ≤ valT.rowL n ls f (t.args.take k) 0 ∧ valT.rowL n ls f (t.args.take k) 0 < powI n k := by
  intro N
  induction N with
  | zero => intro t hN; have := t.sz_pos; omega
  | succ N ih =>
    intro t hN ht hf
    have hte := T.sz_eq t
    have hrow : ∀ k, k ≤ t.args.length → 0 ≤ valT.rowL n ls f (t.args.take k) 0 ∧ valT.rowL n ls f (t.args.take k) 0 < powI n k := by
      intro k
      induction k with
      | zero => intro _; exact ⟨Int.le_refl _, by show (0 : Int) < 1; decide⟩
      | succ k ihk =>
        intro hk
        obtain ⟨x, hx⟩ : ∃ x, t.args[k]? = some x := ⟨t.args[k]'(by omega), List.getElem?_eq_getElem (by omega)⟩
        have hm := List.mem_of_getElem? hx
        have hxs := T.szL_mem hm
        obtain ⟨h1, h2⟩ := ihk (by omega)
        obtain ⟨⟨h3, h4⟩, _⟩ := ih x (by omega) (okL_mem.1 (okP_iff.1 ht).2 x hm) (fun y hy => hf y (parts_arg hm hy))
        rw [rowL_step hx, powI]
        exact row_bound h.lo h1 h2 h3 h4
    refine ⟨?_, hrow⟩
    rw [valT_eq]
    by_cases hv : t.v ≠ 0
    · rw [if_pos hv]; exact hf t (parts_self t) hv
    · rw [if_neg hv]
      obtain ⟨l, hl, _, _, hlen, _, hall⟩ := h.table ht (by omega)
      have h5 := hrow t.args.length (Nat.le_refl _)
      rw [List.take_length] at h5
      have e : ls.getD t.f.toNat [] = l := by rw [List.getD_eq_getElem?_getD, hl]; rfl
      rw [e]
      exact hall _ (by omega)
theorem val_congr {n : Int} {ls : List (List Int)} {f g : Int → Int} : ∀ (N : Nat) (t : T), t.sz ≤ N → (∀ x, x ∈ parts t → x.v ≠ 0 → f x.v = g x.v) → valT n ls f t = valT n ls g t := by
  intro N
  induction N with
  | zero => intro t hN; have := t.sz_pos; omega
  | succ N ih =>
    intro t hN hf
    have hte := T.sz_eq t
    rw [valT_eq, valT_eq]
    by_cases hv : t.v ≠ 0
    · rw [if_pos hv, if_pos hv]; exact hf t (parts_self t) hv
    · rw [if_neg hv, if_neg hv]
      have hL : ∀ (l : List T) (r : Int), (∀ a, a ∈ l → a ∈ t.args) → valT.rowL n ls f l r = valT.rowL n ls g l r := by
        intro l
        induction l with
        | nil => intro r _; rfl
        | cons a l ihl =>
          intro r hal
          have ha := hal a (by simp)
          have has := T.szL_mem ha
          rw [valT.rowL, valT.rowL, ih a (by omega) (fun x hx => hf x (parts_arg ha hx)), ihl _ (fun b hb => hal b (by simp [hb]))]
      rw [hL _ _ (fun a ha => ha)]
end Go.Proofs.YtbkedppkdhfpoabGreat

namespace Go.Proofs.YtbkedppkdhfpoabGreat
open Go.RowKit
theorem Tryz.under81 : Tryz.prog.underlying 107 = some (.map 3 3) := by kernel_rfl
def IsAt (w : World) (b m : Nat) (g : Int → Option Int) : Prop := MapAt w b m (fun k => (g k).map (Value.int .i64))
theorem IsAt.below {w w' : World} {b m : Nat} {g : Int → Option Int} (h : IsAt w b m g) (hb : Below w.heap.size w w') : IsAt w' b m g := MapAt.below h hb
theorem getD_int (g : Int → Option Int) (k : Int) : (((g k).map (Value.int .i64)).getD (.int .i64 0)) = .int .i64 ((g k).getD 0) := by cases g k <;> rfl
theorem ok_v {ar : List Int} {t : T} (h : okP ar t) (hv : t.v ≠ 0) : 1 ≤ t.v ∧ t.v ≤ 1000 := by
  have h1 := (okP_iff.1 h).1
  rw [partErr, if_pos hv] at h1
  by_cases h2 : t.v < 1 ∨ 1000 < t.v
  · rw [if_pos h2] at h1; cases h1
  · omega
attribute [local go_sem ↓] Go.wp_at_zero Go.wp_at_succ
set_option maxRecDepth 100000 in
set_option maxHeartbeats 1000000 in
theorem valueP_any {ar : List Int} {n : Int} {ls : List (List Int)} (hmo : MOk ar n ls) (ta : Option Addr) (tc b m : Nat) (g : Int → Option Int) (N : Nat) : ∀ (t : T) (a : Option Addr) (cap : Nat) (w : World), t.sz ≤ N → okP ar t → (∀ x, x ∈ parts t → x.v ≠ 0 → 0 ≤ (g x.v).getD 0 ∧ (g x.v).getD 0 < n) → IsAt w b m g → TabsP w ls ta → InL w t.args a →
    Calls Tryz.prog 71 #[.map (some b), .agg #[.int .i64 n, .slice ta ls.length tc], .agg #[.int .i64 t.v, .int .i64 t.f, .slice a t.args.length cap]] w fun e w' => e = .returned (.int .i64 (valT n ls (fun k => (g k).getD 0) t)) ∧ Below w.heap.size w w' := by
  induction N with
  | zero => intro t a cap w hN; have := t.sz_pos; omega
  | succ N ih =>
    intro t a cap w hN hok hf hM hT hin
    have Hih := hide ih
    have hte := T.sz_eq t
    have Hf := hide hf
    have Hok := hide hok
    have Hmo := hide hmo
    obtain ⟨W2, hW2⟩ : ∃ W2, W2 = (w.alloc (.cells #[.int .i64 n, .slice ta ls.length tc] 43)).alloc (.cells #[.int .i64 t.v, .int .i64 t.f, .slice a t.args.length cap] 77) := ⟨_, rfl⟩
    have hb2 : Below w.heap.size w W2 := by rw [hW2]; exact below2 _ _ _
    have hz2 : W2.heap.size = w.heap.size + 2 := by rw [hW2]; simp
    have cn : W2.cell? ⟨w.heap.size, 0, none⟩ = some (.int .i64 n) := by rw [hW2, cell_alloc_lt (by simp)]; exact cell_new 0 rfl
    have ct : W2.cell? ⟨w.heap.size, 1, none⟩ = some (.slice ta ls.length tc) := by rw [hW2, cell_alloc_lt (by simp)]; exact cell_new 1 rfl
    have h3 : Three W2 (w.heap.size + 1) (.int .i64 t.v) (.int .i64 t.f) (.slice a t.args.length cap) := by rw [hW2]; exact Three.new 77 (by simp)
    have HM := hide hM
    have HT := hide hT
    have Hin := hide hin
    have Hb2 := hide hb2
    have HW2 := hide hW2
    obtain ⟨Z, hZ⟩ : ∃ Z, Z = valT n ls (fun k => (g k).getD 0) t := ⟨_, rfl⟩
    rw [← hZ]
    have HZ := hide hZ
    clear ih hf hok hM hT hin hb2 hZ hmo
    by_cases hv : t.v ≠ 0
    · have hvb : (t.v != 0) = true := by simpa using hv
      have hvr := ok_v Hok.out hv
      have hlook := MapAt.look (MapAt.below HM.out Hb2.out) (t := 107) Tryz.under81 (Tryz.zeroI _) (k := t.v) (by omega) (by omega)
      rw [getD_int] at hlook
      have Hz : Hid (Z = (g t.v).getD 0) := by show _ = _; rw [HZ.out, valT_eq, if_pos hv]
      rw [hW2] at hlook
      rw [← Hz.out] at hlook
      clear hv hvr Hz HZ hW2 cn ct h3
      go_enter Tryz.func71, Tryz.ntmps71
      go_wp2_with fail
      go_ret
      exact ⟨rfl, below2 _ _ _⟩
    · have hv0 : t.v = 0 := by omega
      obtain ⟨l, hl, hf0, hf1, hlen, h3a, hall⟩ := Hmo.out.table Hok.out hv0
      have hvr := val_range (f := fun k => (g k).getD 0) Hmo.out (N + 1) t hN Hok.out Hf.out
      have Hvr := hide hvr.2
      have Hz : Hid (Z = l.getD (valT.rowL n ls (fun k => (g k).getD 0) t.args 0).toNat 0) := by
        show _ = _
        rw [HZ.out, valT_eq, if_neg hv]
        have e : ls.getD t.f.toNat [] = l := by rw [List.getD_eq_getElem?_getD, hl]; rfl
        rw [e]
      have hlo := Hmo.out.lo
      have hhi := Hmo.out.hi
      have HP := hide (powI_range hlo hhi)
      have hvb : (t.v != 0) = false := by simpa using hv0
      have Hl := hide hl
      have Hlen := hide hlen
      have Hall := hide hall
      have H3 := hide h3
      have Hcn := hide cn
      have Hct := hide ct
      rw [hW2] at h3
      obtain ⟨q0, q1, q2, _, _, _⟩ := h3
      clear hv hv0 hvr hl hlen hall HZ hW2 cn ct
      go_enter Tryz.func71, Tryz.ntmps71
      go_wp2_with fail
      rw [← HW2.out]
      go_loopw [7, 20] (fun r i wr => ∃ k : Nat, k ≤ t.args.length ∧ i = .int .i64 k ∧ r = .int .i64 (valT.rowL n ls (fun k => (g k).getD 0) (t.args.take k) 0) ∧ Hid (Below W2.heap.size W2 wr)) (fun _ i _ => t.args.length - (intOf i).toNat)
      case atStart => exact ⟨0, Nat.zero_le _, rfl, rfl, Below.refl _ _⟩
      case round =>
        obtain ⟨k, hk, rfl, rfl, Hbr⟩ := hrel
        have hzr := Hbr.out.size
        have Hbw := hide (Hb2.out.trans (Hbr.out.mono (by omega)))
        have hrk := Hvr.out k hk
        by_cases hlt : k < t.args.length
        · obtain ⟨ab, aoff, rfl⟩ := InP_some Hin.out (by omega)
          obtain ⟨x, hx⟩ : ∃ x, t.args[k]? = some x := ⟨t.args[k], List.getElem?_eq_getElem hlt⟩
          obtain ⟨a3, cap3, _, k0, k1, k2, hinx⟩ := InP_at (InP_below Hbw.out Hin.out) hx
          have hxm := List.mem_of_getElem? hx
          have hxs := T.szL_mem hxm
          have hxo := okL_mem.1 (okP_iff.1 Hok.out).2 x hxm
          have hxf := fun y hy => Hf.out y (parts_arg hxm hy)
          have hxr := (val_range (f := fun k => (g k).getD 0) Hmo.out x.sz x (Nat.le_refl _) hxo hxf).1
          have Hst := hide (rowL_step (n := n) (ls := ls) (f := fun k => (g k).getD 0) hx 0)
          have hp27 := (HP.out k).2.1 (by omega)
          obtain ⟨W3, hW3⟩ : ∃ W3, W3 = wr.alloc (.cells #[.int .i64 x.v, .int .i64 x.f, .slice a3 x.args.length cap3] 77) := ⟨_, rfl⟩
          have hb3 : Below wr.heap.size wr W3 := by rw [hW3]; exact below1 _ _
          have Hb3 := hide (Hbr.out.trans (hb3.mono hzr))
          have Hbw3 := hide (Hbw.out.trans (hb3.mono Hbw.out.size))
          have h33 : Three W3 wr.heap.size (.int .i64 x.v) (.int .i64 x.f) (.slice a3 x.args.length cap3) := by rw [hW3]; exact Three.new 77 rfl
          have HC := hide (fun (w' : World) (hb' : Below W3.heap.size W3 w') => Hih.out x a3 cap3 w' (by omega) hxo hxf ((HM.out.below Hbw3.out).below hb') (TabsP_below hb' (TabsP_below Hbw3.out HT.out)) (InP_below hb' (InP_below hb3 hinx)))
          have hS := hide (fun (w' : World) (hb' : Below W3.heap.size W3 w') => (show w'.cell? ⟨w.heap.size, 0, none⟩ = some (.int .i64 n) ∧ w'.cell? ⟨w.heap.size, 1, none⟩ = some (.slice ta ls.length tc) ∧ w'.cell? ⟨wr.heap.size, 0, none⟩ = some (.int .i64 x.v) ∧ w'.cell? ⟨wr.heap.size, 1, none⟩ = some (.int .i64 x.f) ∧ w'.cell? ⟨wr.heap.size, 2, none⟩ = some (.slice a3 x.args.length cap3) from
            ⟨cellB hb' (cellB Hb3.out Hcn.out), cellB hb' (cellB Hb3.out Hct.out), cellB hb' h33.c0, cellB hb' h33.c1, cellB hb' h33.c2⟩))
          have hkI : (k : Int) < t.args.length := by omega
          have hk0 : (0 : Int) ≤ k := by omega
          have HF0 := hide (Below.refl W3.heap.size W3)
          have HW3 := hide hW3
          obtain ⟨X, hX⟩ : ∃ X, X = valT n ls (fun k => (g k).getD 0) x := ⟨_, rfl⟩
          obtain ⟨R, hR⟩ : ∃ R, R = valT.rowL n ls (fun k => (g k).getD 0) (t.args.take k) 0 := ⟨_, rfl⟩
          rw [← hX, ← hR] at Hst
          rw [← hX] at HC hxr
          rw [← hR] at hrk ⊢
          have hRn : 0 ≤ R * n ∧ R * n ≤ 81 := by
            have h1 : 0 ≤ R * n := Int.mul_nonneg hrk.1 (by omega)
            have h2 : R * n ≤ 27 * 3 := Int.mul_le_mul (by omega) hhi (by omega) (by omega)
            exact ⟨h1, by omega⟩
          have Hw : Hid (IntKind.i64.wrap (IntKind.i64.wrap (R * n) + X) = R * n + X) := by
            show _ = _
            rw [wrap_ok (R * n) (by omega) (by omega), wrap_ok (R * n + X) (by omega) (by omega)]
          clear hx hxm hxs hxo hxf hinx hb3 h33 hW3 hX hR q0 q1 q2
          go_wp2_with fail
          rw [← HW3.out]
          go_region_held3 (fun w' => w'.cell? ⟨w.heap.size, 0, none⟩ = some (.int .i64 n) ∧ w'.cell? ⟨w.heap.size, 1, none⟩ = some (.slice ta ls.length tc) ∧ w'.cell? ⟨wr.heap.size, 0, none⟩ = some (.int .i64 x.v) ∧ w'.cell? ⟨wr.heap.size, 1, none⟩ = some (.int .i64 x.f) ∧ w'.cell? ⟨wr.heap.size, 2, none⟩ = some (.slice a3 x.args.length cap3)) ((first | (refine hS.out _ ?_; (repeat' (first | with_reducible exact Hid.out ‹Hid (Below _ _ _)› | with_reducible exact Below.refl _ _ | (with_reducible refine Below.drew ?_))); done) | go_keep)) ((
            go_at_call 71
            with_reducible refine (HC.out _ ?_).mono ?_
            · (repeat' (first | with_reducible exact Hid.out ‹Hid (Below _ _ _)› | with_reducible exact Below.refl _ _ | (with_reducible refine Below.drew ?_)))
            rintro e w4 ⟨rfl, hb4⟩
            have Hb4 : Hid (Below W3.heap.size W3 w4) := below_undrew hb4
            clear hb4))
          rw [Hw.out]
          have Hb5 := hide (Hb3.out.trans (Hb4.out.mono Hb3.out.size))
          clear Hw HC hS
          go_wp2_with fail
          go_roundw
          case rel => exact ⟨k + 1, by omega, by go_num, by rw [Hst.out], Hb5⟩
          case measure => simp [intOf]; omega
        · have hk2 : k = t.args.length := by omega
          subst hk2
          rw [List.take_length] at hrk ⊢
          obtain ⟨tb, toff, rfl⟩ := TabsP_some HT.out (by omega)
          obtain ⟨la, lc, ctl, hIl⟩ := TabsP_at (TabsP_below Hbw.out HT.out) Hl.out
          have hp27 := (HP.out t.args.length).2.1 h3a
          have hlen := Hlen.out
          obtain ⟨R, hR⟩ : ∃ R, R = valT.rowL n ls (fun k => (g k).getD 0) t.args 0 := ⟨_, rfl⟩
          rw [← hR] at hrk Hz ⊢
          obtain ⟨r, hr⟩ := Int.eq_ofNat_of_zero_le hrk.1
          have hrl : r < l.length := by omega
          obtain ⟨lb, loff, rfl, hlc⟩ := Ints_some hIl (by omega)
          have cr := hlc r hrl
          have hZr : Z = l.getD r 0 := by rw [Hz.out, hr]; rfl
          rw [← hZr] at cr
          obtain ⟨fn, hfn⟩ := Int.eq_ofNat_of_zero_le hf0
          have hfl : (fn : Int) < ls.length := by omega
          have ctl2 : wr.cell? ⟨tb, toff + fn, none⟩ = some (.slice (some ⟨lb, loff, none⟩) l.length lc) := by rw [hfn] at ctl; exact ctl
          have cn4 := cellB Hbr.out Hcn.out
          have ct4 := cellB Hbr.out Hct.out
          obtain ⟨p0, p1, p2, _, _, _⟩ := H3.out.below Hbr.out
          rw [hfn] at p1
          rw [hr]
          have hrI : (r : Int) < l.length := by omega
          have hr0 : (0 : Int) ≤ r := by omega
          have hfn0 : (0 : Int) ≤ fn := by omega
          clear hR hr hZr hlc hIl ctl hfn hlen hrk hp27 q0 q1 q2 Hz
          go_wp2_with fail
          go_ret
          exact ⟨rfl, Hbw.out⟩
end Go.Proofs.YtbkedppkdhfpoabGreat
