/- Models, as plain data, and as they lie there; the program's Check of them. What a term is in a model, by what its variables are: as plain data. No word of the program's memory here. Maps keyed by numbers: what they hold at each number. The unifier's parts: how they lie, and the head of a part. The unifier counts the parts of what a part has become. Matching, as plain data: by which bindings is a pattern a term? No word of the program's memory here. What is wrong with bindings: the document's check, and the program's. -/
import Derived.BigQuiet
import Derived.Deep.DeepCutAuto
import Derived.Deep.RegionHeld3
import Derived.Maps.OwnOps
import Derived.Maps.OwnSet
import Derived.Test.YtbkedppkdhfpoabGreatJoined7
namespace Go.Proofs.YtbkedppkdhfpoabGreat
open Go.RowKit

/-- Tables that lie one behind the other from an address on. -/
def TabsP (w : World) : List (List Int) → Option Addr → Prop
  | [], _ => True
  | l :: ls, a => ∃ b off la lc, a = some ⟨b, off, none⟩ ∧ w.cell? ⟨b, off, none⟩ = some (.slice la l.length lc) ∧ Ints w l la ∧ TabsP w ls (some ⟨b, off + 1, none⟩)
theorem TabsP_below {w w' : World} (hb : Below w.heap.size w w') : ∀ {ls : List (List Int)} {a : Option Addr}, TabsP w ls a → TabsP w' ls a := by
  intro ls
  induction ls with
  | nil => intro a _; trivial
  | cons l ls ih =>
    intro a h
    obtain ⟨b, off, la, lc, rfl, h0, h1, h2⟩ := h
    exact ⟨b, off, la, lc, rfl, cellB hb h0, Ints_below hb h1, ih h2⟩
theorem TabsP_some {w : World} {ls : List (List Int)} {a : Option Addr} (h : TabsP w ls a) (hp : 0 < ls.length) : ∃ b off, a = some ⟨b, off, none⟩ := by
  cases ls with
  | nil => simp at hp
  | cons l ls => obtain ⟨b, off, _, _, rfl, _⟩ := h; exact ⟨b, off, rfl⟩
theorem TabsP_at {w : World} : ∀ {ls : List (List Int)} {b off k : Nat} {l : List Int}, TabsP w ls (some ⟨b, off, none⟩) → ls[k]? = some l → ∃ la lc, w.cell? ⟨b, off + k, none⟩ = some (.slice la l.length lc) ∧ Ints w l la := by
  intro ls
  induction ls with
  | nil => intro b off k l _ h; simp at h
  | cons m ls ih =>
    intro b off k l h hk
    obtain ⟨b', off', la, lc, hb, h0, h1, h2⟩ := h
    simp only [Option.some.injEq, Addr.mk.injEq] at hb
    obtain ⟨rfl, rfl, _⟩ := hb
    cases k with
    | zero => simp at hk; subst hk; exact ⟨la, lc, by simpa using h0, h1⟩
    | succ k =>
      obtain ⟨la2, lc2, g0, g1⟩ := ih h2 (by simpa using hk)
      exact ⟨la2, lc2, by rw [show off + (k + 1) = off + 1 + k by omega]; exact g0, g1⟩

/-- A number to a power. -/
def powI (n : Int) : Nat → Int
  | 0 => 1
  | k + 1 => powI n k * n
theorem powI_range {n : Int} (h0 : 1 ≤ n) (h1 : n ≤ 3) : ∀ k, 1 ≤ powI n k ∧ (k ≤ 3 → powI n k ≤ 27) ∧ (k ≤ 8 → powI n k ≤ 6561) := by
  have hP : ∀ k, 1 ≤ powI n k ∧ powI n k ≤ (3 : Int) ^ k := by
    intro k
    induction k with
    | zero => simp [powI]
    | succ k ih =>
      rw [powI, Int.pow_succ]
      refine ⟨?_, ?_⟩
      · have := Int.mul_le_mul ih.1 h0 (by omega) (by omega); omega
      · exact Int.mul_le_mul ih.2 h1 (by omega) (by have := ih.1; have := ih.2; omega)
  intro k
  refine ⟨(hP k).1, fun hk => ?_, fun hk => ?_⟩
  · have h2 := (hP k).2
    have h3 : (3 : Int) ^ k ≤ 27 := by
      match k, hk with
      | 0, _ => decide
      | 1, _ => decide
      | 2, _ => decide
      | 3, _ => decide
    omega
  · have h2 := (hP k).2
    have h3 : (3 : Int) ^ k ≤ 6561 := by
      match k, hk with
      | 0, _ => decide
      | 1, _ => decide
      | 2, _ => decide
      | 3, _ => decide
      | 4, _ => decide
      | 5, _ => decide
      | 6, _ => decide
      | 7, _ => decide
      | 8, _ => decide
    omega
/-- Are all numbers things? -/
def allT (n : Int) (zs : List Int) : Bool := zs.all (fun z => decide (0 ≤ z ∧ z < n))
/-- Have the tables the lengths that the arities ask? -/
def lensT (n : Int) : List Int → List (List Int) → Bool
  | [], [] => true
  | a :: ar, l :: ls => decide ((l.length : Int) = powI n a.toNat) && lensT n ar ls
  | _, _ => false
/-- What Check says of a model. -/
def modelErr (ar : List Int) (n : Int) (ls : List (List Int)) : Int :=
  if sigErr ar = 0 then (if n < 1 ∨ 3 < n then 3 else if lensT n ar ls then (if ls.all (allT n) then 0 else 5) else 1) else sigErr ar

set_option maxRecDepth 100000 in
set_option maxHeartbeats 400000 in
theorem rows_any (n : Int) (k : Nat) (w : World) (h0 : 1 ≤ n) (h1 : n ≤ 3) (hk : k ≤ 3) : Calls Tryz.prog 127 #[.int .i64 n, .int .i64 (k : Int)] w fun e w' => e = .returned (.int .i64 (powI n k)) ∧ w' = w := by
  have HP := hide (powI_range h0 h1)
  go_enter Tryz.func127, Tryz.ntmps127
  go_wp2_with fail
  go_loopw [5, 7] (fun p i wr => ∃ j : Nat, j ≤ k ∧ i = .int .i64 j ∧ p = .int .i64 (powI n j) ∧ Hid (wr = w)) (fun _ i _ => k - (intOf i).toNat)
  case atStart => exact ⟨0, Nat.zero_le _, rfl, rfl, rfl⟩
  case round =>
    obtain ⟨j, hj, rfl, rfl, hw⟩ := hrel
    obtain rfl := (show w = _ from Eq.symm hw)
    by_cases hlt : j < k
    · have hI : (j : Int) < k := by omega
      have hp := HP.out j
      have hp2 := HP.out (j + 1)
      have hpe : powI n (j + 1) = powI n j * n := rfl
      have h3 := hp.2.1 (by omega)
      have h4 := hp2.2.1 (by omega)
      have h5 := hp.1
      have h6 := hp2.1
      have Hpe := hide hpe
      rw [hpe] at h4 h6
      clear hp hp2 hpe
      generalize powI n j = P at *
      go_wp2_with fail
      go_roundw
      case rel => exact ⟨j + 1, by omega, by go_num, by rw [Hpe.out], trivial⟩
      case measure => simp [intOf]; omega
    · have hj2 : j = k := by omega
      subst hj2
      go_wp2_with fail
      go_ret
      exact ⟨rfl, rfl⟩

set_option maxRecDepth 100000 in
set_option maxHeartbeats 400000 in
theorem allThingsC_any (n z : Int) (b : Nat) (w : World) (hb : w.cell? ⟨b, 0, none⟩ = some (.int .i64 n)) : Calls Tryz.prog 170 #[.int .i64 z, .pointer (some ⟨b, 0, none⟩)] w fun e w' => e = .returned (.bool (!decide (0 ≤ z ∧ z < n))) ∧ w' = w := by
  go_enter Tryz.func170, Tryz.ntmps170
  by_cases h : z < 0
  · have e : (!decide (0 ≤ z ∧ z < n)) = true := by simp; omega
    rw [e]
    go_wp2_with fail
    go_ret
    exact ⟨rfl, rfl⟩
  · by_cases h2 : n ≤ z
    · have e : (!decide (0 ≤ z ∧ z < n)) = true := by simp; omega
      rw [e]
      go_wp2_with fail
      go_ret
      exact ⟨rfl, rfl⟩
    · have e : (!decide (0 ≤ z ∧ z < n)) = false := by simp; omega
      rw [e]
      go_wp2_with fail
      go_ret
      exact ⟨rfl, rfl⟩

theorem eg170 (args : Array Value) (w : World) : (callFunc 170 args).run Tryz.prog w = .ok (.enter 170 args) w := by kernel_rfl
theorem eg126 (args : Array Value) (w : World) : (callFunc 126 args).run Tryz.prog w = .ok (.enter 126 args) w := by kernel_rfl
theorem eg129 (args : Array Value) (w : World) : (callFunc 129 args).run Tryz.prog w = .ok (.enter 129 args) w := by kernel_rfl

theorem allT_step {n : Int} {zs : List Int} {k : Nat} (hk : k < zs.length) (h : allT n (zs.take k) = true) : (decide (0 ≤ zs.getD k 0 ∧ zs.getD k 0 < n) = true → allT n (zs.take (k + 1)) = true) ∧ (decide (0 ≤ zs.getD k 0 ∧ zs.getD k 0 < n) = false → allT n zs = false) := by
  have hg : zs.getD k 0 = zs[k] := by rw [List.getD_eq_getElem?_getD, List.getElem?_eq_getElem hk]; rfl
  constructor
  · intro h1
    rw [allT, List.take_add_one, List.getElem?_eq_getElem hk, List.all_append]
    rw [allT] at h
    rw [h, ← hg]
    simpa using h1
  · intro h1
    rw [allT, List.all_eq_false]
    exact ⟨zs[k], List.getElem_mem hk, by rw [← hg, h1]; decide⟩

set_option maxRecDepth 100000 in
set_option maxHeartbeats 400000 in
theorem indexT_any (n : Int) (zs : List Int) (a : Option Addr) (cap b : Nat) (w : World) (hI : Ints w zs a) (hl : zs.length ≤ 9223372036854775807) (hb : w.cell? ⟨b, 0, none⟩ = some (.int .i64 n)) :
    Calls Tryz.prog 212 #[.slice a zs.length cap, .func (.func 170) #[] #[.pointer (some ⟨b, 0, none⟩)]] w fun e w' => (∃ i : Int, e = .returned (.int .i64 i) ∧ decide (0 ≤ i) = !allT n zs) ∧ w' = w := by
  have eg := eg170
  have HC := hide (fun z => allThingsC_any n z b w hb)
  have HI := hide hI
  clear hI
  go_enter Tryz.func212, Tryz.ntmps212
  go_wp2_with fail
  go_loopw [8] (fun i wr => ∃ k : Nat, k ≤ zs.length ∧ i = .int .i64 k ∧ Hid (allT n (zs.take k) = true) ∧ Hid (wr = w)) (fun i _ => zs.length - (intOf i).toNat)
  case atStart => exact ⟨0, Nat.zero_le _, rfl, rfl, rfl⟩
  case round =>
    obtain ⟨k, hk, rfl, Hk, hw⟩ := hrel
    obtain rfl := (show w = _ from Eq.symm hw)
    by_cases hlt : k < zs.length
    · obtain ⟨bb, off, rfl, hc⟩ := Ints_some HI.out (by omega)
      have ck := hc k hlt
      have Hst := hide (allT_step hlt Hk.out)
      have hI : (k : Int) < zs.length := by omega
      have hk0 : (0 : Int) ≤ k := by omega
      clear hc Hk
      generalize zs.getD k 0 = z at *
      go_wp2_with fail
      refine (HC.out z).mono ?_
      rintro e w' ⟨rfl, hw'⟩
      obtain rfl := hw'.symm
      cases hd : decide (0 ≤ z ∧ z < n) with
      | true =>
        have Hn := hide (Hst.out.1 hd)
        clear Hst hd hw'
        simp only [Bool.not_true]
        go_wp2_with fail
        go_roundw
        case rel => exact ⟨k + 1, by omega, by go_num, Hn, trivial⟩
        case measure => simp [intOf]; omega
      | false =>
        have Hn := hide (Hst.out.2 hd)
        clear Hst hd hw'
        simp only [Bool.not_false]
        go_wp2_with fail
        go_ret
        exact ⟨⟨k, rfl, by rw [Hn.out]; simp⟩, rfl⟩
    · have hk2 : k = zs.length := by omega
      subst hk2
      rw [List.take_length] at Hk
      go_wp2_with fail
      go_ret
      exact ⟨⟨-1, rfl, by rw [Hk.out]; rfl⟩, rfl⟩
set_option maxRecDepth 100000 in
set_option maxHeartbeats 400000 in
theorem allThings_any (n : Int) (zs : List Int) (a : Option Addr) (cap : Nat) (w : World) (hI : Ints w zs a) (hl : zs.length ≤ 9223372036854775807) :
    Calls Tryz.prog 124 #[.int .i64 n, .slice a zs.length cap] w fun e w' => e = .returned (.bool (allT n zs)) ∧ Below w.heap.size w w' := by
  have HX := hide (fun (w' : World) (hw : w' = w.alloc (.cells #[.int .i64 n] 3)) => indexT_any n zs a cap w.heap.size w' (by rw [hw]; exact Ints_alloc _ hI) hl (by rw [hw]; exact cell_new 0 rfl))
  have HC : Hid (∀ (w' : World), w' = w.alloc (.cells #[.int .i64 n] 3) → Calls Tryz.prog 169 #[.slice a zs.length cap, .func (.func 170) #[] #[.pointer (some ⟨w.heap.size, 0, none⟩)]] w' fun e w'' => e = .returned (.bool (!allT n zs)) ∧ w'' = w') := fun w' hw => by
    have HY := hide (HX.out w' hw)
    clear hw
    go_enter Tryz.func169, Tryz.ntmps169
    go_wp2_with fail
    refine HY.out.mono ?_
    rintro e w2 ⟨⟨i, rfl, hi⟩, hw2⟩
    obtain rfl := hw2.symm
    have Hi := hide hi
    clear hi hw2
    go_wp2_with fail
    go_ret
    exact ⟨ret_bool Hi.out, rfl⟩
  clear HX hI
  go_enter Tryz.func124, Tryz.ntmps124
  go_wp2_with fail
  refine (HC.out _ rfl).mono ?_
  rintro e w2 ⟨rfl, hw2⟩
  obtain rfl := hw2.symm
  clear hw2
  go_wp2_with fail
  go_ret
  exact ⟨by simp, below1 _ _⟩

theorem lensT_len {n : Int} : ∀ {ar : List Int} {ls : List (List Int)}, ar.length ≠ ls.length → lensT n ar ls = false := by
  intro ar
  induction ar with
  | nil =>
    intro ls h
    cases ls with
    | nil => simp at h
    | cons l ls => rfl
  | cons a ar ih =>
    intro ls h
    cases ls with
    | nil => rfl
    | cons l ls =>
      rw [lensT, ih (fun e => h (by simp [e]))]
      simp
theorem lensT_drop {n : Int} {ar : List Int} {ls : List (List Int)} {k : Nat} {l : List Int} (hk : k < ar.length) (hl : ls[k]? = some l) : lensT n (ar.drop k) (ls.drop k) = (decide ((l.length : Int) = powI n (ar.getD k 0).toNat) && lensT n (ar.drop (k + 1)) (ls.drop (k + 1))) := by
  have hlt := (List.getElem?_eq_some_iff.1 hl).1
  have e1 : ls.drop k = l :: ls.drop (k + 1) := by
    rw [List.getElem?_eq_getElem hlt] at hl
    simp at hl
    rw [← hl, List.getElem_cons_drop]
  have e2 : ar.drop k = ar.getD k 0 :: ar.drop (k + 1) := by
    rw [List.getD_eq_getElem?_getD, List.getElem?_eq_getElem hk]
    show _ = ar[k] :: _
    rw [List.getElem_cons_drop]
  rw [e1, e2, lensT]
theorem sig_arity {ar : List Int} (h : sigErr ar = 0) {k : Nat} (hk : k < ar.length) : 0 ≤ ar.getD k 0 ∧ ar.getD k 0 ≤ 3 := by
  rw [sigErr] at h
  split at h
  · cases h
  · split at h
    · rename_i h2
      rw [List.all_eq_true] at h2
      have hg : ar.getD k 0 = ar[k] := by rw [List.getD_eq_getElem?_getD, List.getElem?_eq_getElem hk]; rfl
      have h3 := h2 ar[k] (List.getElem_mem hk)
      rw [hg]
      simpa using h3
    · cases h
theorem sig_short {ar : List Int} (h : sigErr ar = 0) : ar.length ≤ 12 := by
  rw [sigErr] at h
  split at h
  · cases h
  · omega

set_option maxRecDepth 100000 in
set_option maxHeartbeats 400000 in
theorem checkC1_any (n : Int) (k : Nat) (la : Option Addr) (ln lc b : Nat) (w : World) (h0 : 1 ≤ n) (h1 : n ≤ 3) (hk : k ≤ 3) (hb : w.cell? ⟨b, 0, none⟩ = some (.int .i64 n)) :
    Calls Tryz.prog 126 #[.int .i64 (k : Int), .slice la ln lc, .pointer (some ⟨b, 0, none⟩)] w fun e w' => e = .returned (.bool (decide ((ln : Int) = powI n k))) ∧ w' = w := by
  have HR := hide (rows_any n k w h0 h1 hk)
  obtain ⟨P, hP⟩ : ∃ P, P = powI n k := ⟨_, rfl⟩
  rw [← hP] at HR ⊢
  clear hP
  go_enter Tryz.func126, Tryz.ntmps126
  go_wp2_with fail
  refine HR.out.mono ?_
  rintro e w' ⟨rfl, hw⟩
  obtain rfl := hw.symm
  clear hw
  go_wp2_with fail
  go_ret
  exact ⟨ret_bool (by rw [Bool.eq_iff_iff]; simp), rfl⟩

set_option maxRecDepth 100000 in
set_option maxHeartbeats 400000 in
theorem equalM_any (ar : List Int) (ga : Option Addr) (gcap : Nat) (n : Int) (ls : List (List Int)) (ta : Option Addr) (tc b : Nat) (w : World) (hsig : sigErr ar = 0) (h0 : 1 ≤ n) (h1 : n ≤ 3) (hg : Ints w ar ga) (ht : TabsP w ls ta) (hb : w.cell? ⟨b, 0, none⟩ = some (.int .i64 n)) :
    Calls Tryz.prog 125 #[.slice ga ar.length gcap, .slice ta ls.length tc, .func (.func 126) #[] #[.pointer (some ⟨b, 0, none⟩)]] w fun e w' => e = .returned (.bool (lensT n ar ls)) ∧ w' = w := by
  have eg := eg126
  have HC := hide (fun k la ln lc hk => checkC1_any n k la ln lc b w h0 h1 hk hb)
  have Hg := hide hg
  have Ht := hide ht
  have Hsig := hide (fun k hk => sig_arity (k := k) hsig hk)
  have h12 := sig_short hsig
  obtain ⟨Z, hZ⟩ : ∃ Z, Z = lensT n ar ls := ⟨_, rfl⟩
  rw [← hZ]
  have HZ := hide hZ
  clear hg ht hsig hZ
  go_enter Tryz.func125, Tryz.ntmps125
  by_cases hlen : ar.length = ls.length
  · have hlI : ((ar.length : Int) != ls.length) = false := by simp; omega
    have Hlen := hide hlen
    clear hlen
    go_wp2_with fail
    go_loopw [17] (fun i wr => ∃ k : Nat, k ≤ ar.length ∧ i = .int .i64 k ∧ Hid (Z = lensT n (ar.drop k) (ls.drop k)) ∧ Hid (wr = w)) (fun i _ => ar.length - (intOf i).toNat)
    case atStart => exact ⟨0, Nat.zero_le _, rfl, by rw [List.drop_zero, List.drop_zero]; exact HZ.out, rfl⟩
    case round =>
      obtain ⟨k, hk, rfl, Hk, hw⟩ := hrel
      obtain rfl := (show w = _ from Eq.symm hw)
      by_cases hlt : k < ar.length
      · obtain ⟨gb, goff, rfl, hgc⟩ := Ints_some Hg.out (by omega)
        have hlt2 : k < ls.length := by have := Hlen.out; omega
        obtain ⟨tb, toff, rfl⟩ := TabsP_some Ht.out (by omega)
        obtain ⟨l, hl⟩ : ∃ l, ls[k]? = some l := ⟨ls[k], List.getElem?_eq_getElem hlt2⟩
        obtain ⟨la, lc, ct, _⟩ := TabsP_at Ht.out hl
        have cg := hgc k hlt
        have hst := lensT_drop (n := n) hlt hl
        rw [← Hk.out] at hst
        have har := Hsig.out k hlt
        obtain ⟨m, hm⟩ := Int.eq_ofNat_of_zero_le har.1
        rw [hm] at cg hst har
        rw [show ((m : Int)).toNat = m from rfl] at hst
        have Hst := hide hst
        have HC2 := hide (HC.out m la l.length lc (by omega))
        have hkI : (k : Int) < ar.length := by omega
        have hkJ : (k : Int) < ls.length := by omega
        have hk0 : (0 : Int) ≤ k := by omega
        clear hgc hl hst hm har Hk
        go_wp2_with fail
        refine HC2.out.mono ?_
        rintro e w' ⟨rfl, hw'⟩
        obtain rfl := hw'.symm
        clear hw'
        cases hd : decide ((l.length : Int) = powI n m) with
        | true =>
          rw [hd, Bool.true_and] at Hst
          clear hd
          go_wp2_with fail
          go_roundw
          case rel => exact ⟨k + 1, by omega, by go_num, Hst, trivial⟩
          case measure => simp [intOf]; omega
        | false =>
          rw [hd, Bool.false_and] at Hst
          obtain rfl : Z = false := Hst.out
          clear hd Hst
          go_wp2_with fail
          go_ret
          exact ⟨rfl, rfl⟩
      · have hk2 : k = ar.length := by omega
        subst hk2
        obtain rfl : Z = true := by
          rw [Hk.out, List.drop_length, show ar.length = ls.length from Hlen.out, List.drop_length]; rfl
        clear Hk
        go_wp2_with fail
        go_ret
        exact ⟨rfl, rfl⟩
  · have hlI : ((ar.length : Int) != ls.length) = true := by simp; omega
    obtain rfl : Z = false := by rw [HZ.out, lensT_len hlen]
    clear hlen HZ
    go_wp2_with fail
    go_ret
    exact ⟨rfl, rfl⟩

set_option maxRecDepth 100000 in
set_option maxHeartbeats 400000 in
theorem checkC2_any (n : Int) (zs : List Int) (a : Option Addr) (cap b : Nat) (w : World) (hI : Ints w zs a) (hl : zs.length ≤ 9223372036854775807) (hb : w.cell? ⟨b, 0, none⟩ = some (.int .i64 n)) :
    Calls Tryz.prog 129 #[.slice a zs.length cap, .pointer (some ⟨b, 0, none⟩)] w fun e w' => e = .returned (.bool (!allT n zs)) ∧ Below w.heap.size w w' := by
  have HA := hide (allThings_any n zs a cap w hI hl)
  clear hI
  go_enter Tryz.func129, Tryz.ntmps129
  go_wp2_with fail
  refine HA.out.mono ?_
  rintro e w' ⟨rfl, hb'⟩
  have Hb := hide hb'
  clear hb'
  go_wp2_with fail
  go_ret
  exact ⟨rfl, Hb.out⟩
theorem allM_step {n : Int} {ls : List (List Int)} {k : Nat} {l : List Int} (hl : ls[k]? = some l) (h : (ls.take k).all (allT n) = true) : (allT n l = true → (ls.take (k + 1)).all (allT n) = true) ∧ (allT n l = false → ls.all (allT n) = false) := by
  have hlt := (List.getElem?_eq_some_iff.1 hl).1
  constructor
  · intro h1
    rw [List.take_add_one, hl, List.all_append, h]
    simpa using h1
  · intro h1
    rw [List.all_eq_false]
    exact ⟨l, List.mem_of_getElem? hl, by rw [h1]; decide⟩
set_option maxRecDepth 100000 in
set_option maxHeartbeats 400000 in
theorem indexM_any (n : Int) (ls : List (List Int)) (ta : Option Addr) (tc b : Nat) (w : World) (ht : TabsP w ls ta) (hls : ls.length ≤ 1000) (hll : ∀ l, l ∈ ls → l.length ≤ 1000) (hb : w.cell? ⟨b, 0, none⟩ = some (.int .i64 n)) :
    Calls Tryz.prog 171 #[.slice ta ls.length tc, .func (.func 129) #[] #[.pointer (some ⟨b, 0, none⟩)]] w fun e w' => (∃ i : Int, e = .returned (.int .i64 i) ∧ decide (0 ≤ i) = !ls.all (allT n)) ∧ Below w.heap.size w w' := by
  have eg := eg129
  have Hb := hide hb
  have Ht := hide ht
  have Hll := hide hll
  clear ht hb hll
  go_enter Tryz.func171, Tryz.ntmps171
  go_wp2_with fail
  go_loopw [8] (fun i wr => ∃ k : Nat, k ≤ ls.length ∧ i = .int .i64 k ∧ Hid ((ls.take k).all (allT n) = true) ∧ Hid (Below w.heap.size w wr)) (fun i _ => ls.length - (intOf i).toNat)
  case atStart => exact ⟨0, Nat.zero_le _, rfl, rfl, Below.refl _ _⟩
  case round =>
    obtain ⟨k, hk, rfl, Hk, Hbr⟩ := hrel
    by_cases hlt : k < ls.length
    · obtain ⟨tb, toff, rfl⟩ := TabsP_some Ht.out (by omega)
      obtain ⟨l, hl⟩ : ∃ l, ls[k]? = some l := ⟨ls[k], List.getElem?_eq_getElem hlt⟩
      obtain ⟨la, lc, ct, hIl⟩ := TabsP_at (TabsP_below Hbr.out Ht.out) hl
      have Hst := hide (allM_step hl Hk.out)
      have hl1 := Hll.out l (List.mem_of_getElem? hl)
      have HC := hide (checkC2_any n l la lc b wr hIl (by omega) (cellB Hbr.out Hb.out))
      have hI : (k : Int) < ls.length := by omega
      have hk0 : (0 : Int) ≤ k := by omega
      clear hl hIl Hk
      go_wp2_with fail
      refine HC.out.mono ?_
      rintro e w' ⟨rfl, hb'⟩
      have Hb' := hide (Hbr.out.trans (hb'.mono Hbr.out.size))
      clear hb' HC ct
      cases hd : allT n l with
      | true =>
        have Hn := hide (Hst.out.1 hd)
        clear Hst hd
        simp only [Bool.not_true]
        go_wp2_with fail
        go_roundw
        case rel => exact ⟨k + 1, by omega, by go_num, Hn, Hb'⟩
        case measure => simp [intOf]; omega
      | false =>
        have Hn := hide (Hst.out.2 hd)
        clear Hst hd
        simp only [Bool.not_false]
        go_wp2_with fail
        go_ret
        exact ⟨⟨k, rfl, by rw [Hn.out]; simp⟩, Hb'.out⟩
    · have hk2 : k = ls.length := by omega
      subst hk2
      rw [List.take_length] at Hk
      go_wp2_with fail
      go_ret
      exact ⟨⟨-1, rfl, by rw [Hk.out]; rfl⟩, Hbr.out⟩
set_option maxRecDepth 100000 in
set_option maxHeartbeats 400000 in
theorem containsM_any (n : Int) (ls : List (List Int)) (ta : Option Addr) (tc b : Nat) (w : World) (ht : TabsP w ls ta) (hls : ls.length ≤ 1000) (hll : ∀ l, l ∈ ls → l.length ≤ 1000) (hb : w.cell? ⟨b, 0, none⟩ = some (.int .i64 n)) :
    Calls Tryz.prog 128 #[.slice ta ls.length tc, .func (.func 129) #[] #[.pointer (some ⟨b, 0, none⟩)]] w fun e w' => e = .returned (.bool (!ls.all (allT n))) ∧ Below w.heap.size w w' := by
  have HX := hide (indexM_any n ls ta tc b w ht hls hll hb)
  clear ht hll hb
  go_enter Tryz.func128, Tryz.ntmps128
  go_wp2_with fail
  refine HX.out.mono ?_
  rintro e w' ⟨⟨i, rfl, hi⟩, hb'⟩
  have Hi := hide hi
  have Hb := hide hb'
  clear hi hb'
  go_wp2_with fail
  go_ret
  exact ⟨ret_bool Hi.out, Hb.out⟩
theorem lens_all {n : Int} {k : Nat} : ∀ {ar : List Int} {ls : List (List Int)}, (∀ a, a ∈ ar → a ≤ k) → lensT n ar ls = true → ar.length = ls.length ∧ ∀ l, l ∈ ls → ∃ m, m ≤ k ∧ (l.length : Int) = powI n m := by
  intro ar
  induction ar with
  | nil =>
    intro ls _ h
    cases ls with
    | nil => exact ⟨rfl, fun l hl => by cases hl⟩
    | cons l ls => cases h
  | cons a ar ih =>
    intro ls ha h
    cases ls with
    | nil => cases h
    | cons l ls =>
      rw [lensT, Bool.and_eq_true, decide_eq_true_eq] at h
      obtain ⟨h1, h2⟩ := ih (fun x hx => ha x (by simp [hx])) h.2
      refine ⟨by simp [h1], fun m hm => ?_⟩
      rcases List.mem_cons.1 hm with rfl | hm
      · exact ⟨a.toNat, by have := ha a (by simp); omega, h.1⟩
      · exact h2 m hm

set_option maxRecDepth 100000 in
set_option maxHeartbeats 400000 in
theorem mCheck_any (ar : List Int) (ga : Option Addr) (gcap : Nat) (n : Int) (ls : List (List Int)) (ta : Option Addr) (tc : Nat) (w : World) (hg : Ints w ar ga) (ht : TabsP w ls ta) :
    Calls Tryz.prog 66 #[.agg #[.slice ga ar.length gcap], .agg #[.int .i64 n, .slice ta ls.length tc]] w fun e w' => e = .returned (.int .i64 (modelErr ar n ls)) ∧ Below w.heap.size w w' := by
  obtain ⟨W2, hW2⟩ : ∃ W2, W2 = (w.alloc (.cells #[.slice ga ar.length gcap] 24)).alloc (.cells #[.int .i64 n, .slice ta ls.length tc] 43) := ⟨_, rfl⟩
  have hb0 : Below w.heap.size w W2 := by rw [hW2]; exact (below1 _ _).alloc (by simp) _
  have hz2 : W2.heap.size = w.heap.size + 2 := by rw [hW2]; simp
  have cg : W2.cell? ⟨w.heap.size, 0, none⟩ = some (.slice ga ar.length gcap) := by rw [hW2, cell_alloc_lt (by simp)]; exact cell_new 0 rfl
  have cn : W2.cell? ⟨w.heap.size + 1, 0, none⟩ = some (.int .i64 n) := by rw [hW2]; exact cell_new 0 (by simp)
  have ct : W2.cell? ⟨w.heap.size + 1, 1, none⟩ = some (.slice ta ls.length tc) := by rw [hW2]; exact cell_new 1 (by simp)
  have H1 := hide (signature_any ar ga gcap W2 (Ints_below hb0 hg))
  obtain ⟨E, hE⟩ : ∃ E, E = sigErr ar := ⟨_, rfl⟩
  obtain ⟨Z, hZ⟩ : ∃ Z, Z = modelErr ar n ls := ⟨_, rfl⟩
  rw [← hE] at H1
  rw [← hZ]
  have HE := hide hE
  have HZ := hide hZ
  have Hg := hide hg
  have Ht := hide ht
  have HW2 := hide hW2
  have Hb0 := hide hb0
  clear hE hZ hg ht hW2 hb0
  go_enter Tryz.func66, Tryz.ntmps66
  go_wp2_with fail
  rw [← HW2.out]
  refine H1.out.mono ?_
  rintro e w1 ⟨rfl, hb1⟩
  have hz1 := hb1.size
  have cg1 := cellB hb1 cg
  have cn1 := cellB hb1 cn
  have ct1 := cellB hb1 ct
  have Hb1 := hide (Hb0.out.trans (hb1.mono (by omega)))
  clear hb1 H1 cg cn ct HW2
  by_cases h0 : E = 0
  · have HZ1 : Hid (Z = if n < 1 ∨ 3 < n then 3 else if lensT n ar ls then (if ls.all (allT n) then 0 else 5) else 1) := by show _ = _; rw [HZ.out, modelErr, if_pos (HE.out.symm.trans h0)]
    have Hsig := hide (HE.out.symm.trans h0)
    subst h0
    clear HZ HE
    by_cases hr1 : n < 1
    · obtain rfl : Z = 3 := by rw [HZ1.out, if_pos (Or.inl hr1)]
      clear HZ1
      go_wp2_with fail
      go_ret
      exact ⟨rfl, Hb1.out⟩
    · by_cases hr2 : 3 < n
      · obtain rfl : Z = 3 := by rw [HZ1.out, if_pos (Or.inr hr2)]
        clear HZ1
        go_wp2_with fail
        go_ret
        exact ⟨rfl, Hb1.out⟩
      · have HZ2 : Hid (Z = if lensT n ar ls then (if ls.all (allT n) then 0 else 5) else 1) := by show _ = _; rw [HZ1.out, if_neg (by omega)]
        have HEq := hide (equalM_any ar ga gcap n ls ta tc (w.heap.size + 1) w1 Hsig.out (by omega) (by omega) (Ints_below Hb1.out Hg.out) (TabsP_below Hb1.out Ht.out) cn1)
        have Hct1 := hide ct1
        have Hcn1 := hide cn1
        clear HZ1
        go_wp2_with fail
        refine HEq.out.mono ?_
        rintro e w' ⟨rfl, hw'⟩
        obtain rfl := hw'.symm
        clear hw' HEq
        cases hL : lensT n ar ls with
        | false =>
          rw [hL] at HZ2
          obtain rfl : Z = 1 := by rw [HZ2.out]; simp
          clear HZ2 hL
          go_wp2_with fail
          go_ret
          exact ⟨rfl, Hb1.out⟩
        | true =>
          rw [hL] at HZ2
          have HZ3 : Hid (Z = if ls.all (allT n) then 0 else 5) := by show _ = _; rw [HZ2.out]; simp
          have hla := lens_all (k := 3) (fun a ha => by
            obtain ⟨k, hk, rfl⟩ := List.mem_iff_getElem.1 ha
            have h9 := sig_arity Hsig.out hk
            have hg9 : ar.getD k 0 = ar[k] := by rw [List.getD_eq_getElem?_getD, List.getElem?_eq_getElem hk]; rfl
            rw [hg9] at h9; exact h9.2) hL
          have h12 := sig_short Hsig.out
          have HCo := hide (containsM_any n ls ta tc (w.heap.size + 1) w1 (TabsP_below Hb1.out Ht.out) (by omega) (fun l hl => by
            obtain ⟨m, hm, he⟩ := hla.2 l hl
            have := (powI_range (n := n) (by omega) (by omega) m).2.1 hm
            omega) Hcn1.out)
          clear HZ2 hL hla
          go_wp2_with fail
          refine HCo.out.mono ?_
          rintro e w2 ⟨rfl, hb2⟩
          have Hb2 := hide (Hb1.out.trans (hb2.mono Hb1.out.size))
          clear hb2 HCo
          cases hA : ls.all (allT n) with
          | true =>
            rw [hA] at HZ3
            obtain rfl : Z = 0 := by rw [HZ3.out]; simp
            clear HZ3 hA
            go_wp2_with fail
            go_ret
            exact ⟨rfl, Hb2.out⟩
          | false =>
            rw [hA] at HZ3
            obtain rfl : Z = 5 := by rw [HZ3.out]; simp
            clear HZ3 hA
            go_wp2_with fail
            go_ret
            exact ⟨rfl, Hb2.out⟩
  · have h0b : (E != 0) = true := by simpa using h0
    obtain rfl : Z = E := by rw [HZ.out, modelErr, if_neg (fun h => h0 (HE.out.trans h)), HE.out]
    clear HZ HE h0
    go_wp2_with fail
    go_ret
    exact ⟨rfl, Hb1.out⟩

end Go.Proofs.YtbkedppkdhfpoabGreat

namespace Go.Proofs.YtbkedppkdhfpoabGreat

/-- What a term is. -/
def valT (n : Int) (ls : List (List Int)) (f : Int → Int) : T → Int
  | ⟨v, fn, args⟩ => if v ≠ 0 then f v else (ls.getD fn.toNat []).getD (rowL args 0).toNat 0
  where
  rowL : List T → Int → Int
    | [], r => r
    | a :: l, r => rowL l (r * n + valT n ls f a)
theorem valT_eq (n : Int) (ls : List (List Int)) (f : Int → Int) (t : T) : valT n ls f t = if t.v ≠ 0 then f t.v else (ls.getD t.f.toNat []).getD (valT.rowL n ls f t.args 0).toNat 0 := by cases t; rw [valT]
theorem rowL_append (n : Int) (ls : List (List Int)) (f : Int → Int) (a b : List T) : ∀ r, valT.rowL n ls f (a ++ b) r = valT.rowL n ls f b (valT.rowL n ls f a r) := by
  induction a with
  | nil => intro r; rfl
  | cons t a ih => intro r; rw [List.cons_append, valT.rowL, valT.rowL, ih]
theorem rowL_step {n : Int} {ls : List (List Int)} {f : Int → Int} {ts : List T} {k : Nat} {x : T} (hx : ts[k]? = some x) (r : Int) : valT.rowL n ls f (ts.take (k + 1)) r = valT.rowL n ls f (ts.take k) r * n + valT n ls f x := by
  rw [List.take_add_one, hx, rowL_append]; rfl
/-- A model that is right. -/
structure MOk (ar : List Int) (n : Int) (ls : List (List Int)) : Prop where
  sig : sigErr ar = 0
  lo : 1 ≤ n
  hi : n ≤ 3
  lens : lensT n ar ls = true
  all : ls.all (allT n) = true
theorem MOk.of {ar : List Int} {n : Int} {ls : List (List Int)} (h : modelErr ar n ls = 0) : MOk ar n ls := by
  rw [modelErr] at h
  by_cases h1 : sigErr ar = 0
  · rw [if_pos h1] at h
    by_cases h2 : n < 1 ∨ 3 < n
    · rw [if_pos h2] at h; cases h
    · rw [if_neg h2] at h
      cases h3 : lensT n ar ls with
      | false => rw [h3] at h; cases h
      | true =>
        rw [h3] at h
        cases h4 : ls.all (allT n) with
        | false => rw [h4] at h; cases h
        | true => exact ⟨h1, by omega, by omega, h3, h4⟩
  · rw [if_neg h1] at h; exact absurd h h1
theorem lens_at {n : Int} : ∀ {ar : List Int} {ls : List (List Int)} {k : Nat}, lensT n ar ls = true → k < ar.length → ∃ l, ls[k]? = some l ∧ (l.length : Int) = powI n (ar.getD k 0).toNat := by
  intro ar
  induction ar with
  | nil => intro ls k _ hk; simp at hk
  | cons a ar ih =>
    intro ls k h hk
    cases ls with
    | nil => cases h
    | cons l ls =>
      rw [lensT, Bool.and_eq_true, decide_eq_true_eq] at h
      cases k with
      | zero => exact ⟨l, rfl, h.1⟩
      | succ k =>
        obtain ⟨m, h1, h2⟩ := ih h.2 (by simpa using hk)
        exact ⟨m, by simpa using h1, by simpa using h2⟩
/-- A function's table, and how many arguments it has. -/
theorem MOk.table {ar : List Int} {n : Int} {ls : List (List Int)} (h : MOk ar n ls) {t : T} (ht : okP ar t) (hv : t.v = 0) : ∃ l, ls[t.f.toNat]? = some l ∧ 0 ≤ t.f ∧ t.f < ls.length ∧ (l.length : Int) = powI n t.args.length ∧ t.args.length ≤ 3 ∧ ∀ (i : Nat), i < l.length → 0 ≤ l.getD i 0 ∧ l.getD i 0 < n := by
  have h1 := (okP_iff.1 ht).1
  rw [partErr, if_neg (by omega)] at h1
  by_cases h2 : t.f < 0 ∨ (ar.length : Int) ≤ t.f
  · rw [if_pos h2] at h1; cases h1
  · rw [if_neg h2] at h1
    have h3 : (t.args.length : Int) = ar.getD t.f.toNat 0 := by
      by_cases h4 : (t.args.length : Int) ≠ ar.getD t.f.toNat 0
      · rw [if_pos h4] at h1; cases h1
      · omega
    have hk : t.f.toNat < ar.length := by omega
    obtain ⟨l, hl, hlen⟩ := lens_at h.lens hk
    have har := sig_arity h.sig hk
    rw [← h3] at hlen har
    rw [Int.toNat_natCast] at hlen
    have hlt := (List.getElem?_eq_some_iff.1 hl).1
    refine ⟨l, hl, by omega, by omega, hlen, by omega, fun i hi => ?_⟩
    have h5 := List.all_eq_true.1 h.all l (List.mem_of_getElem? hl)
    rw [allT, List.all_eq_true] at h5
    have hg : l.getD i 0 = l[i] := by rw [List.getD_eq_getElem?_getD, List.getElem?_eq_getElem hi]; rfl
    have h6 := h5 l[i] (List.getElem_mem hi)
    rw [hg]
    simpa using h6
theorem parts_arg {t a x : T} (ha : a ∈ t.args) (hx : x ∈ parts a) : x ∈ parts t := by
  rw [parts_eq]
  refine List.mem_append.2 (Or.inl ?_)
  have hL : ∀ (l : List T), a ∈ l → x ∈ parts.partsL l := by
    intro l
    induction l with
    | nil => intro h; cases h
    | cons b l ih =>
      intro h
      rw [partsL_cons]
      rcases List.mem_cons.1 h with rfl | h
      · exact List.mem_append.2 (Or.inl hx)
      · exact List.mem_append.2 (Or.inr (ih h))
  exact hL _ ha
theorem parts_self (t : T) : t ∈ parts t := by rw [parts_eq]; simp
theorem row_bound {n p r x : Int} (h0 : 1 ≤ n) (hr0 : 0 ≤ r) (hr : r < p) (hx0 : 0 ≤ x) (hx : x < n) : 0 ≤ r * n + x ∧ r * n + x < p * n := by
  have h1 : 0 ≤ r * n := Int.mul_nonneg hr0 (by omega)
  have h2 : (r + 1) * n ≤ p * n := Int.mul_le_mul_of_nonneg_right (by omega) (by omega)
  rw [Int.add_mul, Int.one_mul] at h2
  exact ⟨by omega, by omega⟩
/-- What a term is is a thing, if its variables are. -/
theorem val_range {ar : List Int} {n : Int} {ls : List (List Int)} {f : Int → Int} (h : MOk ar n ls) : ∀ (N : Nat) (t : T), t.sz ≤ N → okP ar t → (∀ x, x ∈ parts t → x.v ≠ 0 → 0 ≤ f x.v ∧ f x.v < n) → (0 ≤ valT n ls f t ∧ valT n ls f t < n) ∧ ∀ k, k ≤ t.args.length → 0 ≤ valT.rowL n ls f (t.args.take k) 0 ∧ valT.rowL n ls f (t.args.take k) 0 < powI n k := by
  intro N
  induction N with
  | zero => intro t hN; have := t.sz_pos; omega
  | succ N ih =>
    intro t hN ht hf
    have hte := T.sz_eq t
    have hrow : ∀ k, k ≤ t.args.length → 0 ≤ valT.rowL n ls f (t.args.take k) 0 ∧ valT.rowL n ls f (t.args.take k) 0 < powI n k := by
      intro k
      induction k with
      | zero => intro _; exact ⟨Int.le_refl _, by show (0 : Int) < 1; decide⟩
      | succ k ihk =>
        intro hk
        obtain ⟨x, hx⟩ : ∃ x, t.args[k]? = some x := ⟨t.args[k]'(by omega), List.getElem?_eq_getElem (by omega)⟩
        have hm := List.mem_of_getElem? hx
        have hxs := T.szL_mem hm
        obtain ⟨h1, h2⟩ := ihk (by omega)
        obtain ⟨⟨h3, h4⟩, _⟩ := ih x (by omega) (okL_mem.1 (okP_iff.1 ht).2 x hm) (fun y hy => hf y (parts_arg hm hy))
        rw [rowL_step hx, powI]
        exact row_bound h.lo h1 h2 h3 h4
    refine ⟨?_, hrow⟩
    rw [valT_eq]
    by_cases hv : t.v ≠ 0
    · rw [if_pos hv]; exact hf t (parts_self t) hv
    · rw [if_neg hv]
      obtain ⟨l, hl, _, _, hlen, _, hall⟩ := h.table ht (by omega)
      have h5 := hrow t.args.length (Nat.le_refl _)
      rw [List.take_length] at h5
      have e : ls.getD t.f.toNat [] = l := by rw [List.getD_eq_getElem?_getD, hl]; rfl
      rw [e]
      exact hall _ (by omega)
/-- What a term is hangs on what its variables are. -/
theorem val_congr {n : Int} {ls : List (List Int)} {f g : Int → Int} : ∀ (N : Nat) (t : T), t.sz ≤ N → (∀ x, x ∈ parts t → x.v ≠ 0 → f x.v = g x.v) → valT n ls f t = valT n ls g t := by
  intro N
  induction N with
  | zero => intro t hN; have := t.sz_pos; omega
  | succ N ih =>
    intro t hN hf
    have hte := T.sz_eq t
    rw [valT_eq, valT_eq]
    by_cases hv : t.v ≠ 0
    · rw [if_pos hv, if_pos hv]; exact hf t (parts_self t) hv
    · rw [if_neg hv, if_neg hv]
      have hL : ∀ (l : List T) (r : Int), (∀ a, a ∈ l → a ∈ t.args) → valT.rowL n ls f l r = valT.rowL n ls g l r := by
        intro l
        induction l with
        | nil => intro r _; rfl
        | cons a l ihl =>
          intro r hal
          have ha := hal a (by simp)
          have has := T.szL_mem ha
          rw [valT.rowL, valT.rowL, ih a (by omega) (fun x hx => hf x (parts_arg ha hx)), ihl _ (fun b hb => hal b (by simp [hb]))]
      rw [hL _ _ (fun a ha => ha)]

end Go.Proofs.YtbkedppkdhfpoabGreat

namespace Go.Proofs.YtbkedppkdhfpoabGreat
open Go.RowKit Go.Maps

theorem Tryz.key3 : Keyed Tryz.prog 3 := int_keyed Tryz.underlying3
/-- An element is what it is. -/
def Rv : Value → Option (DataW Value × List MemPlace) := fun v => some (.held v, [])
theorem key_int {k : Int} (h0 : -9223372036854775808 ≤ k) (h1 : k ≤ 9223372036854775807) : keyOf Tryz.prog 3 (.int .i64 k) = some (.int .i64 k) :=
  keyOf_int_mk Tryz.underlying3 (WalkArith.wf_i64 (by omega))

/-- Block b is a map of at most n entries that holds f's values. -/
def MapAt (w : World) (b n : Nat) (f : Int → Option Value) : Prop :=
  ∃ D : DataW Value, w.ownsMap Tryz.prog 3 Rv b n D ∧ ∀ k : Int, Maps.has D (.int .i64 k) = (f k).isSome ∧ ∀ v, f k = some v → ∀ z, D.atKey (.int .i64 k) z = .held v
theorem MapAt.lt {w : World} {b n : Nat} {f : Int → Option Value} (h : MapAt w b n f) : b < w.heap.size := by obtain ⟨D, hD, _⟩ := h; exact hD.lt
theorem MapAt.mono {w : World} {b n m : Nat} {f : Int → Option Value} (h : MapAt w b n f) (hm : n ≤ m) : MapAt w b m f := by obtain ⟨D, hD, hf⟩ := h; exact ⟨D, hD.mono hm, hf⟩
theorem MapAt.same {w w' : World} {b n : Nat} {f : Int → Option Value} (h : MapAt w b n f) (hs : w'.heap[b]? = w.heap[b]?) : MapAt w' b n f := by
  obtain ⟨D, ⟨es, clock, h1, h2⟩, hf⟩ := h
  exact ⟨D, ⟨es, clock, hs.trans h1, h2⟩, hf⟩
theorem MapAt.below {w w' : World} {b n : Nat} {f : Int → Option Value} (h : MapAt w b n f) (hb : Below w.heap.size w w') : MapAt w' b n f := h.same (hb.block b h.lt)
theorem MapAt.made (w : World) : MapAt (w.alloc (.map #[] 0)) w.heap.size 0 (fun _ => none) :=
  ⟨.map [], World.ownsMap_made w Tryz.prog 3 Rv, fun k => ⟨rfl, fun v h => by cases h⟩⟩
/-- 'v, ok := m[k]' -/
theorem MapAt.look_ok {w : World} {b n : Nat} {f : Int → Option Value} (h : MapAt w b n f) {t e : TypeId} (ht : Tryz.prog.underlying t = some (.map 3 e)) {z : Value} (hz : (zeroValue e).run Tryz.prog w = .ok z w) {k : Int} (h0 : -9223372036854775808 ≤ k) (h1 : k ≤ 9223372036854775807) :
    (Instr.lookup t (.map (some b)) (.int .i64 k) true).run Tryz.prog w = .ok (.tuple #[(f k).getD z, .bool (f k).isSome]) w := by
  obtain ⟨D, hD, hf⟩ := h
  obtain ⟨v, ps, hrun, hv⟩ := hD.look_ok Tryz.key3 ht hz (zd := .held z) (zp := []) rfl (key_int h0 h1)
  obtain ⟨g1, g2⟩ := hf k
  rw [g1] at hrun
  rw [hrun]
  simp only [Rv, Option.some.injEq, Prod.mk.injEq] at hv
  cases hfk : f k with
  | some u =>
    rw [g2 u hfk] at hv
    have : v = u := by simpa using hv.1
    rw [this]; rfl
  | none =>
    rw [hfk] at g1
    rw [Maps.atKey_of_not_has g1] at hv
    have : v = z := by simpa using hv.1
    rw [this]; rfl
/-- 'm[k]' -/
theorem MapAt.look {w : World} {b n : Nat} {f : Int → Option Value} (h : MapAt w b n f) {t e : TypeId} (ht : Tryz.prog.underlying t = some (.map 3 e)) {z : Value} (hz : (zeroValue e).run Tryz.prog w = .ok z w) {k : Int} (h0 : -9223372036854775808 ≤ k) (h1 : k ≤ 9223372036854775807) :
    (Instr.lookup t (.map (some b)) (.int .i64 k) false).run Tryz.prog w = .ok ((f k).getD z) w := by
  obtain ⟨D, hD, hf⟩ := h
  obtain ⟨v, ps, hrun, hv⟩ := hD.lookup Tryz.key3 ht hz (zd := .held z) (zp := []) rfl (key_int h0 h1)
  obtain ⟨g1, g2⟩ := hf k
  rw [hrun]
  simp only [Rv, Option.some.injEq, Prod.mk.injEq] at hv
  cases hfk : f k with
  | some u =>
    rw [g2 u hfk] at hv
    have : v = u := by simpa using hv.1
    rw [this]; rfl
  | none =>
    rw [hfk] at g1
    rw [Maps.atKey_of_not_has g1] at hv
    have : v = z := by simpa using hv.1
    rw [this]; rfl
/-- 'm[k] = v' -/
theorem MapAt.store {w : World} {b n : Nat} {f : Int → Option Value} (h : MapAt w b n f) {t e : TypeId} (ht : Tryz.prog.underlying t = some (.map 3 e)) (hn : n < maxLen) {k : Int} (h0 : -9223372036854775808 ≤ k) (h1 : k ≤ 9223372036854775807) (v : Value) :
    ∃ w', (Instr.mapUpdate t (.map (some b)) (.int .i64 k) v).run Tryz.prog w = .ok () w' ∧ MapAt w' b (n + 1) (fun j => if j = k then some v else f j) ∧ w.grownBy w' (some b) := by
  obtain ⟨D, hD, hf⟩ := h
  obtain ⟨w', hrun, hD', hg⟩ := hD.update Tryz.key3 ht hn (key_int h0 h1) (val := v) (d := .held v) (ps := []) rfl
  refine ⟨w', hrun, ⟨_, hD', fun j => ?_⟩, hg⟩
  by_cases e : j = k
  · subst e
    have hkl : WideAt.IsKeyLit (Lit.int .i64 j) := trivial
    simp only [if_pos]
    refine ⟨by rw [Maps.has_put_same hD.isMap hkl]; rfl, fun u hu z => ?_⟩
    rw [Maps.atKey_put_same hD.isMap hkl]
    simpa using hu
  · have hne : (Lit.int .i64 j) ≠ (Lit.int .i64 k) := fun e' => e (by injection e')
    simp only [if_neg e]
    refine ⟨by rw [Maps.has_put_other hne]; exact (hf j).1, fun u hu z => ?_⟩
    rw [Maps.atKey_put_other hne]
    exact (hf j).2 u hu z

end Go.Proofs.YtbkedppkdhfpoabGreat

namespace Go.Proofs.YtbkedppkdhfpoabGreat
open Go.RowKit

/-- A part of the unifier: what stands there, the numbers of its arguments, what it is like, its size. -/
structure Pt where
  v : Int
  f : Int
  args : List Nat
  like : Nat
  size : Int

/-- Numbers in blocks of which q holds. -/
def NumsQ (q : Nat → Prop) (w : World) (ns : List Nat) (a : Option Addr) : Prop :=
  ns.length ≤ 100000 ∧ (ns = [] ∨ ∃ b off, a = some ⟨b, off, none⟩ ∧ q b ∧ ∀ i, i < ns.length → w.cell? ⟨b, off + i, none⟩ = some (.int .i64 (ns.getD i 0 : Nat)))

/-- The six cells of a part. -/
def At6 (q : Nat → Prop) (w : World) (b o : Nat) (p : Pt) : Prop :=
  ∃ ta tl tc aa ac, w.cell? ⟨b, o, none⟩ = some (.int .i64 p.v) ∧ w.cell? ⟨b, o + 1, none⟩ = some (.int .i64 p.f) ∧ w.cell? ⟨b, o + 2, none⟩ = some (.slice ta tl tc) ∧ w.cell? ⟨b, o + 3, none⟩ = some (.slice aa p.args.length ac) ∧
    w.cell? ⟨b, o + 4, none⟩ = some (.int .i64 (p.like : Int)) ∧ w.cell? ⟨b, o + 5, none⟩ = some (.int .i64 p.size) ∧ NumsQ q w p.args aa

/-- The unifier in block u: its parts lie in block b, their arguments' numbers in blocks of which q holds. -/
structure UAt (q : Nat → Prop) (w : World) (u b c : Nat) (P : List Pt) : Prop where
  list : w.cell? ⟨u, 0, none⟩ = some (.slice (some ⟨b, 0, none⟩) P.length c)
  at6 : ∀ k p, P[k]? = some p → At6 q w b (k * 6) p
  qu : ∀ k, q k → k ≠ u ∧ k ≠ b
  ub : u ≠ b
  len : P.length ≤ 100000
  frb : ∀ k, w.frozen? ⟨b, k, none⟩ = false
  fru : ∀ k, w.frozen? ⟨u, k, none⟩ = false
  ltb : b < w.heap.size

/-- The part that stands for a part, as far as n steps. -/
def headF (P : List Pt) : Nat → Nat → Option Nat
  | 0, _ => none
  | n + 1, k => match P[k]? with
    | none => none
    | some p => if p.like = k then some k else headF P n p.like
/-- How many steps it is. -/
def stepsF (P : List Pt) : Nat → Nat → Nat
  | 0, _ => 0
  | n + 1, k => match P[k]? with
    | none => 0
    | some p => if p.like = k then 0 else stepsF P n p.like + 1
theorem headF_succ {P : List Pt} {n k : Nat} {p : Pt} (h : P[k]? = some p) : headF P (n + 1) k = if p.like = k then some k else headF P n p.like := by rw [headF, h]
theorem stepsF_succ {P : List Pt} {n k : Nat} {p : Pt} (h : P[k]? = some p) : stepsF P (n + 1) k = if p.like = k then 0 else stepsF P n p.like + 1 := by rw [stepsF, h]
theorem headF_some {P : List Pt} {n k r : Nat} (h : headF P n k = some r) : ∃ m p, n = m + 1 ∧ P[k]? = some p := by
  cases n with
  | zero => cases h
  | succ n =>
    cases hp : P[k]? with
    | none => rw [headF, hp] at h; cases h
    | some p => exact ⟨n, p, rfl, rfl⟩
theorem steps_same {P : List Pt} {r : Nat} : ∀ {n m k : Nat}, headF P n k = some r → n ≤ m → stepsF P m k = stepsF P n k := by
  intro n
  induction n with
  | zero => intro m k h; cases h
  | succ n ih =>
    intro m k h hm
    obtain ⟨_, p, _, hp⟩ := headF_some h
    obtain ⟨m, rfl⟩ : ∃ m', m = m' + 1 := ⟨m - 1, by omega⟩
    rw [stepsF_succ hp, stepsF_succ hp]
    rw [headF_succ hp] at h
    by_cases e : p.like = k
    · rw [if_pos e, if_pos e]
    · rw [if_neg e, if_neg e]
      rw [if_neg e] at h
      rw [ih h (by omega)]
theorem headF_lt {P : List Pt} : ∀ {n k r : Nat}, headF P n k = some r → r < P.length := by
  intro n
  induction n with
  | zero => intro k r h; cases h
  | succ n ih =>
    intro k r h
    obtain ⟨_, p, _, hp⟩ := headF_some h
    rw [headF_succ hp] at h
    by_cases e : p.like = k
    · rw [if_pos e] at h
      cases h
      exact (List.getElem?_eq_some_iff.1 hp).1
    · rw [if_neg e] at h; exact ih h

set_option maxRecDepth 100000 in
set_option maxHeartbeats 1000000 in
theorem head_any (q : Nat → Prop) (w : World) (u b c : Nat) (P : List Pt) (N k r : Nat) (hU : UAt q w u b c P) (hr : headF P N k = some r) :
    Calls Tryz.prog 286 #[.pointer (some ⟨u, 0, none⟩), .int .i64 (k : Int)] w fun e w' => e = .returned (.int .i64 (r : Int)) ∧ w' = w := by
  have hlen := hU.len
  have cu := hU.list
  have H6 := hide hU.at6
  have Hr := hide hr
  clear hU hr
  go_enter Tryz.func286, Tryz.ntmps286
  go_wp2_with fail
  go_loop [1] (fun i => ∃ (k : Nat) (n : Nat), i = .int .i64 (k : Int) ∧ n ≤ N ∧ Hid (headF P n k = some r)) (fun i => stepsF P N (intOf i).toNat)
  case atStart => exact ⟨k, N, rfl, Nat.le_refl _, Hr⟩
  case round =>
    obtain ⟨k, n, rfl, hn, HS⟩ := hrel
    obtain ⟨m, p, rfl, hp⟩ := headF_some HS.out
    have hkl := (List.getElem?_eq_some_iff.1 hp).1
    obtain ⟨_, _, _, _, _, _, _, _, _, c4, _, _⟩ := H6.out k p hp
    have hkI : (k : Int) < P.length := by omega
    have hk0 : (0 : Int) ≤ k := by omega
    have Hp := hide hp
    clear hp
    by_cases e : p.like = k
    · have e0 : ((p.like : Int) != (k : Int)) = false := by simp [e]
      have er : Hid (k = r) := by
        have h9 := HS.out
        rw [headF_succ Hp.out, if_pos e] at h9
        exact Option.some.inj h9
      clear e
      go_wp2_with fail
      go_ret
      have er2 := er.out
      subst er2
      exact ⟨rfl, rfl⟩
    · have e0 : ((p.like : Int) != (k : Int)) = true := by simp; omega
      have HS2 : Hid (headF P m p.like = some r) := by
        have h9 := HS.out
        rw [headF_succ Hp.out, if_neg e] at h9
        exact h9
      have HM : Hid (stepsF P N p.like < stepsF P N k) := by
        show _ < _
        rw [steps_same HS.out hn, stepsF_succ Hp.out, if_neg e, steps_same HS2.out (show m ≤ N by omega)]
        omega
      clear e
      go_wp2_with fail
      go_round
      case rel => exact ⟨p.like, m, rfl, by omega, HS2⟩
      case measure => simpa [intOf] using HM.out

end Go.Proofs.YtbkedppkdhfpoabGreat

namespace Go.Proofs.YtbkedppkdhfpoabGreat
open Go.RowKit

/-- Nothing but block b has changed. -/
structure Upon (b : Nat) (w w' : World) : Prop where
  os : w'.os = w.os
  tape : w'.tape = w.tape
  output : w'.output = w.output
  size : w'.heap.size = w.heap.size
  block : ∀ k, k ≠ b → w'.heap[k]? = w.heap[k]?
theorem Upon.refl (b : Nat) (w : World) : Upon b w w := ⟨rfl, rfl, rfl, rfl, fun _ _ => rfl⟩
theorem Upon.trans {b : Nat} {w w' w'' : World} (h : Upon b w w') (h' : Upon b w' w'') : Upon b w w'' :=
  ⟨h'.os.trans h.os, h'.tape.trans h.tape, h'.output.trans h.output, h'.size.trans h.size, fun k hk => (h'.block k hk).trans (h.block k hk)⟩
theorem Upon.below {b n : Nat} {w w' : World} (h : Upon b w w') (hn : n ≤ b) : Below n w w' := ⟨h.os, h.tape, h.output, by rw [h.size]; exact Nat.le_refl _, fun k hk => h.block k (by omega)⟩
theorem Upon.set {b : Nat} {w w' : World} (h : Upon b w w') (o : Nat) (v : Value) : Upon b w (w'.setCell ⟨b, o, none⟩ v) :=
  h.trans ⟨rfl, rfl, rfl, by simp [World.setCell], fun k hk => Below.heap_setCell _ _ _ _ hk⟩
theorem Upon.cell {b : Nat} {w w' : World} (h : Upon b w w') {k o : Nat} (hk : k ≠ b) : w'.cell? ⟨k, o, none⟩ = w.cell? ⟨k, o, none⟩ := World.cell?_of_block (w := w) (a := ⟨k, o, none⟩) (h.block k hk)

theorem NumsQ_upon {q : Nat → Prop} {w w' : World} {b : Nat} (h : Upon b w w') (hq : ∀ k, q k → k ≠ b) {ns : List Nat} {a : Option Addr} (hn : NumsQ q w ns a) : NumsQ q w' ns a := by
  obtain ⟨hl, hn⟩ := hn
  rcases hn with h0 | ⟨x, off, h1, h2, h3⟩
  · exact ⟨hl, Or.inl h0⟩
  · exact ⟨hl, Or.inr ⟨x, off, h1, h2, fun i hi => by rw [h.cell (hq x h2)]; exact h3 i hi⟩⟩

/-- A part's size is written. -/
theorem UAt.setSize {q : Nat → Prop} {w : World} {u b c : Nat} {P : List Pt} (h : UAt q w u b c P) {k : Nat} {p : Pt} (hp : P[k]? = some p) (s : Int) : UAt q (w.setCell ⟨b, k * 6 + 5, none⟩ (.int .i64 s)) u b c (P.set k { p with size := s }) := by
  have hU := (Upon.refl b w).set (k * 6 + 5) (.int .i64 s)
  have hq : ∀ x, q x → x ≠ b := fun x hx => (h.qu x hx).2
  refine ⟨by rw [hU.cell h.ub, List.length_set]; exact h.list, fun j r hr => ?_, h.qu, h.ub, by rw [List.length_set]; exact h.len, fun j => by rw [World.frozen?_setCell]; exact h.frb j, fun j => by rw [World.frozen?_setCell]; exact h.fru j, by rw [hU.size]; exact h.ltb⟩
  by_cases e : j = k
  · subst e
    have hl := (List.getElem?_eq_some_iff.1 hp).1
    rw [List.getElem?_set_self hl] at hr
    cases hr
    obtain ⟨ta, tl, tc, aa, ac, c0, c1, c2, c3, c4, c5, hn⟩ := h.at6 j p hp
    refine ⟨ta, tl, tc, aa, ac, ?_, ?_, ?_, ?_, ?_, World.cell?_setCell_same _ _ _ c5, NumsQ_upon hU hq hn⟩
    all_goals (rw [World.cell?_setCell_other _ _ _ _ (by simp)]; assumption)
  · rw [List.getElem?_set_ne (fun h' => e h'.symm)] at hr
    obtain ⟨ta, tl, tc, aa, ac, c0, c1, c2, c3, c4, c5, hn⟩ := h.at6 j r hr
    refine ⟨ta, tl, tc, aa, ac, ?_, ?_, ?_, ?_, ?_, ?_, NumsQ_upon hU hq hn⟩
    all_goals (rw [World.cell?_setCell_other _ _ _ _ (by simp <;> omega)]; assumption)
/-- What a part is like is written. -/
theorem UAt.setLike {q : Nat → Prop} {w : World} {u b c : Nat} {P : List Pt} (h : UAt q w u b c P) {k : Nat} {p : Pt} (hp : P[k]? = some p) (s : Nat) : UAt q (w.setCell ⟨b, k * 6 + 4, none⟩ (.int .i64 (s : Int))) u b c (P.set k { p with like := s }) := by
  have hU := (Upon.refl b w).set (k * 6 + 4) (.int .i64 (s : Int))
  have hq : ∀ x, q x → x ≠ b := fun x hx => (h.qu x hx).2
  refine ⟨by rw [hU.cell h.ub, List.length_set]; exact h.list, fun j r hr => ?_, h.qu, h.ub, by rw [List.length_set]; exact h.len, fun j => by rw [World.frozen?_setCell]; exact h.frb j, fun j => by rw [World.frozen?_setCell]; exact h.fru j, by rw [hU.size]; exact h.ltb⟩
  by_cases e : j = k
  · subst e
    have hl := (List.getElem?_eq_some_iff.1 hp).1
    rw [List.getElem?_set_self hl] at hr
    cases hr
    obtain ⟨ta, tl, tc, aa, ac, c0, c1, c2, c3, c4, c5, hn⟩ := h.at6 j p hp
    refine ⟨ta, tl, tc, aa, ac, ?_, ?_, ?_, ?_, World.cell?_setCell_same _ _ _ c4, ?_, NumsQ_upon hU hq hn⟩
    all_goals (rw [World.cell?_setCell_other _ _ _ _ (by simp)]; assumption)
  · rw [List.getElem?_set_ne (fun h' => e h'.symm)] at hr
    obtain ⟨ta, tl, tc, aa, ac, c0, c1, c2, c3, c4, c5, hn⟩ := h.at6 j r hr
    refine ⟨ta, tl, tc, aa, ac, ?_, ?_, ?_, ?_, ?_, ?_, NumsQ_upon hU hq hn⟩
    all_goals (rw [World.cell?_setCell_other _ _ _ _ (by simp <;> omega)]; assumption)

/-- The sizes of arguments, added up; at the end the size is written down at h. -/
def measL (rec : List Pt → Nat → Option (Int × List Pt)) (h : Nat) : List Nat → Int → List Pt → Option (Int × List Pt)
  | [], s, P => match P[h]? with
    | none => none
    | some p => some (s, P.set h { p with size := s })
  | a :: l, s, P => match rec P a with
    | none => none
    | some x => if x.1 = -1 then some (-1, x.2) else if 0 ≤ x.1 ∧ x.1 ≤ 121 then measL rec h l (min (s + x.1) 121) x.2 else none
/-- The size of what a part has become, and the parts behind that; none: more than n steps. -/
def measF : Nat → List Pt → Nat → Option (Int × List Pt)
  | 0, _, _ => none
  | n + 1, P, k => match headF P (P.length + 1) k with
    | none => none
    | some h => match P[h]? with
      | none => none
      | some p => if p.size = 0 then measL (measF n) h p.args 1 (P.set h { p with size := -1 }) else some (p.size, P)
theorem measF_some {n : Nat} {P : List Pt} {k : Nat} {x : Int × List Pt} (hm : measF n P k = some x) : ∃ m h p, n = m + 1 ∧ headF P (P.length + 1) k = some h ∧ P[h]? = some p ∧ (if p.size = 0 then measL (measF m) h p.args 1 (P.set h { p with size := -1 }) else some (p.size, P)) = some x := by
  cases n with
  | zero => cases hm
  | succ n =>
    rw [measF] at hm
    split at hm
    · cases hm
    · rename_i h hh
      split at hm
      · cases hm
      · rename_i p hp
        exact ⟨n, h, p, rfl, hh, hp, hm⟩
theorem measL_nil {rec : List Pt → Nat → Option (Int × List Pt)} {h : Nat} {s : Int} {P : List Pt} {x : Int × List Pt} (hm : measL rec h [] s P = some x) : ∃ p, P[h]? = some p ∧ x = (s, P.set h { p with size := s }) := by
  rw [measL] at hm
  split at hm
  · cases hm
  · rename_i p hp; exact ⟨p, hp, (Option.some.inj hm).symm⟩
theorem measL_cons {rec : List Pt → Nat → Option (Int × List Pt)} {h a : Nat} {l : List Nat} {s : Int} {P : List Pt} {x : Int × List Pt} (hm : measL rec h (a :: l) s P = some x) : ∃ y, rec P a = some y ∧ (if y.1 = -1 then some (-1, y.2) else if 0 ≤ y.1 ∧ y.1 ≤ 121 then measL rec h l (min (s + y.1) 121) y.2 else none) = some x := by
  rw [measL] at hm
  split at hm
  · cases hm
  · rename_i y hy; exact ⟨y, hy, hm⟩

theorem NumsQ_at {q : Nat → Prop} {w : World} {ns : List Nat} {a : Option Addr} (h : NumsQ q w ns a) (hl : 0 < ns.length) : ∃ b off, a = some ⟨b, off, none⟩ ∧ q b ∧ ∀ i, i < ns.length → w.cell? ⟨b, off + i, none⟩ = some (.int .i64 (ns.getD i 0 : Nat)) := by
  rcases h.2 with h | h
  · rw [h] at hl; simp at hl
  · exact h

set_option maxRecDepth 100000 in
set_option maxHeartbeats 1000000 in
theorem meas_any (q : Nat → Prop) (u b c : Nat) (N : Nat) : ∀ (P : List Pt) (k : Nat) (x : Int × List Pt) (w : World), UAt q w u b c P → measF N P k = some x →
    Calls Tryz.prog 261 #[.pointer (some ⟨u, 0, none⟩), .int .i64 (k : Int)] w fun e w' => e = .returned (.int .i64 x.1) ∧ UAt q w' u b c x.2 ∧ Upon b w w' := by
  induction N with
  | zero => intro P k x w _ h; cases h
  | succ N ih =>
    intro P k x w hU hm
    obtain ⟨m, h, p, hN, hh, hp, hx⟩ := measF_some hm
    obtain rfl : N = m := by omega
    have Hh := hide (head_any q w u b c P _ k h hU hh)
    have hhl := (List.getElem?_eq_some_iff.1 hp).1
    obtain ⟨ta, tl, tc, aa, ac, c0, c1, c2, c3, c4, c5, hn⟩ := hU.at6 h p hp
    have hlen := hU.len
    have cu := hU.list
    have hfb := hide hU.frb
    have hf5 := hU.frb (h * 6 + 5)
    have hub := hU.ub
    have hhI : (h : Int) < P.length := by omega
    have hh0 : (0 : Int) ≤ h := by omega
    have HU := hide hU
    have Hp := hide hp
    have Hx := hide hx
    have hal := hn.1
    have Hn := hide hn
    have Hih := hide ih
    clear hU hp hx hn ih hm hh hN
    go_enter Tryz.func261, Tryz.ntmps261
    go_wp2_with fail
    refine Hh.out.mono ?_
    rintro e w' ⟨rfl, hw'⟩
    obtain rfl := hw'.symm
    clear hw' Hh
    by_cases hs : p.size = 0
    · have hx2 := Hx.out
      rw [if_pos hs] at hx2
      have e0 : (p.size != 0) = false := by simpa using hs
      have Hx2 := hide hx2
      clear hs hx2 Hx
      go_wp2_with fail
      obtain ⟨W1, hW1⟩ : ∃ W1, W1 = w.setCell ⟨b, h * 6 + 5, none⟩ (.int .i64 (-1)) := ⟨_, rfl⟩
      have HU1 : Hid (UAt q W1 u b c (P.set h { p with size := -1 })) := by rw [hW1]; exact HU.out.setSize Hp.out (-1)
      have HO1 : Hid (Upon b w W1) := by rw [hW1]; exact (Upon.refl b w).set _ _
      have Hn1 := hide (NumsQ_upon HO1.out (fun k hk => (HU.out.qu k hk).2) Hn.out)
      have hqu := hide HU.out.qu
      rw [← hW1]
      clear hW1 HU Hp Hn c0 c1 c2 c3 c4 c5 cu hf5 hfb e0
      go_loopw [6, 46] (fun sv i wr => ∃ (j : Nat) (S : Int) (Q : List Pt), j ≤ p.args.length ∧ i = .int .i64 (j : Int) ∧ sv = .int .i64 S ∧ 0 ≤ S ∧ S ≤ 121 ∧ Hid (measL (measF N) h (p.args.drop j) S Q = some x) ∧ Hid (UAt q wr u b c Q) ∧ Hid (Upon b W1 wr)) (fun _ i _ => p.args.length - (intOf i).toNat)
      case atStart => exact ⟨0, 1, _, Nat.zero_le _, rfl, rfl, by omega, by omega, Hx2, HU1, Upon.refl _ _⟩
      case round =>
        obtain ⟨j, S, Q, hj, rfl, rfl, hS0, hS1, HL, HUr, HOr⟩ := hrel
        by_cases hlt : j < p.args.length
        · obtain ⟨nb, noff, rfl, hqn, hcell⟩ := NumsQ_at (NumsQ_upon HOr.out (fun k hk => (hqu.out k hk).2) Hn1.out) (show 0 < p.args.length by omega)
          have cj := hcell j hlt
          have hd : p.args.drop j = p.args.getD j 0 :: p.args.drop (j + 1) := by
            rw [List.drop_eq_getElem_cons hlt]; simp [List.getD, List.getElem?_eq_getElem hlt]
          have hL := HL.out
          rw [hd] at hL
          obtain ⟨y, hy, hx⟩ := measL_cons hL
          have Hc := hide (Hih.out Q (p.args.getD j 0) y wr HUr.out hy)
          have Hx := hide hx
          generalize p.args.getD j 0 = aj at *
          have hjI : (j : Int) < p.args.length := by omega
          have hj0 : (0 : Int) ≤ j := by omega
          clear hL hd hx hy HL hcell
          go_wp2_with fail
          refine Hc.out.mono ?_
          rintro e w2 ⟨rfl, hU2, hO2⟩
          have HU2 := hide hU2
          have HO2 := hide (HOr.out.trans hO2)
          clear hU2 hO2 Hc HUr HOr
          by_cases hy1 : y.1 = -1
          · have e1 : (y.1 == -1) = true := by simpa using hy1
            have hx9 := Hx.out
            rw [if_pos hy1] at hx9
            have Hx9 := hide (Option.some.inj hx9)
            clear hy1 Hx hx9
            go_wp2_with fail
            go_ret
            rw [← Hx9.out]
            exact ⟨rfl, HU2.out, HO1.out.trans HO2.out⟩
          · have e1 : (y.1 == -1) = false := by simpa using hy1
            have hx9 := Hx.out
            rw [if_neg hy1] at hx9
            by_cases hy2 : 0 ≤ y.1 ∧ y.1 ≤ 121
            · rw [if_pos hy2] at hx9
              have Hx9 := hide hx9
              obtain ⟨hy3, hy4⟩ := hy2
              clear hy1 Hx hx9
              go_wp2_with fail
              go_roundw
              case rel => exact ⟨j + 1, min (S + y.1) 121, y.2, by omega, by go_num, by go_num, by omega, by omega, Hx9, HU2, HO2⟩
              case measure => simp [intOf]; omega
            · rw [if_neg hy2] at hx9; cases hx9
        · have hj2 : j = p.args.length := by omega
          subst hj2
          have hL := HL.out
          rw [List.drop_length] at hL
          obtain ⟨p', hp', hx'⟩ := measL_nil hL
          have hhl' := (List.getElem?_eq_some_iff.1 hp').1
          obtain ⟨ta', tl', tc', aa', ac', c0', c1', c2', c3', c4', c5', _⟩ := HUr.out.at6 h p' hp'
          have hlen' := HUr.out.len
          have cu' := HUr.out.list
          have hf5' := HUr.out.frb (h * 6 + 5)
          have hhI' : (h : Int) < Q.length := by omega
          have HUe := hide (HUr.out.setSize hp' S)
          have HOe := hide (HO1.out.trans (HOr.out.set (h * 6 + 5) (.int .i64 S)))
          have Hx' := hide hx'
          clear hL HL hp' hx' HUr HOr
          go_wp2_with fail
          go_ret
          rw [Hx'.out]
          exact ⟨rfl, HUe.out, HOe.out⟩
    · have hx2 := Hx.out
      rw [if_neg hs] at hx2
      have e0 : (p.size != 0) = true := by simpa using hs
      have Hx2 := hide (Option.some.inj hx2)
      clear hs hx2 Hx
      go_wp2_with fail
      go_ret
      rw [← Hx2.out]
      exact ⟨rfl, HU.out, Upon.refl _ _⟩

end Go.Proofs.YtbkedppkdhfpoabGreat

namespace Go.Proofs.YtbkedppkdhfpoabGreat

/-- Bindings grown so that the pattern becomes the term; none: they can't. -/
def growT : T → T → List (Int × T) → Option (List (Int × T))
  | ⟨pv, pf, pargs⟩, t, bs =>
    if pv ≠ 0 then (match lookB bs pv with
      | some u => if sameT u t then some bs else none
      | none => some (bs ++ [(pv, t)]))
    else if t.v ≠ 0 ∨ pf ≠ t.f then none else growL pargs t.args bs
  where
  growL : List T → List T → List (Int × T) → Option (List (Int × T))
    | [], [], bs => some bs
    | p :: ps, t :: ts, bs => match growT p t bs with
      | some b2 => growL ps ts b2
      | none => none
    | _, _, _ => none
theorem growT_eq (p t : T) (bs : List (Int × T)) : growT p t bs = if p.v ≠ 0 then (match lookB bs p.v with
      | some u => if sameT u t then some bs else none
      | none => some (bs ++ [(p.v, t)]))
    else if t.v ≠ 0 ∨ p.f ≠ t.f then none else growT.growL p.args t.args bs := by cases p; rfl
theorem growL_cons (p t : T) (ps ts : List T) (bs : List (Int × T)) : growT.growL (p :: ps) (t :: ts) bs = match growT p t bs with
    | some b2 => growT.growL ps ts b2
    | none => none := rfl
theorem growL_length : ∀ {ps ts : List T} {bs : List (Int × T)}, ps.length ≠ ts.length → growT.growL ps ts bs = none := by
  intro ps
  induction ps with
  | nil =>
    intro ts bs h
    cases ts with
    | nil => simp at h
    | cons t ts => rfl
  | cons p ps ih =>
    intro ts bs h
    cases ts with
    | nil => rfl
    | cons t ts =>
      rw [growL_cons]
      cases growT p t bs with
      | none => rfl
      | some b2 => exact ih (by simpa using h)
theorem growL_append : ∀ {ps ts ps2 ts2 : List T} {bs : List (Int × T)}, ps.length = ts.length → growT.growL (ps ++ ps2) (ts ++ ts2) bs = match growT.growL ps ts bs with
    | some b2 => growT.growL ps2 ts2 b2
    | none => none := by
  intro ps
  induction ps with
  | nil =>
    intro ts ps2 ts2 bs h
    cases ts with
    | nil => rfl
    | cons t ts => simp at h
  | cons p ps ih =>
    intro ts ps2 ts2 bs h
    cases ts with
    | nil => simp at h
    | cons t ts =>
      rw [List.cons_append, List.cons_append, growL_cons, growL_cons]
      cases growT p t bs with
      | none => rfl
      | some b2 => exact ih (by simpa using h)
/-- One more pair. -/
theorem growL_step {ps ts : List T} {bs b1 : List (Int × T)} {k : Nat} {p t : T} (hl : ps.length = ts.length) (hp : ps[k]? = some p) (ht : ts[k]? = some t) (h : growT.growL (ps.take k) (ts.take k) bs = some b1) :
    (∀ b2, growT p t b1 = some b2 → growT.growL (ps.take (k + 1)) (ts.take (k + 1)) bs = some b2) ∧ (growT p t b1 = none → growT.growL ps ts bs = none) := by
  have hlp : k < ps.length := by
    rcases Nat.lt_or_ge k ps.length with h1 | h1
    · exact h1
    · rw [List.getElem?_eq_none h1] at hp; cases hp
  constructor
  · intro b2 h2
    rw [List.take_add_one, List.take_add_one, hp, ht]
    show growT.growL (ps.take k ++ [p]) (ts.take k ++ [t]) bs = _
    rw [growL_append (by simp [hl]), h]
    show growT.growL [p] [t] b1 = _
    rw [growL_cons, h2]; rfl
  · intro h2
    have e1 : ps = ps.take k ++ p :: ps.drop (k + 1) := by
      rw [List.getElem?_eq_getElem hlp] at hp
      simp only [Option.some.injEq] at hp
      rw [← hp, List.getElem_cons_drop, List.take_append_drop]
    have e2 : ts = ts.take k ++ t :: ts.drop (k + 1) := by
      rw [List.getElem?_eq_getElem (by omega)] at ht
      simp only [Option.some.injEq] at ht
      rw [← ht, List.getElem_cons_drop, List.take_append_drop]
    rw [e1, e2, growL_append (by simp [hl]), h]
    show growT.growL (p :: _) (t :: _) b1 = none
    rw [growL_cons, h2]
/-- How many bindings come. -/
theorem grow_size : ∀ (n : Nat), (∀ (p t : T) (bs b2 : List (Int × T)), p.sz ≤ n → growT p t bs = some b2 → b2.length ≤ bs.length + p.sz) ∧ (∀ (ps ts : List T) (bs b2 : List (Int × T)), T.sz.szL ps ≤ n → growT.growL ps ts bs = some b2 → b2.length ≤ bs.length + T.sz.szL ps) := by
  intro n
  induction n with
  | zero =>
    refine ⟨fun p t bs b2 h => by have := p.sz_pos; omega, fun ps ts bs b2 h hg => ?_⟩
    cases ps with
    | nil =>
      cases ts with
      | nil => simp [growT.growL] at hg; rw [hg]; simp [T.szL_nil]
      | cons t ts => cases hg
    | cons p ps => have := p.sz_pos; rw [T.szL_cons] at h; omega
  | succ n ih =>
    have h1 : ∀ (p t : T) (bs b2 : List (Int × T)), p.sz ≤ n + 1 → growT p t bs = some b2 → b2.length ≤ bs.length + p.sz := fun p t bs b2 h hg => by
      have hpe := T.sz_eq p
      rw [growT_eq] at hg
      by_cases hv : p.v ≠ 0
      · rw [if_pos hv] at hg
        cases hl : lookB bs p.v with
        | some u =>
          rw [hl] at hg
          by_cases hs : sameT u t = true
          · simp only [hs, if_true, Option.some.injEq] at hg
            rw [← hg]; omega
          · simp [hs] at hg
        | none =>
          rw [hl] at hg
          simp only [Option.some.injEq] at hg
          rw [← hg, List.length_append]; simp; omega
      · rw [if_neg hv] at hg
        by_cases hc : t.v ≠ 0 ∨ p.f ≠ t.f
        · rw [if_pos hc] at hg; cases hg
        · rw [if_neg hc] at hg
          have := ih.2 p.args t.args bs b2 (by omega) hg
          omega
    refine ⟨h1, fun ps => ?_⟩
    induction ps with
    | nil =>
      intro ts bs b2 _ hg
      cases ts with
      | nil => simp [growT.growL] at hg; rw [hg]; simp [T.szL_nil]
      | cons t ts => cases hg
    | cons p ps iht =>
      intro ts bs b2 h hg
      rw [T.szL_cons] at h ⊢
      cases ts with
      | nil => cases hg
      | cons t ts =>
        rw [growL_cons] at hg
        cases hgt : growT p t bs with
        | none => rw [hgt] at hg; cases hg
        | some b3 =>
          rw [hgt] at hg
          have g1 := h1 p t bs b3 (by omega) hgt
          have g2 := iht ts b3 b2 (by omega) hg
          omega

end Go.Proofs.YtbkedppkdhfpoabGreat

namespace Go.Proofs.YtbkedppkdhfpoabGreat
open Go.RowKit

/-- What is wrong with bindings behind one of a variable. -/
def bindErr (ar : List Int) : Int → List (Int × T) → Int
  | _, [] => 0
  | last, x :: bs => if x.1 < 1 ∨ 1000 < x.1 then 3 else if x.1 ≤ last then 4 else if termErr ar x.2 = 0 then bindErr ar x.1 bs else termErr ar x.2
def bindsErr (ar : List Int) (bs : List (Int × T)) : Int := if sigErr ar = 0 then bindErr ar 0 bs else sigErr ar
/-- The variable ahead of the k-th binding. -/
def lastB (bs : List (Int × T)) (k : Nat) : Int := if k = 0 then 0 else ((bs[k - 1]?).map (·.1)).getD 0
theorem lastB_succ {bs : List (Int × T)} {k : Nat} {x : Int × T} (hx : bs[k]? = some x) : lastB bs (k + 1) = x.1 := by
  rw [lastB, if_neg (by omega), Nat.add_sub_cancel, hx]; rfl
theorem bindErr_step {ar : List Int} {last : Int} {bs : List (Int × T)} {k : Nat} {x : Int × T} (hx : bs[k]? = some x) : bindErr ar last (bs.drop k) = if x.1 < 1 ∨ 1000 < x.1 then 3 else if x.1 ≤ last then 4 else if termErr ar x.2 = 0 then bindErr ar x.1 (bs.drop (k + 1)) else termErr ar x.2 := by
  have hlt : k < bs.length := by
    rcases Nat.lt_or_ge k bs.length with h1 | h1
    · exact h1
    · rw [List.getElem?_eq_none h1] at hx; cases hx
  have e : bs.drop k = x :: bs.drop (k + 1) := by
    rw [List.getElem?_eq_getElem hlt] at hx
    simp only [Option.some.injEq] at hx
    rw [← hx, List.getElem_cons_drop]
  rw [e, bindErr]
theorem bindErr_ok {ar : List Int} : ∀ {bs : List (Int × T)} {last : Int}, bindErr ar last bs = 0 → ∀ v u, (v, u) ∈ bs → 1 ≤ v ∧ v ≤ 1000 ∧ u.sz ≤ 120 ∧ okP ar u := by
  intro bs
  induction bs with
  | nil => intro last _ v u h; cases h
  | cons x bs ih =>
    intro last h v u hm
    rw [bindErr] at h
    by_cases h1 : x.1 < 1 ∨ 1000 < x.1
    · rw [if_pos h1] at h; cases h
    · rw [if_neg h1] at h
      by_cases h2 : x.1 ≤ last
      · rw [if_pos h2] at h; cases h
      · rw [if_neg h2] at h
        by_cases h3 : termErr ar x.2 = 0
        · rw [if_pos h3] at h
          rcases List.mem_cons.1 hm with e | hm
          · subst e
            exact ⟨by omega, by omega, (termErr_iff.1 h3).1, (termErr_iff.1 h3).2⟩
          · exact ih h v u hm
        · rw [if_neg h3] at h; exact absurd h h3

attribute [local go_sem ↓] Go.wp_at_zero Go.wp_at_succ
end Go.Proofs.YtbkedppkdhfpoabGreat
