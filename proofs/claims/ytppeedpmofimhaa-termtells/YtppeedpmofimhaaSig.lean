/- The program's looks at a signature and at a part alone. -/
import Derived.Test.YtppeedpmofimhaaLies
import Derived.Test.YtppeedpmofimhaaProg
import Derived.WalkKit
import Derived.WalkSpells
import Derived.WalkLawsBesides
import Derived.Deep.QuietTactic
import Derived.BigQuiet
namespace Go.Proofs.Ytppeedpmofimhaa
open Go.RowKit

theorem Try.underlying22 : Try.prog.underlying 22 = some (.slice 3) := by kernel_rfl

theorem all_take_succ {ar : List Int} {k : Nat} {p : Int → Bool} (hk : k < ar.length) : (ar.take (k + 1)).all p = ((ar.take k).all p && p (ar.getD k 0)) := by
  rw [List.take_add_one, List.getElem?_eq_getElem hk, List.getD_eq_getElem?_getD, List.getElem?_eq_getElem hk]
  simp only [List.all_append, Option.toList_some, List.all_cons, List.all_nil, Bool.and_true, Option.getD_some]

theorem all_of_take {ar : List Int} {k : Nat} {p : Int → Bool} (hk : k < ar.length) (h : p (ar.getD k 0) = false) : ar.all p = false := by
  rw [List.getD_eq_getElem?_getD, List.getElem?_eq_getElem hk] at h
  rw [List.all_eq_false]
  exact ⟨ar[k], List.getElem_mem hk, by simpa using h⟩

set_option maxRecDepth 100000 in
set_option maxHeartbeats 400000 in
theorem signature_any (ar : List Int) (ga : Option Addr) (gcap : Nat) (w : World) (hg : Ints w ar ga) :
    Calls Try.prog 19 #[.agg #[.slice ga ar.length gcap]] w fun e w' => e = .returned (.int .i64 (sigErr ar)) ∧ Below w.heap.size w w' := by
  by_cases hlen : 12 < ar.length
  · have hfin : sigErr ar = 2 := by simp [sigErr, hlen]
    rw [hfin]
    clear hfin
    go_enter Try.func19, Try.ntmps19
    go_wp2_with fail
    go_ret
    exact ⟨rfl, below1 _ _⟩
  · have hlen' : ar.length ≤ 12 := by omega
    go_enter Try.func19, Try.ntmps19
    go_wp2_with fail
    go_loop [4, 12] (fun _ i => ∃ k : Nat, k ≤ ar.length ∧ i = .int .i64 k ∧ Hid ((ar.take k).all (fun n => decide (0 ≤ n ∧ n ≤ 3)) = true)) (fun _ i => ar.length - (intOf i).toNat)
    case atStart => exact ⟨0, Nat.zero_le _, rfl, rfl⟩
    case round =>
      obtain ⟨k, hk, rfl, hall⟩ := hrel
      by_cases hlt : k < ar.length
      · obtain ⟨b, off, rfl, hc⟩ := Ints_some hg (by omega)
        have hck : w.cell? ⟨b, off + k, none⟩ = some (.int .i64 (ar.getD k 0)) := hc k hlt
        have hbk := lt_of_cell hck
        have hs := all_take_succ (p := fun n => decide (0 ≤ n ∧ n ≤ 3)) hlt
        have hf := all_of_take (p := fun n => decide (0 ≤ n ∧ n ≤ 3)) hlt
        have Hs := hide hs
        have Hf := hide hf
        clear hs hf hc
        generalize ar.getD k 0 = n at *
        by_cases h0 : n < 0
        · go_wp2_with fail
          go_ret
          exact ⟨ret_int (by rw [sigErr, if_neg hlen, Hf.out (by simp; omega)]; rfl), below1 _ _⟩
        · by_cases h3 : 3 < n
          · go_wp2_with fail
            go_ret
            exact ⟨ret_int (by rw [sigErr, if_neg hlen, Hf.out (by simp; omega)]; rfl), below1 _ _⟩
          · go_wp2_with fail
            go_round
            case rel => exact ⟨k + 1, by omega, by go_num, by have := Hs.out; rw [hall.out] at this; simpa [Hid, show 0 ≤ n from by omega, show n ≤ 3 from by omega] using this⟩
            case measure => simp [intOf]; omega
      · go_wp2_with fail
        go_ret
        have hk2 : k = ar.length := by omega
        subst hk2
        rw [List.take_length] at hall
        exact ⟨ret_int (by simp only [sigErr, if_neg hlen]; rw [hall.out]; rfl), below1 _ _⟩

def varErr (v f : Int) (n : Nat) : Int := if v < 1 ∨ 1000 < v then 3 else if n ≠ 0 ∨ f ≠ 0 then 1 else 0

set_option maxRecDepth 100000 in
set_option maxHeartbeats 400000 in
theorem checkVar_any (v f : Int) (n : Nat) (a : Option Addr) (cap : Nat) (w : World) :
    Calls Try.prog 119 #[.agg #[.int .i64 v, .int .i64 f, .slice a n cap]] w fun e w' => e = .returned (.int .i64 (varErr v f n)) ∧ Below w.heap.size w w' := by
  by_cases h1 : v < 1
  · have hfin : varErr v f n = 3 := by simp [varErr, h1]
    rw [hfin]; clear hfin
    go_enter Try.func119, Try.ntmps119
    go_wp2_with fail
    go_ret
    exact ⟨rfl, below1 _ _⟩
  · by_cases h2 : 1000 < v
    · have hfin : varErr v f n = 3 := by simp [varErr, h2]
      rw [hfin]; clear hfin
      go_enter Try.func119, Try.ntmps119
      go_wp2_with fail
      go_ret
      exact ⟨rfl, below1 _ _⟩
    · by_cases h3 : n = 0
      · subst h3
        by_cases h4 : f = 0
        · subst h4
          have hfin : varErr v 0 0 = 0 := by simp [varErr]; omega
          rw [hfin]; clear hfin
          go_enter Try.func119, Try.ntmps119
          go_wp2_with fail
          go_ret
          exact ⟨rfl, below1 _ _⟩
        · have hfin : varErr v f 0 = 1 := by rw [varErr, if_neg (by omega), if_pos (Or.inr h4)]
          have h4' : (f != 0) = true := by simpa using h4
          rw [hfin]; clear hfin h4
          go_enter Try.func119, Try.ntmps119
          go_wp2_with fail
          go_ret
          exact ⟨rfl, below1 _ _⟩
      · have hfin : varErr v f n = 1 := by rw [varErr, if_neg (by omega), if_pos (Or.inl h3)]
        have h3' : ((n : Int) != 0) = true := by simpa using h3
        rw [hfin]; clear hfin
        go_enter Try.func119, Try.ntmps119
        go_wp2_with fail
        go_ret
        exact ⟨rfl, below1 _ _⟩

theorem below2 (w : World) (o1 o2 : Obj) : Below w.heap.size w ((w.alloc o1).alloc o2) := (below1 w o1).alloc (by simp) o2

theorem partErr_var {ar : List Int} {v f : Int} {n : Nat} (h : v ≠ 0) : partErr ar v f n = varErr v f n := by
  simp only [partErr, varErr, if_pos h]

set_option maxRecDepth 100000 in
set_option maxHeartbeats 400000 in
theorem checkPart_any (ar : List Int) (ga : Option Addr) (gcap : Nat) (v f : Int) (n : Nat) (a : Option Addr) (cap : Nat) (w : World) (hg : Ints w ar ga) :
    Calls Try.prog 103 #[.agg #[.slice ga ar.length gcap], .agg #[.int .i64 v, .int .i64 f, .slice a n cap]] w fun e w' => e = .returned (.int .i64 (partErr ar v f n)) ∧ Below w.heap.size w w' := by
  by_cases h1 : v = 0
  · subst h1
    by_cases h2 : f < 0
    · have hfin : partErr ar 0 f n = 5 := by simp [partErr, h2]
      rw [hfin]; clear hfin
      go_enter Try.func103, Try.ntmps103
      go_wp2_with fail
      go_ret
      exact ⟨rfl, below2 _ _ _⟩
    · by_cases h3 : (ar.length : Int) ≤ f
      · have hfin : partErr ar 0 f n = 5 := by simp [partErr, h3]
        rw [hfin]; clear hfin
        go_enter Try.func103, Try.ntmps103
        go_wp2_with fail
        go_ret
        exact ⟨rfl, below2 _ _ _⟩
      · obtain ⟨k, rfl⟩ := Int.eq_ofNat_of_zero_le (show 0 ≤ f by omega)
        have hk : k < ar.length := by omega
        obtain ⟨b, off, rfl, hc⟩ := Ints_some hg (by omega)
        have hck : w.cell? ⟨b, off + k, none⟩ = some (.int .i64 (ar.getD k 0)) := hc k hk
        have hbk := lt_of_cell hck
        clear hc
        have hfin : partErr ar 0 (k : Int) n = if (n : Int) ≠ ar.getD k 0 then 1 else 0 := by
          rw [partErr, if_neg (by simp), if_neg (by omega), Int.toNat_natCast]
        generalize ar.getD k 0 = m at *
        rw [hfin]
        clear hfin hg
        by_cases h4 : (n : Int) = m
        · subst h4
          rw [if_neg (by simp)]
          go_enter Try.func103, Try.ntmps103
          go_wp2_with fail
          go_quiet (fail)
          go_wp2_with fail
          go_ret
          exact ⟨rfl, (below2 _ _ _).trans ⟨rfl, rfl, rfl, Nat.le_refl _, fun _ _ => rfl⟩⟩
        · rw [if_pos h4]
          have h4' : ((n : Int) != m) = true := by simpa using h4
          go_enter Try.func103, Try.ntmps103
          go_wp2_with fail
          go_quiet (fail)
          go_wp2_with fail
          go_ret
          exact ⟨rfl, (below2 _ _ _).trans ⟨rfl, rfl, rfl, Nat.le_refl _, fun _ _ => rfl⟩⟩
  · rw [partErr_var h1]
    have h1' : (v != 0) = true := by simpa using h1
    clear h1
    go_enter Try.func103, Try.ntmps103
    go_wp2_with (go_at_call 119; refine (checkVar_any v f n a cap _).mono ?_; rintro e w' ⟨rfl, hbw⟩)
    go_ret
    exact ⟨rfl, (below2 _ _ _).trans (hbw.mono (by simp; omega))⟩

end Go.Proofs.Ytppeedpmofimhaa
