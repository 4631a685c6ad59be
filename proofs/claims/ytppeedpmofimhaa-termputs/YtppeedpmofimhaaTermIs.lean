/- The statement's own look at a term and an error; what At and Put answer, case by case. -/
import Derived.Test.YtppeedpmofimhaaRefPut
import Derived.Test.YtppeedpmofimhaaRefTerms
import Derived.Test.YtppeedpmofimhaaSame
namespace Go.Proofs.Ytppeedpmofimhaa
open Go.RowKit

set_option maxRecDepth 100000 in
set_option maxHeartbeats 1000000 in
theorem termIs_any (x want : T) (k : Int) (a : Option Addr) (cap : Nat) (a2 : Option Addr) (cap2 : Nat) (w : World) (hsz : x.sz ≤ 1000) (hin : InL w x.args a) (hin2 : InL w want.args a2) (h0 : k = 0 → sameT x want = true) (h1 : k ≠ 0 → x = zeroT) :
    Calls Try.prog 27 #[.agg #[.int .i64 x.v, .int .i64 x.f, .slice a x.args.length cap], .int .i64 k, .int .i64 k, .agg #[.int .i64 want.v, .int .i64 want.f, .slice a2 want.args.length cap2]] w fun e w' =>
      e = .returned (.bool true) ∧ Below w.heap.size w w' := by
  by_cases hk : k = 0
  · subst hk
    have hs := h0 rfl
    have HS := hide (fun o1 o2 => sameTerm_any (x.sz + 1) x want a cap a2 cap2 ((w.alloc o1).alloc o2) (by omega) hsz (InP_alloc o2 (InP_alloc o1 hin)) (InP_alloc o2 (InP_alloc o1 hin2)))
    rw [hs] at HS
    clear h0 h1 hs
    go_enter Try.func27, Try.ntmps27
    go_wp2_with fail
    refine (HS.out _ _).mono ?_
    rintro e w1 ⟨rfl, hb1⟩
    have Hb := hide ((below2 w _ _).trans (hb1.mono (by simp; omega)))
    clear hb1
    go_wp2_with fail
    go_ret
    exact ⟨rfl, Hb.out⟩
  · have hx := h1 hk
    subst hx
    have hk1 : (k != 0) = true := by simpa using hk
    have hk2 : (k == k) = true := by simp
    have hs : sameT zeroT zeroT = true := sameT_refl _
    have HS := hide (fun o1 o2 => sameTerm_any 2 zeroT zeroT a cap none 0 ((w.alloc o1).alloc o2) (by decide) (by decide) InP_nil InP_nil)
    rw [hs] at HS
    clear h0 h1 hs
    go_enter Try.func27, Try.ntmps27
    go_wp2_with fail
    refine (HS.out _ _).mono ?_
    rintro e w1 ⟨rfl, hb1⟩
    have Hb := hide ((below2 w _ _).trans (hb1.mono (by simp; omega)))
    clear hb1
    go_wp2_with fail
    go_ret
    exact ⟨rfl, Hb.out⟩

/-- What is wrong with the first is wrong with both. -/
theorem allErr_two {ar : List Int} {t u : T} (h : allErr ar [t] ≠ 0) : allErr ar [t, u] ≠ 0 := by
  intro h2
  apply h
  have := allErr_iff.1 h2
  exact allErr_iff.2 ⟨this.1, fun x hx => this.2 x (by simp at hx; simp [hx])⟩
theorem allErr_one {ar : List Int} {t u : T} (h : allErr ar [t, u] = 0) : allErr ar [t] = 0 := by
  rcases Classical.em (allErr ar [t] = 0) with h1 | h1
  · exact h1
  · exact absurd h (allErr_two h1)
theorem at_zero {ar : List Int} {t : T} {place : List Int} (h : (atSpec ar t place).2 ≠ 0) : (atSpec ar t place).1 = zeroT := by
  rw [atSpec] at h ⊢
  split
  · cases hat : atT t place with
    | none => rfl
    | some c => rw [if_pos (by assumption), hat] at h; exact absurd rfl h
  · rfl
theorem put_zero {ar : List Int} {t u : T} {place : List Int} (h : (putSpec ar t place u).2 ≠ 0) : (putSpec ar t place u).1 = zeroT := by
  rw [putSpec] at h ⊢
  by_cases h1 : allErr ar [t, u] = 0
  · rw [if_pos h1] at h ⊢
    cases hat : atT t place with
    | none => rfl
    | some c =>
      rw [hat] at h
      by_cases h2 : 120 < (t.sz : Int) - c.sz + u.sz
      · simp only [if_pos h2]
      · simp only [if_neg h2] at h; exact absurd rfl h
  · rw [if_neg h1]
theorem at_bad {ar : List Int} {t : T} {place : List Int} (h : allErr ar [t] ≠ 0) : (atSpec ar t place).2 = allErr ar [t] := by rw [atSpec, if_neg h]
theorem at_none {ar : List Int} {t : T} {place : List Int} (h : allErr ar [t] = 0) (hn : atT t place = none) : (atSpec ar t place).2 = 5 := by rw [atSpec, if_pos h, hn]
theorem at_some {ar : List Int} {t c : T} {place : List Int} (h : allErr ar [t] = 0) (hn : atT t place = some c) : atSpec ar t place = (c, 0) := by rw [atSpec, if_pos h, hn]
theorem put_bad {ar : List Int} {t u : T} {place : List Int} (h : allErr ar [t, u] ≠ 0) : (putSpec ar t place u).2 = allErr ar [t, u] := by rw [putSpec, if_neg h]
theorem put_none {ar : List Int} {t u : T} {place : List Int} (h : allErr ar [t, u] = 0) (hn : atT t place = none) : (putSpec ar t place u).2 = 5 := by rw [putSpec, if_pos h, hn]
theorem put_some {ar : List Int} {t u c : T} {place : List Int} (h : allErr ar [t, u] = 0) (hn : atT t place = some c) :
    putR u t place = putT u t place ∧ (putR u t place).sz ≤ 240 ∧ (120 < (putR u t place).sz → (putSpec ar t place u).2 = 2) ∧ ((putR u t place).sz ≤ 120 → putSpec ar t place u = (putR u t place, 0)) := by
  have hx := allErr_iff.1 h
  have ht := hx.2 t (by simp)
  have hu := hx.2 u (by simp)
  have e := putR_putT (u := u) hn ht.2
  have hsz := putT_sz (u := u) hn
  have hc := atT_sz hn
  rw [e]
  refine ⟨rfl, by omega, fun h1 => ?_, fun h1 => ?_⟩
  · rw [putSpec, if_pos h, hn]
    simp only [if_pos (show 120 < (t.sz : Int) - c.sz + u.sz by omega)]
  · rw [putSpec, if_pos h, hn]
    simp only [if_neg (show ¬ 120 < (t.sz : Int) - c.sz + u.sz by omega)]
theorem at_sz {ar : List Int} {t : T} {place : List Int} : (atSpec ar t place).1.sz ≤ 120 := by
  rw [atSpec]
  split
  · rename_i h
    cases hat : atT t place with
    | none => exact (by decide : zeroT.sz ≤ 120)
    | some c =>
      have := atT_sz hat
      have := sz_of_ok h (t := t) (by simp)
      show c.sz ≤ 120
      omega
  · exact (by decide : zeroT.sz ≤ 120)
theorem put_sz {ar : List Int} {t u : T} {place : List Int} : (putSpec ar t place u).1.sz ≤ 240 := by
  rcases Classical.em ((putSpec ar t place u).2 = 0) with h | h
  · rcases Classical.em (allErr ar [t, u] = 0) with h1 | h1
    · cases hat : atT t place with
      | none => rw [put_none h1 hat] at h; cases h
      | some c =>
        obtain ⟨e, h2, h3, h4⟩ := put_some h1 hat
        rcases Nat.lt_or_ge 120 (putR u t place).sz with h5 | h5
        · rw [h3 h5] at h; cases h
        · rw [h4 h5]; exact h2
    · rw [put_bad h1] at h; exact absurd h h1
  · rw [put_zero h]; decide

end Go.Proofs.Ytppeedpmofimhaa
