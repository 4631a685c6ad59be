/- The program's count of variables and functions, which stops at a limit. -/
import Derived.Test.YtppeedpmofimhaaLies
import Derived.Test.YtppeedpmofimhaaProg
import Derived.WalkKit
import Derived.WalkSpells
import Derived.WalkLawsBesides
namespace Go.Proofs.Ytppeedpmofimhaa
open Go.RowKit

theorem szL_take {ts : List T} {k : Nat} {t : T} (ht : ts[k]? = some t) : T.sz.szL (ts.take (k + 1)) = T.sz.szL (ts.take k) + 1 + T.sz.szL t.args ∧ T.sz.szL (ts.take k) + 1 + T.sz.szL t.args ≤ T.sz.szL ts := by
  have hlt : k < ts.length := by
    rcases Nat.lt_or_ge k ts.length with h | h
    · exact h
    · rw [List.getElem?_eq_none h] at ht; cases ht
  have e : ts.take (k + 1) = ts.take k ++ [t] := by
    rw [List.take_add_one, ht]; rfl
  have e1 : T.sz.szL (ts.take (k + 1)) = T.sz.szL (ts.take k) + 1 + T.sz.szL t.args := by
    rw [e, T.szL_append, T.szL_cons, T.szL_nil, T.sz_eq]; omega
  refine ⟨e1, ?_⟩
  have e2 : T.sz.szL ts = T.sz.szL (ts.take (k + 1)) + T.sz.szL (ts.drop (k + 1)) := by
    rw [← T.szL_append, List.take_append_drop]
  omega

set_option maxRecDepth 100000 in
set_option maxHeartbeats 400000 in
theorem size_any (N : Nat) : ∀ (ts : List T) (limit : Int) (a : Option Addr) (cap : Nat) (w : World), T.sz.szL ts < N → 0 ≤ limit → limit ≤ 1000 → InL w ts a →
    Calls Try.prog 53 #[.int .i64 limit, .slice a ts.length cap] w fun e w' => e = .returned (.int .i64 (min (T.sz.szL ts : Int) (limit + 1))) ∧ Below w.heap.size w w' := by
  induction N with
  | zero => intro ts limit a cap w hN; omega
  | succ N ih =>
    intro ts limit a cap w hN hl0 hl1 IH
    have Hih := hide ih
    clear ih
    go_enter Try.func53, Try.ntmps53
    go_wp2_with fail
    go_loopw [5, 10] (fun n i wr => ∃ k : Nat, k ≤ ts.length ∧ i = .int .i64 k ∧ n = .int .i64 (T.sz.szL (ts.take k)) ∧ (T.sz.szL (ts.take k) : Int) ≤ limit ∧ Below w.heap.size w wr) (fun _ i _ => ts.length - (intOf i).toNat)
    case atStart => exact ⟨0, Nat.zero_le _, rfl, rfl, by simpa [T.szL_nil] using hl0, Below.refl _ _⟩
    case round =>
      obtain ⟨k, hk, rfl, rfl, hle, hb⟩ := hrel
      by_cases hlt : k < ts.length
      · have hin' := InP_below hb IH
        obtain ⟨b, off, rfl⟩ := InP_some IH (by omega)
        have hk3 : k ≤ 1000 := by have := T.length_le (ts.take k); rw [List.length_take_of_le (by omega)] at this; omega
        obtain ⟨t, ht⟩ : ∃ t, ts[k]? = some t := ⟨ts[k], List.getElem?_eq_getElem hlt⟩
        obtain ⟨a1, cap1, _, c0, c1, c2, hin1⟩ := InP_at hin' ht
        obtain ⟨hs1, hs2⟩ := szL_take ht
        have Hs1 := hide hs1
        clear hs1 ht
        by_cases hgo : (T.sz.szL (ts.take k) : Int) + 1 ≤ limit
        · by_cases hmore : limit < (T.sz.szL (ts.take k) : Int) + 1 + T.sz.szL t.args
          · go_wp2_with fail
            refine (Hih.out t.args _ _ _ _ (by omega) (by omega) (by omega) (InP_alloc _ hin1)).mono ?_
            rintro e w' ⟨rfl, hbw⟩
            have hm : min (T.sz.szL t.args : Int) (limit - ((T.sz.szL (ts.take k) : Int) + 1) + 1) = limit - T.sz.szL (ts.take k) := by omega
            rw [hm]
            go_wp2_with fail
            go_ret
            exact ⟨ret_int (by omega), (hb.alloc hb.size _).trans (hbw.mono (by simp; have := hb.size; omega))⟩
          · go_wp2_with fail
            refine (Hih.out t.args _ _ _ _ (by omega) (by omega) (by omega) (InP_alloc _ hin1)).mono ?_
            rintro e w' ⟨rfl, hbw⟩
            have hm : min (T.sz.szL t.args : Int) (limit - ((T.sz.szL (ts.take k) : Int) + 1) + 1) = T.sz.szL t.args := by omega
            rw [hm]
            go_wp2_with fail
            go_roundw
            case rel => exact ⟨k + 1, by omega, by go_num, by rw [Hs1.out]; go_num, by rw [Hs1.out]; omega, (hb.alloc hb.size _).trans (hbw.mono (by simp; have := hb.size; omega))⟩
            case measure => simp [intOf]; omega
        · go_wp2_with fail
          go_ret
          exact ⟨ret_int (by omega), hb.alloc hb.size _⟩
      · go_wp2_with fail
        go_ret
        exact ⟨ret_int (by rw [show k = ts.length from by omega, List.take_length] at hle ⊢; omega), hb⟩

end Go.Proofs.Ytppeedpmofimhaa
