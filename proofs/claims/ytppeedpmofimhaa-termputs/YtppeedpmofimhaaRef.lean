/- The document's own checks, as the statements have them: numbers, signatures, sizes. -/
import Derived.Test.YtppeedpmofimhaaFind
import Derived.Deep.RegionHeld3
import Derived.Deep.DrawnRows
import Derived.Deep.DeepCutAuto
namespace Go.Proofs.Ytppeedpmofimhaa
open Go.RowKit

set_option maxRecDepth 100000 in
set_option maxHeartbeats 400000 in
theorem between_any (n lo hi : Int) (w : World) : Calls Try.prog 63 #[.int .i64 n, .int .i64 lo, .int .i64 hi] w fun e w' => e = .returned (.bool (decide (lo ≤ n ∧ n ≤ hi))) ∧ w' = w := by
  by_cases h1 : lo ≤ n
  · by_cases h2 : n ≤ hi
    · have hfin : decide (lo ≤ n ∧ n ≤ hi) = true := by simp [h1, h2]
      rw [hfin]; clear hfin
      go_enter Try.func63, Try.ntmps63
      go_wp2_with fail
      go_ret
      exact ⟨rfl, rfl⟩
    · have hfin : decide (lo ≤ n ∧ n ≤ hi) = false := by simp; omega
      rw [hfin]; clear hfin
      go_enter Try.func63, Try.ntmps63
      go_wp2_with fail
      go_ret
      exact ⟨rfl, rfl⟩
  · have hfin : decide (lo ≤ n ∧ n ≤ hi) = false := by simp; omega
    rw [hfin]; clear hfin
    go_enter Try.func63, Try.ntmps63
    go_wp2_with fail
    go_ret
    exact ⟨rfl, rfl⟩

theorem between_yes (n lo hi : Int) (w : World) (h1 : lo ≤ n) (h2 : n ≤ hi) : Calls Try.prog 63 #[.int .i64 n, .int .i64 lo, .int .i64 hi] w fun e w' => e = .returned (.bool true) ∧ w' = w := by
  have h := between_any n lo hi w
  rwa [show decide (lo ≤ n ∧ n ≤ hi) = true from by simp [h1, h2]] at h
theorem between_no (n lo hi : Int) (w : World) (h : ¬ (lo ≤ n ∧ n ≤ hi)) : Calls Try.prog 63 #[.int .i64 n, .int .i64 lo, .int .i64 hi] w fun e w' => e = .returned (.bool false) ∧ w' = w := by
  have h' := between_any n lo hi w
  rwa [show decide (lo ≤ n ∧ n ≤ hi) = false from by simpa using h] at h'

set_option maxRecDepth 100000 in
set_option maxHeartbeats 400000 in
theorem checkSignature_any (ar : List Int) (ga : Option Addr) (gcap : Nat) (w : World) (hg : Ints w ar ga) :
    Calls Try.prog 20 #[.agg #[.slice ga ar.length gcap]] w fun e w' => e = .returned (.int .i64 (sigErr ar)) ∧ Below w.heap.size w w' := by
  by_cases hlen : 12 < ar.length
  · have hfin : sigErr ar = 2 := by simp [sigErr, hlen]
    rw [hfin]
    clear hfin
    go_enter Try.func20, Try.ntmps20
    go_wp2_with fail
    go_ret
    exact ⟨rfl, below1 _ _⟩
  · have hlen' : ar.length ≤ 12 := by omega
    go_enter Try.func20, Try.ntmps20
    go_wp2_with fail
    go_loop [3] (fun i => ∃ k : Nat, k ≤ ar.length ∧ i = .int .i64 k ∧ Hid ((ar.take k).all (fun n => decide (0 ≤ n ∧ n ≤ 3)) = true)) (fun i => ar.length - (intOf i).toNat)
    case atStart => exact ⟨0, Nat.zero_le _, rfl, rfl⟩
    case round =>
      obtain ⟨k, hk, rfl, hall⟩ := hrel
      by_cases hlt : k < ar.length
      · obtain ⟨b, off, rfl, hc⟩ := Ints_some hg (by omega)
        have hck : w.cell? ⟨b, off + k, none⟩ = some (.int .i64 (ar.getD k 0)) := hc k hlt
        have hbk := lt_of_cell hck
        have hs := all_take_succ (p := fun n => decide (0 ≤ n ∧ n ≤ 3)) hlt
        have hf := all_of_take (p := fun n => decide (0 ≤ n ∧ n ≤ 3)) hlt
        have Hs := hide hs
        have Hf := hide hf
        clear hs hf hc
        generalize ar.getD k 0 = n at *
        by_cases h0 : 0 ≤ n ∧ n ≤ 3
        · have H0 := hide h0
          clear h0
          go_wp2_with fail
          refine (between_yes n 0 3 _ H0.out.1 H0.out.2).mono ?_
          rintro e w' ⟨rfl, rfl⟩
          go_wp2_with fail
          go_round
          case rel => exact ⟨k + 1, by omega, by go_num, by have h1 := Hs.out; have h2 := H0.out; rw [hall.out] at h1; simpa [Hid, h2.1, h2.2] using h1⟩
          case measure => simp [intOf]; omega
        · have H0 := hide h0
          clear h0
          go_wp2_with fail
          refine (between_no n 0 3 _ H0.out).mono ?_
          rintro e w' ⟨rfl, rfl⟩
          go_wp2_with fail
          go_ret
          exact ⟨ret_int (by rw [sigErr, if_neg hlen, Hf.out (by have := H0.out; simpa using this)]; rfl), below1 _ _⟩
      · go_wp2_with fail
        go_ret
        have hk2 : k = ar.length := by omega
        subst hk2
        rw [List.take_length] at hall
        exact ⟨ret_int (by simp only [sigErr, if_neg hlen]; rw [hall.out]; rfl), below1 _ _⟩

set_option maxRecDepth 100000 in
set_option maxHeartbeats 400000 in
theorem sizeOf_any (N : Nat) : ∀ (t : T) (enough : Int) (a : Option Addr) (cap : Nat) (w : World), t.sz < N → 0 ≤ enough → enough ≤ 1000 → InL w t.args a →
    Calls Try.prog 15 #[.agg #[.int .i64 t.v, .int .i64 t.f, .slice a t.args.length cap], .int .i64 enough] w fun e w' => e = .returned (.int .i64 (min (t.sz : Int) (enough + 1))) ∧ Below w.heap.size w w' := by
  induction N with
  | zero => intro t enough a cap w hN; omega
  | succ N ih =>
    intro t enough a cap w hN he0 he1 IH
    have Hih := hide ih
    have htsz := T.sz_eq t
    clear ih
    go_enter Try.func15, Try.ntmps15
    go_wp2_with fail
    go_loopw [5, 6] (fun n i wr => ∃ k : Nat, k ≤ t.args.length ∧ i = .int .i64 k ∧ n = .int .i64 (min (1 + (T.sz.szL (t.args.take k) : Int)) (enough + 1)) ∧ k ≤ 1001 ∧
        Three wr w.heap.size (.int .i64 t.v) (.int .i64 t.f) (.slice a t.args.length cap) ∧ Below w.heap.size w wr) (fun _ i _ => t.args.length - (intOf i).toNat)
    case atStart => exact ⟨0, Nat.zero_le _, rfl, by simp [T.szL_nil]; omega, by omega, Three.new _ rfl, below1 _ _⟩
    case round =>
      obtain ⟨k, hk, rfl, rfl, hk1, h3, hb⟩ := hrel
      have H3 := hide h3
      obtain ⟨c0, c1, c2, _, _, _⟩ := h3
      have hzr := hb.size
      by_cases hlt : k < t.args.length
      · by_cases hgo : 1 + (T.sz.szL (t.args.take k) : Int) ≤ enough
        · obtain ⟨b, off, rfl⟩ := InP_some IH (by omega)
          obtain ⟨x, hx⟩ : ∃ x, t.args[k]? = some x := ⟨t.args[k], List.getElem?_eq_getElem hlt⟩
          obtain ⟨a1, cap1, _, k0, k1, k2, hin1⟩ := InP_at (InP_below hb IH) hx
          obtain ⟨hs1, hs2⟩ := szL_take hx
          have hxe := T.sz_eq x
          have Hs1 := hide hs1
          have hk3 : k ≤ 1000 := by have := T.length_le (t.args.take k); rw [List.length_take_of_le (by omega)] at this; omega
          have hm : min (1 + (T.sz.szL (t.args.take k) : Int)) (enough + 1) = 1 + T.sz.szL (t.args.take k) := by omega
          rw [hm]
          clear hs1 hx hm
          go_wp2_with fail
          refine (Hih.out x _ a1 cap1 _ (by omega) (by omega) (by omega) hin1).mono ?_
          rintro e w2 ⟨rfl, hb2⟩
          have hm2 : min (x.sz : Int) (enough - (1 + (T.sz.szL (t.args.take k) : Int)) + 1) ≤ enough := by omega
          have hm3 : 0 ≤ min (x.sz : Int) (enough - (1 + (T.sz.szL (t.args.take k) : Int)) + 1) := by omega
          have Hm4 : Hid (1 + (T.sz.szL (t.args.take k) : Int) + min (x.sz : Int) (enough - (1 + (T.sz.szL (t.args.take k) : Int)) + 1) = min (1 + (T.sz.szL (t.args.take (k + 1)) : Int)) (enough + 1)) := by
            show _ = _
            rw [Hs1.out]; omega
          generalize min (x.sz : Int) (enough - (1 + (T.sz.szL (t.args.take k) : Int)) + 1) = m at *
          go_wp2_with fail
          go_roundw
          case rel => exact ⟨k + 1, by omega, by go_num, by rw [← Hm4.out], by omega, H3.out.below hb2, hb.trans (hb2.mono hzr)⟩
          case measure => simp [intOf]; omega
        · have hm : min (1 + (T.sz.szL (t.args.take k) : Int)) (enough + 1) = enough + 1 := by omega
          have hle : T.sz.szL (t.args.take k) ≤ T.sz.szL t.args := by
            have e2 : T.sz.szL t.args = T.sz.szL (t.args.take k) + T.sz.szL (t.args.drop k) := by rw [← T.szL_append, List.take_append_drop]
            omega
          rw [hm]
          clear hm
          go_wp2_with fail
          go_ret
          exact ⟨ret_int (by omega), hb⟩
      · go_wp2_with fail
        go_ret
        have hk2 : k = t.args.length := by omega
        subst hk2
        rw [List.take_length]
        exact ⟨ret_int (by omega), hb⟩

end Go.Proofs.Ytppeedpmofimhaa
