/- The document's looks at lists of numbers. -/
import Derived.Test.YtppeedpmofimhaaSig
namespace Go.Proofs.Ytppeedpmofimhaa
open Go.RowKit

theorem mem_take_succ {zs : List Int} {k : Nat} {n : Int} (hk : k < zs.length) : n ∈ zs.take (k + 1) ↔ n ∈ zs.take k ∨ zs.getD k 0 = n := by
  have e : zs.take (k + 1) = zs.take k ++ [zs[k]] := by rw [List.take_add_one, List.getElem?_eq_getElem hk]; rfl
  rw [e, List.mem_append, List.mem_singleton, List.getD_eq_getElem?_getD, List.getElem?_eq_getElem hk]
  exact or_congr Iff.rfl eq_comm

set_option maxRecDepth 100000 in
set_option maxHeartbeats 400000 in
theorem has_any (zs : List Int) (a : Option Addr) (cap : Nat) (n : Int) (w : World) (hi : Ints w zs a) (hl : zs.length ≤ 1000) :
    Calls Try.prog 59 #[.slice a zs.length cap, .int .i64 n] w fun e w' => e = .returned (.bool (decide (n ∈ zs))) ∧ w' = w := by
  go_enter Try.func59, Try.ntmps59
  go_wp2_with fail
  go_loop [4, 5] (fun _ i => ∃ k : Nat, k ≤ zs.length ∧ i = .int .i64 k ∧ Hid (n ∉ zs.take k)) (fun _ i => zs.length - (intOf i).toNat)
  case atStart => exact ⟨0, Nat.zero_le _, rfl, by show n ∉ zs.take 0; simp⟩
  case round =>
    obtain ⟨k, hk, rfl, hall⟩ := hrel
    by_cases hlt : k < zs.length
    · obtain ⟨b, off, rfl, hc⟩ := Ints_some hi (by omega)
      have hck : w.cell? ⟨b, off + k, none⟩ = some (.int .i64 (zs.getD k 0)) := hc k hlt
      have Hs := hide (mem_take_succ (n := n) hlt)
      have Hz : Hid (zs.getD k 0 ∈ zs) := by
        show zs.getD k 0 ∈ zs
        rw [List.getD_eq_getElem?_getD, List.getElem?_eq_getElem hlt]
        exact List.getElem_mem hlt
      clear hc
      generalize zs.getD k 0 = x at *
      by_cases h0 : x = n
      · have e0 : (x == n) = true := by simpa using h0
        have H0 := hide h0
        clear h0
        go_wp2_with fail
        go_ret
        exact ⟨ret_bool (decide_eq_true (H0.out ▸ Hz.out)).symm, rfl⟩
      · have e0 : (x == n) = false := by simpa using h0
        have H0 := hide h0
        clear h0
        go_wp2_with fail
        go_round
        case rel => exact ⟨k + 1, by omega, by go_num, by show n ∉ zs.take (k + 1); rw [Hs.out]; exact fun h => h.elim hall.out H0.out⟩
        case measure => simp [intOf]; omega
    · have hk2 : k = zs.length := by omega
      subst hk2
      rw [List.take_length] at hall
      go_wp2_with fail
      go_ret
      exact ⟨ret_bool (decide_eq_false hall.out).symm, rfl⟩

set_option maxRecDepth 100000 in
set_option maxHeartbeats 400000 in
theorem sameInts_any (zs ys : List Int) (a : Option Addr) (cap : Nat) (a2 : Option Addr) (cap2 : Nat) (w : World) (hi : Ints w zs a) (hi2 : Ints w ys a2) (hl : zs.length ≤ 1000) (he : zs = ys) :
    Calls Try.prog 22 #[.slice a zs.length cap, .slice a2 ys.length cap2] w fun e w' => e = .returned (.bool true) ∧ Below w.heap.size w w' := by
  subst he
  have e0 : ((zs.length : Int) != zs.length) = false := by simp
  go_enter Try.func22, Try.ntmps22
  go_wp2_with fail
  go_loopw [4, 5] (fun _ i wr => ∃ k : Nat, k ≤ zs.length ∧ i = .int .i64 k ∧ Below w.heap.size w wr) (fun _ i _ => zs.length - (intOf i).toNat)
  case atStart => exact ⟨0, Nat.zero_le _, rfl, Below.refl _ _⟩
  case round =>
    obtain ⟨k, hk, rfl, hb⟩ := hrel
    by_cases hlt : k < zs.length
    · obtain ⟨b, off, rfl, hc⟩ := Ints_some (Ints_below hb hi) (by omega)
      obtain ⟨b2, off2, rfl, hc2⟩ := Ints_some (Ints_below hb hi2) (by omega)
      have hck : wr.cell? ⟨b, off + k, none⟩ = some (.int .i64 (zs.getD k 0)) := hc k hlt
      have hck2 : wr.cell? ⟨b2, off2 + k, none⟩ = some (.int .i64 (zs.getD k 0)) := hc2 k hlt
      have hkI : (k : Int) < zs.length := by omega
      have hk0 : (0 : Int) ≤ k := by omega
      have Hb := hide hb
      clear hc hc2 hb
      generalize zs.getD k 0 = x at *
      have e1 : (x != x) = false := by simp
      go_wp2_with fail
      go_quiet (fail)
      go_wp2_with fail
      go_roundw
      case rel => exact ⟨k + 1, by omega, by go_num, Hb.out.trans ⟨rfl, rfl, rfl, Nat.le_refl _, fun _ _ => rfl⟩⟩
      case measure => simp [intOf]; omega
    · go_wp2_with fail
      go_ret
      exact ⟨rfl, hb⟩

end Go.Proofs.Ytppeedpmofimhaa
