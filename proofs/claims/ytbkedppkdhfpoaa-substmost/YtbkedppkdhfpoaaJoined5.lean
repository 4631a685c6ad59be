/- The program's Vars: the variables, sorted, each once. What the statements ask in any case. The walk of the statement on what is put and put back. A list of terms of the call's own, and what lies behind each of them. -/
import Derived.Test.YtbkedppkdhfpoaaJoined4
namespace Go.Proofs.Ytbkedppkdhfpoaa
open Go.RowKit

theorem putRow_block {α : Type} [Inhabited α] {enc : α → Value} {w : World} {blk off k : Nat} {d : Array α} (h : k ≠ blk) : (Sort.putRow enc w blk off d).heap[k]? = w.heap[k]? := by
  simp [Sort.putRow, Sort.mapBlock, Array.getElem?_modify, Ne.symm h]

theorem holds_own {w : World} {B g cap : Nat} {zs : List Int} (h : w.ownsRow B 3 1 (.slice (some ⟨g, 0, none⟩) zs.length cap) zs.length (zs.map (Value.int .i64))) (hn : 0 < zs.length) : Sort.Holds (Value.int .i64) w g 0 zs.toArray ∧ g < w.heap.size ∧ zs.length ≤ cap := by
  rcases h.2 with ⟨_, h0⟩ | ⟨g', cap', cur, he, hb, hg, hc, hm, hs, ht⟩
  · omega
  simp only [Value.slice.injEq, Option.some.injEq, Addr.mk.injEq, and_true, true_and] at he
  obtain ⟨rfl, rfl⟩ := he
  refine ⟨fun j hj => ?_, ?_, hc⟩
  · have hj' : j < zs.length := by simpa using hj
    have e1 : cur[j]? = some (.int .i64 zs[j]) := by
      have : (cur.toList.take (zs.length * 1))[j]? = some (.int .i64 zs[j]) := by rw [ht]; simp [hj']
      rw [List.getElem?_take_of_lt (by omega)] at this
      simpa using this
    constructor
    · simp only [World.cell?, hg, Nat.zero_add]
      simp [e1, hj']
    · simp [World.frozen?, hg]
  · rcases Nat.lt_or_ge g w.heap.size with h | h
    · exact h
    · rw [Array.getElem?_eq_none h] at hg; cases hg

theorem sort_any (g cap : Nat) (zs : List Int) (w : World) (hH : Sort.Holds (Value.int .i64) w g 0 zs.toArray) (hg : g < w.heap.size) (hn : zs.length ≤ 2000) :
    Calls Try.prog 56 #[.slice (some ⟨g, 0, none⟩) zs.length cap] w fun e w' => e = .returned (.tuple #[]) ∧ Keeps g noFoot w w' ∧ Sort.Holds (Value.int .i64) w' g 0 (zs.mergeSort fun x y => decide (x ≤ y)).toArray := by
  refine (Try.slices_Sort_int g 0 cap zs w hH hg (by omega)).mono ?_
  rintro e w' ⟨rfl, n, os, rfl⟩
  refine ⟨rfl, ⟨rfl, rfl, rfl, by simp, fun k hk hkg _ => ?_, fun _ h => h.elim⟩, ?_⟩
  · rw [Sort.heap_grow_old _ _ (by simpa using hk), putRow_block hkg]; rfl
  · refine Sort.holds_grow _ _ _ _ _ _ (by simpa using hg) (Sort.holds_putRow _ _ _ _ zs.toArray _ hH (by simp))

theorem compact_le (zs : List Int) : (Lib.compact zs).length ≤ zs.length := by
  unfold Lib.compact Lib.compactUpTo
  rw [List.length_map]
  exact Nat.le_trans (List.length_filter_le _ _) (by simp)

theorem compact_any (g cap : Nat) (zs : List Int) (w : World) (hH : Sort.Holds (Value.int .i64) w g 0 zs.toArray) (hcap : zs.length ≤ cap) (hn : zs.length ≤ 2000) :
    Calls Try.prog 57 #[.slice (some ⟨g, 0, none⟩) zs.length cap] w fun e w' => e = .returned (.slice (some ⟨g, 0, none⟩) (Lib.compact zs).length cap) ∧ Keeps g noFoot w w' ∧ Ints w' (Lib.compact zs) (some ⟨g, 0, none⟩) := by
  refine (Try.slices_Compact_int g 0 cap zs w hH (by omega) hcap).mono ?_
  rintro e w' ⟨rfl, q, rfl⟩
  have hle := compact_le zs
  refine ⟨rfl, ⟨rfl, rfl, rfl, by simp, fun k hk hkg _ => ?_, fun _ h => h.elim⟩, Or.inr ⟨g, 0, rfl, fun i hi => ?_⟩⟩
  · rw [putRow_block hkg]; rfl
  · have h1 := Sort.cell?_putRow (Value.int .i64) (Sort.ahead w q) g 0 zs.toArray (Lib.compact zs ++ List.replicate (zs.length - (Lib.compact zs).length) 0).toArray hH (by simp; omega) i (by simp; omega)
    rw [h1]
    congr 1
    simp [List.getElem?_append_left hi, List.getD]

theorem eg55 (args : Array Value) (w : World) : (callFunc 55 args).run Try.prog w = .ok (.enter 55 args) w := by kernel_rfl

theorem look_vars (x B : Nat) (ts : List T) (a : Option Addr) (cap : Nat) (w : World) (hxB : x < B) (h1000 : T.sz.szL ts ≤ 1000) (hf : Foot x B slFoot w) (hin : InP (fun k => k < B ∧ k ≠ x) w ts a) (hst : VarsAt x B w []) :
    Calls Try.prog 54 #[.func (.func 55) #[] #[.pointer (some ⟨x, 0, none⟩)], .slice a ts.length cap] w fun e w' =>
      e = .returned (.bool (lookT.lookL varStep [] ts).2) ∧ VarsAt x B w' (lookT.lookL varStep [] ts).1 ∧ Keeps x slFoot w w' :=
  look_any varStep 55 #[.pointer (some ⟨x, 0, none⟩)] x B slFoot (VarsAt x B) eg55 List.length 1000 (fun s t => by
      show (if t.v = 0 then s else s ++ [t.v]).length ≤ _
      split <;> simp) (fun _ _ _ _ h => h.below (below1 _ _))
    (fun w' s t' a' cap' hlt hf' h => varsC_any x B w' s t' a' cap' hxB hf'.hB hlt h) (T.sz.szL ts + 1) ts a cap w [] (by omega) h1000 (by simpa using h1000) hf hin hst

/-- All variables of a term, behind those that stand ahead. -/
def allVars (t : T) : List Int := (lookT.lookL varStep [] [t]).1
/-- The variables of a term, rising, each once. -/
def varsT (t : T) : List Int := Lib.compact ((allVars t).mergeSort fun x y => decide (x ≤ y))

/-- What Vars answers. -/
def varsSpec (ar : List Int) (t : T) : List Int := if allErr ar [t] = 0 then varsT t else []

/-- Numbers and an error handed back. -/
def GivesInts (zs : List Int) (err : Int) (e : Ending) (w' : World) : Prop :=
  ∃ a1 cap1, e = .returned (.tuple #[.slice a1 zs.length cap1, .int .i64 err]) ∧ Ints w' zs a1
/-- The same; what is nil has no room, and what is not begins somewhere. -/
def GivesNums (zs : List Int) (err : Int) (e : Ending) (w' : World) : Prop :=
  ∃ a1 cap1, e = .returned (.tuple #[.slice a1 zs.length cap1, .int .i64 err]) ∧ Ints w' zs a1 ∧ ((a1 = none ∧ cap1 = 0) ∨ ∃ g, a1 = some ⟨g, 0, none⟩)

theorem allVars_le (t : T) : (allVars t).length ≤ t.sz := by
  have := (look_mu (step := varStep) (mu := List.length) (fun s t => by
      show (if t.v = 0 then s else s ++ [t.v]).length ≤ _
      split <;> simp) _).2 [t] [] (Nat.le_refl _)
  rw [T.szL_cons, T.szL_nil] at this
  simpa [allVars] using this

theorem Below.of_keepsF {x B : Nat} {F : Option Obj → Nat → Prop} {W w' : World} (h : Keeps x F W w') (hx : B ≤ x) (hB : B ≤ W.heap.size) (hF : ∀ k, F W.heap[x]? k → B ≤ k) : Below B W w' :=
  ⟨h.os, h.tape, h.output, h.size, fun k hk => h.block k (by omega) (by omega) (fun hk' => by have := hF k hk'; omega)⟩

set_option maxRecDepth 100000 in
set_option maxHeartbeats 1000000 in
theorem Vars_nums (ar : List Int) (ga : Option Addr) (gcap : Nat) (t : T) (a : Option Addr) (cap : Nat) (w : World) (hg : Ints w ar ga) (hin : InL w t.args a) (hszok : allErr ar [t] = 0 → t.sz ≤ 120) :
    Calls Try.prog 13 #[.agg #[.slice ga ar.length gcap], .agg #[.int .i64 t.v, .int .i64 t.f, .slice a t.args.length cap]] w fun e w' =>
      GivesNums (varsSpec ar t) (allErr ar [t]) e w' ∧ Below w.heap.size w w' := by
  have hmf : ∀ (fn : Fn) (first cap : Array Value) (w : World), (Instr.makeFunc fn first cap).run Try.prog w = .ok (.func fn first cap) w := fun _ _ _ _ => rfl
  have Hg := hide (fun o1 o2 o3 => Ints_alloc o3 (Ints_alloc o2 (Ints_alloc o1 hg)))
  have Hin := hide (fun o1 o2 e => InP_new1 (n := w.heap.size + 1 + 1) (cap := cap) e (by simp) trivial (InP_alloc o2 (InP_alloc o1 hin)))
  have hs1 : T.sz.szL [t] = t.sz := by rw [T.szL_cons, T.szL_nil]; omega
  have Hs1 := hide hs1
  clear hg hs1
  go_enter Try.func13, Try.ntmps13
  go_wp2_with fail
  refine (check_any ar ga gcap [t] _ 1 _ (Hg.out _ _ _) (Hin.out _ _ _) (by simp)).mono ?_
  rintro e w1 ⟨rfl, hb1⟩
  have hbw : Below w.heap.size w w1 := (((below1 _ _).alloc (by simp) _).alloc (by simp; omega) _).trans (hb1.mono (by simp; omega))
  have hz1 : w.heap.size + 1 < w1.heap.size := by have := hb1.size; simp at this; omega
  have h3t : Three w1 (w.heap.size + 1) (.int .i64 t.v) (.int .i64 t.f) (.slice a t.args.length cap) := ((Three.new _ (by simp)).alloc _).below hb1
  clear hb1
  by_cases hs : allErr ar [t] = 0
  · have hsz := hszok hs
    have hsp : varsSpec ar t = varsT t := by rw [varsSpec, if_pos hs]
    have Hsp := hide hsp
    have Hs := hide hs
    rw [hs]
    obtain ⟨d0, d1, d2, _, _, _⟩ := h3t
    have hin1 := InP_lt (InP_below hbw hin)
    have hin2 : ∀ e1 e2, InP (fun k => k < w1.heap.size + 2 ∧ k ≠ w1.heap.size) ((w1.alloc (.cells #[.slice none 0 0] e1)).alloc (.cells #[.int .i64 t.v, .int .i64 t.f, .slice a t.args.length cap] e2)) [t] (some ⟨w1.heap.size + 1, 0, none⟩) :=
      fun e1 e2 => InP_new1 e2 (by simp) (by constructor <;> simp) (InP_alloc _ (InP_imp (fun k h => by omega) hin1))
    have hst : ∀ o2, VarsAt w1.heap.size (w1.heap.size + 2) ((w1.alloc (.cells #[.slice none 0 0] 22)).alloc o2) [] := fun o2 =>
      VarsAt.below ⟨.slice none 0 0, heap_alloc_new w1 _, ⟨rfl, Or.inl ⟨rfl, rfl⟩⟩⟩ (below1 _ _)
    have hft : ∀ o2, Foot w1.heap.size (w1.heap.size + 2) slFoot ((w1.alloc (.cells #[.slice none 0 0] 22)).alloc o2) := fun o2 =>
      ⟨by simp; omega, by simp, fun k hk => by
        rw [Below.heap_alloc _ _ _ (by simp), foot_of (heap_alloc_new w1 _)] at hk; cases hk⟩
    have Hin2 := hide hin2
    have Hst := hide hst
    have Hft := hide hft
    clear hin1 hin2 hst hft hs hsp
    go_wp2_with fail
    refine (look_vars _ (w1.heap.size + 2) [t] _ 1 _ (by omega) (by rw [Hs1.out]; omega) (Hft.out _) (Hin2.out _ _) (Hst.out _)).mono ?_
    rintro e w2 ⟨rfl, hvars, hkeep⟩
    have hb2 : Below w.heap.size w w2 := ((hbw.alloc (by omega) _).alloc (by simp; omega) _).trans (Below.of_keepsF hkeep (by omega) (by simp; omega) (fun k hk => by have := (Hft.out _).rng k hk; omega))
    have hsz2 := hkeep.size
    simp at hsz2
    have hle := allVars_le t
    change VarsAt w1.heap.size (w1.heap.size + 2) w2 (allVars t) at hvars
    obtain ⟨v, hv, hown⟩ := hvars
    obtain ⟨va, vc, rfl⟩ := own_shape hown
    have cv : w2.cell? ⟨w1.heap.size, 0, none⟩ = some (.slice va (allVars t).length vc) := by simp [World.cell?, hv]
    have Hv := hide hv
    have Hown := hide hown
    clear hkeep hv hown Hft Hin2 Hst
    clear hszok
    by_cases hnil : (allVars t).length = 0
    · have hv0 : varsSpec ar t = [] := by
        rw [Hsp.out, varsT, List.length_eq_zero_iff.1 hnil, List.mergeSort_nil]; rfl
      have Hv0 := hide hv0
      have Hvn : Hid ((va = none ∧ vc = 0) ∨ ∃ g, va = some ⟨g, 0, none⟩) := by
        rcases Hown.out.2 with ⟨h, _⟩ | ⟨g, cap, cur, h, _⟩
        · simp only [Value.slice.injEq] at h; exact Or.inl ⟨h.1, h.2.2⟩
        · simp only [Value.slice.injEq] at h; exact Or.inr ⟨g, h.1⟩
      rw [hnil] at cv
      clear hnil hv0
      go_wp2_with fail
      refine (Try.slices_Sort_int_none va vc _).mono ?_
      rintro e w3 ⟨rfl, rfl⟩
      go_wp2_with fail
      refine (Try.slices_Compact_int_empty va vc _).mono ?_
      rintro e w4 ⟨rfl, rfl⟩
      go_wp2_with fail
      go_ret2
      exact ⟨by rw [Hv0.out, Hs.out]; exact ⟨va, vc, rfl, Or.inl rfl, Hvn.out⟩, hb2⟩
    · have hpos : 0 < (allVars t).length := by omega
      obtain ⟨g, cap2, hform, hBg, hglt⟩ := Hown.out.form hpos
      simp only [Value.slice.injEq, true_and] at hform
      obtain ⟨rfl, rfl⟩ := hform
      obtain ⟨hH, _, hcap⟩ := holds_own Hown.out hpos
      have HH := hide hH
      have hlen : ((allVars t).mergeSort fun x y => decide (x ≤ y)).length = (allVars t).length := List.length_mergeSort _
      have Hlen := hide hlen
      clear hH hlen hnil
      go_wp2_with fail
      refine (sort_any g vc (allVars t) _ HH.out hglt (by omega)).mono ?_
      rintro e w3 ⟨rfl, hk3, hH3⟩
      have hz3 := hk3.size
      have cv3 : w3.cell? ⟨w1.heap.size, 0, none⟩ = some (.slice (some ⟨g, 0, none⟩) (allVars t).length vc) := by
        rw [World.cell?_of_block (w := w2) (a := ⟨w1.heap.size, 0, none⟩) (hk3.block w1.heap.size (by omega) (by omega) (fun h => h))]; exact cv
      have Hb3 := hide (hb2.trans (Below.of_keeps (B := w.heap.size) hk3 (by omega) (by have := hb2.size; omega)))
      have hH3' := hide hH3
      clear hk3 hH3
      go_wp2_with fail
      have hcm := compact_any g vc ((allVars t).mergeSort fun x y => decide (x ≤ y)) w3 hH3'.out (by rw [Hlen.out]; exact hcap) (by rw [Hlen.out]; omega)
      rw [Hlen.out] at hcm
      refine hcm.mono ?_
      rintro e w4 ⟨rfl, hk4, hI⟩
      clear hcm
      have hsp4 : varsSpec ar t = Lib.compact ((allVars t).mergeSort fun x y => decide (x ≤ y)) := Hsp.out
      have Hsp4 := hide hsp4
      have Hb4 := hide (Hb3.out.trans (Below.of_keeps (B := w.heap.size) hk4 (by omega) (by have := Hb3.out.size; omega)))
      have HI := hide hI
      clear hsp4 hk4 hI
      go_wp2_with fail
      go_ret2
      exact ⟨by rw [Hsp4.out, Hs.out]; exact ⟨_, vc, rfl, HI.out, Or.inr ⟨_, rfl⟩⟩, Hb4.out⟩
  · have hs1 : (allErr ar [t] != 0) = true := by simpa using hs
    have hsp : varsSpec ar t = [] := by rw [varsSpec, if_neg hs]
    have Hsp := hide hsp
    clear hs hsp hszok
    go_wp2_with fail
    go_ret2
    exact ⟨by rw [Hsp.out]; exact ⟨none, 0, rfl, Or.inl rfl, Or.inl ⟨rfl, rfl⟩⟩, hbw⟩
theorem Vars_any (ar : List Int) (ga : Option Addr) (gcap : Nat) (t : T) (a : Option Addr) (cap : Nat) (w : World) (hg : Ints w ar ga) (hin : InL w t.args a) (hszok : allErr ar [t] = 0 → t.sz ≤ 120) :
    Calls Try.prog 13 #[.agg #[.slice ga ar.length gcap], .agg #[.int .i64 t.v, .int .i64 t.f, .slice a t.args.length cap]] w fun e w' =>
      GivesInts (varsSpec ar t) (allErr ar [t]) e w' ∧ Below w.heap.size w w' :=
  (Vars_nums ar ga gcap t a cap w hg hin hszok).mono fun _ _ ⟨⟨a1, c1, h1, h2, _⟩, hb⟩ => ⟨⟨a1, c1, h1, h2⟩, hb⟩

end Go.Proofs.Ytbkedppkdhfpoaa

namespace Go.Proofs.Ytbkedppkdhfpoaa
open Go.RowKit

set_option maxRecDepth 100000 in
set_option maxHeartbeats 400000 in
theorem small_any (w : World) : Calls Try.prog 60 #[] w fun e w' => ∃ n, e = .returned (.agg #[.slice (some ⟨n, 0, none⟩) 2 2]) ∧ Ints w' [0, 1] (some ⟨n, 0, none⟩) ∧ Below w.heap.size w w' := by
  go_enter Try.func60, Try.ntmps60
  go_wp2_with fail
  exact bodyPost_ret (v := .agg #[.slice (some ⟨w.heap.size + 1, 0, none⟩) 2 2]) (by simp [results, Try.results60, go_sem]) rfl ⟨w.heap.size + 1, rfl, Or.inr ⟨_, _, rfl, fun i hi => by
    have : i = 0 ∨ i = 1 := by simp at hi; omega
    rcases this with rfl | rfl
    · exact cell_new 0 (by simp)
    · exact cell_new 1 (by simp)⟩, below2 _ _ _⟩

set_option maxRecDepth 100000 in
set_option maxHeartbeats 400000 in
theorem fn_any (n : Int) (a : Option Addr) (len cap : Nat) (w : World) : Calls Try.prog 61 #[.int .i64 n, .slice a len cap] w fun e w' => e = .returned (.agg #[.int .i64 0, .int .i64 n, .slice a len cap]) ∧ Below w.heap.size w w' := by
  go_enter Try.func61, Try.ntmps61
  go_wp2_with fail
  exact bodyPost_ret (v := .agg #[.int .i64 0, .int .i64 n, .slice a len cap]) (by simp [results, Try.results61, go_sem]) rfl ⟨rfl, below1 _ _⟩

set_option maxRecDepth 100000 in
set_option maxHeartbeats 400000 in
theorem va_any (n : Int) (w : World) : Calls Try.prog 62 #[.int .i64 n] w fun e w' => e = .returned (.agg #[.int .i64 n, .int .i64 0, .slice none 0 0]) ∧ Below w.heap.size w w' := by
  go_enter Try.func62, Try.ntmps62
  go_wp2_with fail
  exact bodyPost_ret (v := .agg #[.int .i64 n, .int .i64 0, .slice none 0 0]) (by simp [results, Try.results62, go_sem]) rfl ⟨rfl, below1 _ _⟩

def tX2 : T := ⟨2, 0, []⟩
def tA : T := ⟨0, 1, [tX2]⟩
def tC : T := ⟨0, 1, [zeroT]⟩

theorem put_begun : putSpec [0, 1] tA [0] zeroT = (tC, 0) := by rfl
theorem ok_A : allErr [0, 1] [tA] = 0 := by rfl
theorem ok_C : allErr [0, 1] [tC] = 0 := by rfl
theorem ok_sig : sigErr [0, 1] = 0 := by rfl
theorem vars_begun : varsSpec [0, 1] tA = [2] := by
  rw [varsSpec, if_pos ok_A, varsT, show allVars tA = [2] from rfl, List.mergeSort_singleton]
  rfl
theorem size_C : tC.sz = 2 := by rfl
theorem same_C : sameT tC tC = true := sameT_refl _

theorem Put_begun (n1 n2 n3 : Nat) (w : World) (hg : Ints w [0, 1] (some ⟨n1, 0, none⟩)) (ht : InL w [tX2] (some ⟨n2, 0, none⟩)) (hp : Ints w [0] (some ⟨n3, 0, none⟩)) :
    Calls Try.prog 24 #[.agg #[.slice (some ⟨n1, 0, none⟩) 2 2], .agg #[.int .i64 0, .int .i64 1, .slice (some ⟨n2, 0, none⟩) 1 1], .slice (some ⟨n3, 0, none⟩) 1 1, .agg #[.int .i64 0, .int .i64 0, .slice none 0 0]] w fun e w' =>
      (∃ a1 cap1, e = .returned (.tuple #[.agg #[.int .i64 0, .int .i64 1, .slice a1 1 cap1], .int .i64 0]) ∧ InL w' [zeroT] a1) ∧ Below w.heap.size w w' := by
  have h := Put_any [0, 1] (some ⟨n1, 0, none⟩) 2 tA (some ⟨n2, 0, none⟩) 1 [0] (some ⟨n3, 0, none⟩) 1 zeroT none 0 w hg ht hp InP_nil (by decide)
  rw [put_begun] at h
  exact h
theorem Size_begun (n1 : Nat) (a : Option Addr) (cap : Nat) (w : World) (hg : Ints w [0, 1] (some ⟨n1, 0, none⟩)) (ht : InL w [zeroT] a) :
    Calls Try.prog 12 #[.agg #[.slice (some ⟨n1, 0, none⟩) 2 2], .agg #[.int .i64 0, .int .i64 1, .slice a 1 cap]] w fun e w' => e = .returned (.tuple #[.int .i64 2, .int .i64 0]) ∧ Below w.heap.size w w' := by
  have h := Size_any [0, 1] (some ⟨n1, 0, none⟩) 2 tC a cap w hg ht
  rw [ok_C, if_pos rfl, size_C] at h
  exact h
theorem Vars_begun (n1 n2 : Nat) (w : World) (hg : Ints w [0, 1] (some ⟨n1, 0, none⟩)) (ht : InL w [tX2] (some ⟨n2, 0, none⟩)) :
    Calls Try.prog 13 #[.agg #[.slice (some ⟨n1, 0, none⟩) 2 2], .agg #[.int .i64 0, .int .i64 1, .slice (some ⟨n2, 0, none⟩) 1 1]] w fun e w' =>
      (∃ b off cap1, e = .returned (.tuple #[.slice (some ⟨b, off, none⟩) 1 cap1, .int .i64 0]) ∧ w'.cell? ⟨b, off, none⟩ = some (.int .i64 2)) ∧ Below w.heap.size w w' := by
  have h := Vars_any [0, 1] (some ⟨n1, 0, none⟩) 2 tA (some ⟨n2, 0, none⟩) 1 w hg ht (fun _ => by decide)
  rw [vars_begun, ok_A] at h
  refine h.mono ?_
  rintro e w' ⟨⟨a1, cap1, he, hi⟩, hb⟩
  obtain ⟨b, off, rfl, hc⟩ := Ints_some hi (by simp)
  exact ⟨⟨b, off, cap1, he, hc 0 (by simp)⟩, hb⟩
theorem Check_begun (n1 : Nat) (a : Option Addr) (cap : Nat) (w : World) (hg : Ints w [0, 1] (some ⟨n1, 0, none⟩)) (ht : InL w [zeroT] a) :
    Calls Try.prog 21 #[.agg #[.slice (some ⟨n1, 0, none⟩) 2 2], .agg #[.int .i64 0, .int .i64 1, .slice a 1 cap]] w fun e w' => e = .returned (.int .i64 0) ∧ Below w.heap.size w w' := by
  have h := Check_any [0, 1] (some ⟨n1, 0, none⟩) 2 tC a cap w hg ht
  rw [ok_C] at h
  exact h
theorem Signature_begun (n1 : Nat) (w : World) (hg : Ints w [0, 1] (some ⟨n1, 0, none⟩)) :
    Calls Try.prog 19 #[.agg #[.slice (some ⟨n1, 0, none⟩) 2 2]] w fun e w' => e = .returned (.int .i64 0) ∧ Below w.heap.size w w' := by
  have h := signature_any [0, 1] (some ⟨n1, 0, none⟩) 2 w hg
  rw [ok_sig] at h
  exact h
theorem Same_begun (a a2 : Option Addr) (cap cap2 : Nat) (w : World) (ht : InL w [zeroT] a) (ht2 : InL w [zeroT] a2) :
    Calls Try.prog 28 #[.agg #[.int .i64 0, .int .i64 1, .slice a 1 cap], .agg #[.int .i64 0, .int .i64 1, .slice a2 1 cap2]] w fun e w' => e = .returned (.bool true) ∧ Below w.heap.size w w' := by
  have h := sameTerm_any 10 tC tC a cap a2 cap2 w (by decide) (by decide) ht ht2
  rw [same_C] at h
  exact h
theorem Ints_new1 {w : World} {z : Int} {e : TypeId} {n : Nat} (hn : n = w.heap.size) : Ints (w.alloc (.cells #[.int .i64 z] e)) [z] (some ⟨n, 0, none⟩) :=
  Or.inr ⟨_, _, rfl, fun i hi => by
    have : i = 0 := by simp at hi; omega
    subst this
    exact cell_new 0 hn⟩
theorem InP_newT {p : Nat → Prop} {w : World} {v f : Int} {t : T} {n : Nat} (e : TypeId) (hn : n = w.heap.size) (hp : p w.heap.size) (ht : t = ⟨v, f, []⟩) :
    InP p (w.alloc (.cells #[.int .i64 v, .int .i64 f, .slice none 0 0] e)) [t] (some ⟨n, 0, none⟩) := by
  subst ht
  exact InP_new1 (t := ⟨v, f, []⟩) (a := none) (cap := 0) e hn hp InP_nil

attribute [local go_sem ↓] Go.wp_at_zero Go.wp_at_succ
set_option maxRecDepth 100000 in
set_option maxHeartbeats 2000000 in
theorem begun_any (w : World) : Calls Try.prog 18 #[] w fun e w' => e = .returned (.bool true) ∧ Below w.heap.size w w' := by
  go_enter Try.func18, Try.ntmps18
  go_wp2_with fail
  refine (small_any _).mono ?_
  rintro e w1 ⟨n1, rfl, hg1, hb1⟩
  go_wp2_with fail
  refine (va_any 2 _).mono ?_
  rintro e w2 ⟨rfl, hb2⟩
  go_wp2_with fail
  refine (fn_any 1 _ 1 1 _).mono ?_
  rintro e w3 ⟨rfl, hb3⟩
  go_wp2_with fail
  refine (fn_any 0 _ 0 0 _).mono ?_
  rintro e w4 ⟨rfl, hb4⟩
  have hz2 := hb2.size
  have hz3 := hb3.size
  have hz4 := hb4.size
  simp at hz3 hz4
  have hb34 : Below w3.heap.size w3 w4 := (below1 _ _).trans (hb4.mono (by simp))
  have hb24 : Below w2.heap.size w2 w4 := (below1 _ _).trans ((hb3.mono (by simp)).trans (hb34.mono (by omega)))
  have hb04 : Below w.heap.size w w4 := hb1.trans ((hb2.mono hb1.size).trans (hb24.mono (by have := hb1.size; omega)))
  have HG4 := hide (Ints_below hb24 (Ints_below hb2 hg1))
  have HT4 := hide (InP_below (hb34.mono (by omega)) (InP_below hb3 (InP_newT (p := fun _ => True) (w := w2) (t := tX2) 27 rfl trivial rfl)))
  have HP4 := hide (Ints_below hb4 (Ints_new1 (w := w3) (z := 0) (e := 3) rfl))
  go_wp2_with fail
  refine (Put_begun n1 _ _ _ HG4.out HT4.out HP4.out).mono ?_
  rintro e w5 ⟨⟨a1, cap1, rfl, hin5⟩, hb5⟩
  have hb05 : Below w.heap.size w w5 := hb04.trans (hb5.mono hb04.size)
  clear HG4 HT4 HP4 hb34 hb24 hb4 hb3 hb2 hb1 hg1 hb5
  have hS := hide (fun (w' : World) (hb : Below (w5.heap.size + 1) (w5.alloc (.cells #[.int .i64 0, .int .i64 1, .slice a1 1 cap1] 27)) w') => (show w'.cell? ⟨w5.heap.size, 0, none⟩ = some (.int .i64 0) ∧ w'.cell? ⟨w5.heap.size, 1, none⟩ = some (.int .i64 1) ∧ w'.cell? ⟨w5.heap.size, 2, none⟩ = some (.slice a1 1 cap1) from
    ⟨((Three.new 27 rfl).same (hb.block _ (by omega))).c0, ((Three.new 27 rfl).same (hb.block _ (by omega))).c1, ((Three.new 27 rfl).same (hb.block _ (by omega))).c2⟩))
  have hI := hide (fun (w' : World) (hb : Below (w5.heap.size + 1) (w5.alloc (.cells #[.int .i64 0, .int .i64 1, .slice a1 1 cap1] 27)) w') => InP_below ((below1 w5 _).trans (hb.mono (by omega))) hin5)
  have hB := hide (fun (w' : World) (hb : Below (w5.heap.size + 1) (w5.alloc (.cells #[.int .i64 0, .int .i64 1, .slice a1 1 cap1] 27)) w') => (hb05.alloc hb05.size _).trans (hb.mono (by have := hb05.size; omega)))
  clear hin5 hb05
  go_wp2_with fail
  go_region_held3 (fun w' => w'.cell? ⟨w5.heap.size, 0, none⟩ = some (.int .i64 0) ∧ w'.cell? ⟨w5.heap.size, 1, none⟩ = some (.int .i64 1) ∧ w'.cell? ⟨w5.heap.size, 2, none⟩ = some (.slice a1 1 cap1)) ((first | go_keep | exact hS.out _ (Hid.out ‹Hid (Below _ _ _)›))) ((first
    | (go_at_call 60
       refine (small_any _).mono ?_
       rintro e w6 ⟨n6, rfl, hg6, hb6⟩
       have H6 : Hid (Below (w5.heap.size + 1) (w5.alloc (.cells #[.int .i64 0, .int .i64 1, .slice a1 1 cap1] 27)) w6) := by
         have := below_undrew hb6
         simpa [Hid] using this)
    | (go_at_call 12
       refine (Size_begun n6 a1 cap1 _ hg6 (hI.out _ H6.out)).mono ?_
       rintro e w7 ⟨rfl, hb7⟩
       have H7 : Hid (Below (w5.heap.size + 1) (w5.alloc (.cells #[.int .i64 0, .int .i64 1, .slice a1 1 cap1] 27)) w7) := H6.out.trans (hb7.mono (by have := H6.out.size; simpa using this)))))
  clear H6 hg6 hb6 hb7
  go_wp2_with fail
  refine (small_any _).mono ?_
  rintro e w8 ⟨n8, rfl, hg8, hb8⟩
  go_wp2_with fail
  refine (va_any 2 _).mono ?_
  rintro e w9 ⟨rfl, hb9⟩
  go_wp2_with fail
  refine (fn_any 1 _ 1 1 _).mono ?_
  rintro e wa ⟨rfl, hba⟩
  have hz8 := hb8.size
  have hz9 := hb9.size
  have hza := hba.size
  simp at hza
  have hz7 : w5.heap.size + 1 ≤ w7.heap.size := by have := H7.out.size; simpa using this
  have hb9a : Below w9.heap.size w9 wa := (below1 _ _).trans (hba.mono (by simp))
  have HGa := hide (Ints_below hb9a (Ints_below hb9 hg8))
  have HTa := hide (InP_below hba (InP_newT (p := fun _ => True) (w := w9) (t := tX2) 27 rfl trivial rfl))
  have Ha : Hid (Below (w5.heap.size + 1) (w5.alloc (.cells #[.int .i64 0, .int .i64 1, .slice a1 1 cap1] 27)) wa) := H7.out.trans ((hb8.mono hz7).trans ((hb9.mono (by omega)).trans (hb9a.mono (by omega))))
  clear hb8 hb9 hba hb9a hg8
  go_wp2_with fail
  refine (Vars_begun n8 _ _ HGa.out HTa.out).mono ?_
  rintro e wb ⟨⟨lb, lo, lcap, rfl, hcl⟩, hbb⟩
  have Hb : Hid (Below (w5.heap.size + 1) (w5.alloc (.cells #[.int .i64 0, .int .i64 1, .slice a1 1 cap1] 27)) wb) := Ha.out.trans (hbb.mono (by omega))
  have hzb := hbb.size
  clear HGa HTa Ha hbb H7
  have hzw : w5.heap.size < wb.heap.size := by omega
  have hS4 := hide (fun (w' : World) (hb : Below wb.heap.size wb w') => (show w'.cell? ⟨w5.heap.size, 0, none⟩ = some (.int .i64 0) ∧ w'.cell? ⟨w5.heap.size, 1, none⟩ = some (.int .i64 1) ∧ w'.cell? ⟨w5.heap.size, 2, none⟩ = some (.slice a1 1 cap1) ∧ w'.cell? ⟨lb, lo, none⟩ = some (.int .i64 2) from
    ⟨by rw [hb.cell (p := ⟨w5.heap.size, 0, none⟩) hzw]; exact (hS.out wb Hb.out).1, by rw [hb.cell (p := ⟨w5.heap.size, 1, none⟩) hzw]; exact (hS.out wb Hb.out).2.1,
     by rw [hb.cell (p := ⟨w5.heap.size, 2, none⟩) hzw]; exact (hS.out wb Hb.out).2.2, by rw [hb.cell (p := ⟨lb, lo, none⟩) (lt_of_cell hcl)]; exact hcl⟩))
  have hI4 := hide (fun (w' : World) (hb : Below wb.heap.size wb w') => InP_below hb (hI.out wb Hb.out))
  have HBb := hide (hB.out wb Hb.out)
  obtain ⟨s0, s1, s2⟩ := hS.out wb Hb.out
  clear hS hI hB Hb
  go_wp2_with fail
  go_region_held3 (fun w' => w'.cell? ⟨w5.heap.size, 0, none⟩ = some (.int .i64 0) ∧ w'.cell? ⟨w5.heap.size, 1, none⟩ = some (.int .i64 1) ∧ w'.cell? ⟨w5.heap.size, 2, none⟩ = some (.slice a1 1 cap1) ∧ w'.cell? ⟨lb, lo, none⟩ = some (.int .i64 2)) ((first | (refine hS4.out _ ?_; repeat' (first | with_reducible exact Hid.out ‹Hid (Below _ _ _)› | with_reducible exact Below.refl _ _ | (with_reducible refine Below.drew ?_) | (refine Below.alloc ?_ ?_ _; rotate_left; focus (first | omega | (simp; omega) | (simp; done))))) | go_keep)) ((first
    | (go_at_call_of 61 (Value.slice none 0 0)
       refine (fn_any 0 _ 0 0 _).mono ?_
       rintro e wc ⟨rfl, hbc⟩
       have Hc : Hid (Below wb.heap.size wb wc) := below_undrew hbc
       have hzc := Hc.out.size
       clear hbc)
    | (go_at_call 61
       refine (fn_any 1 _ 1 1 _).mono ?_
       rintro e wd ⟨rfl, hbd⟩
       have HTd := hide (InP_below hbd (InP_newT (p := fun _ => True) (w := wc) (t := zeroT) 27 rfl trivial rfl))
       have hzd := hbd.size
       simp at hzd
       have Hd : Hid (Below wb.heap.size wb wd) := Hc.out.trans (((below1 wc _).trans (hbd.mono (by simp))).mono (by omega))
       clear hbd Hc)
    | (go_at_call 28
       refine (Same_begun _ _ _ _ _ (hI4.out _ Hd.out) HTd.out).mono ?_
       rintro e we ⟨rfl, hbe⟩
       have hze := hbe.size
       have He : Hid (Below wb.heap.size wb we) := Hd.out.trans (hbe.mono (by omega))
       clear hbe Hd HTd)
    | (go_at_call 21
       refine (Check_begun nf a1 cap1 _ hgf (hI4.out _ Hf.out)).mono ?_
       rintro e wg ⟨rfl, hbg⟩
       have hzg := hbg.size
       have Hg : Hid (Below wb.heap.size wb wg) := Hf.out.trans (hbg.mono (by omega))
       clear hbg Hf hgf)
    | (go_at_call 19
       refine (Signature_begun nh _ hgh).mono ?_
       rintro e wi ⟨rfl, hbi⟩
       have hzi := hbi.size
       have Hi : Hid (Below wb.heap.size wb wi) := Hh.out.trans (hbi.mono (by omega))
       clear hbi Hh hgh)
    | (go_at_call 60
       refine (small_any we).mono ?_
       rintro e wf ⟨nf, rfl, hgf, hbf⟩
       have hzf := hbf.size
       have Hf : Hid (Below wb.heap.size wb wf) := He.out.trans (hbf.mono (by omega))
       clear hbf He)
    | (go_at_call 60
       refine (small_any wg).mono ?_
       rintro e wh ⟨nh, rfl, hgh, hbh⟩
       have hzh := hbh.size
       have Hh : Hid (Below wb.heap.size wb wh) := Hg.out.trans (hbh.mono (by omega))
       clear hbh Hg)))
  go_wp2_with fail
  go_ret
  exact ⟨rfl, HBb.out.trans (Hi.out.mono (by have := HBb.out.size; omega))⟩

end Go.Proofs.Ytbkedppkdhfpoaa

namespace Go.Proofs.Ytbkedppkdhfpoaa
open Go.RowKit

/-- What is put is there. -/
theorem atT_putT {u : T} : ∀ {p : List Int} {t c : T}, atT t p = some c → atT (putT u t p) p = some u := by
  intro p
  induction p with
  | nil => intro t c _; rfl
  | cons i p ih =>
    intro t c h
    rw [atT] at h
    by_cases hi : 0 ≤ i ∧ i < t.args.length
    · rw [if_pos hi] at h
      obtain ⟨d, hd, hc⟩ := Option.bind_eq_some_iff.1 h
      rw [putT_at hd, atT]
      have hlt : i.toNat < t.args.length := by omega
      have h2 : 0 ≤ i ∧ i < ((⟨t.v, t.f, t.args.set i.toNat (putT u d p)⟩ : T).args.length : Int) := by simpa using hi
      rw [if_pos h2]
      show ((t.args.set i.toNat (putT u d p))[i.toNat]?).bind _ = _
      rw [List.getElem?_set_self (by omega)]
      exact ih hc
    · rw [if_neg hi] at h; cases h

/-- What was there put back makes what it was. -/
theorem putT_putT {u : T} : ∀ {p : List Int} {t c : T}, atT t p = some c → putT c (putT u t p) p = t := by
  intro p
  induction p with
  | nil =>
    intro t c h
    simp only [atT, Option.some.injEq] at h
    subst h; rfl
  | cons i p ih =>
    intro t c h
    rw [atT] at h
    by_cases hi : 0 ≤ i ∧ i < t.args.length
    · rw [if_pos hi] at h
      obtain ⟨d, hd, hc⟩ := Option.bind_eq_some_iff.1 h
      rw [putT_at hd]
      have hlt : i.toNat < t.args.length := by omega
      rw [putT_at (t := ⟨t.v, t.f, t.args.set i.toNat (putT u d p)⟩) (c := putT u d p) (List.getElem?_set_self (by omega)), ih hc]
      have hd2 : t.args[i.toNat] = d := by
        rw [List.getElem?_eq_getElem hlt] at hd
        exact Option.some.inj hd
      cases t
      simp only [List.set_set]
      congr 1
      rw [← hd2, List.set_getElem_self]
    · rw [if_neg hi] at h; cases h

/-- How big what is put is. -/
theorem putT_sz {u : T} : ∀ {p : List Int} {t c : T}, atT t p = some c → (putT u t p).sz + c.sz = t.sz + u.sz := by
  intro p
  induction p with
  | nil =>
    intro t c h
    simp only [atT, Option.some.injEq] at h
    subst h
    show u.sz + t.sz = _
    omega
  | cons i p ih =>
    intro t c h
    rw [atT] at h
    by_cases hi : 0 ≤ i ∧ i < t.args.length
    · rw [if_pos hi] at h
      obtain ⟨d, hd, hc⟩ := Option.bind_eq_some_iff.1 h
      rw [putT_at hd]
      have hlt : i.toNat < t.args.length := by omega
      have h1 := ih hc
      have h2 : T.sz.szL (t.args.set i.toNat (putT u d p)) + d.sz = T.sz.szL t.args + (putT u d p).sz := by
        have e1 : t.args.set i.toNat (putT u d p) = t.args.take i.toNat ++ putT u d p :: t.args.drop (i.toNat + 1) := List.set_eq_take_append_cons_drop.trans (by rw [if_pos hlt])
        have e2 : t.args = t.args.take i.toNat ++ d :: t.args.drop (i.toNat + 1) := by
          have hd2 : t.args[i.toNat] = d := by
            rw [List.getElem?_eq_getElem hlt] at hd
            exact Option.some.inj hd
          rw [← hd2, List.getElem_cons_drop, List.take_append_drop]
        have e3 : T.sz.szL t.args = T.sz.szL (t.args.take i.toNat) + (d.sz + T.sz.szL (t.args.drop (i.toNat + 1))) := by
          rw [← T.szL_cons, ← T.szL_append, ← e2]
        rw [e1, T.szL_append, T.szL_cons, e3]; omega
      rw [T.sz_eq, T.sz_eq t]
      show 1 + T.sz.szL (t.args.set i.toNat (putT u d p)) + c.sz = _
      omega
    · rw [if_neg hi] at h; cases h

/-- Every part is right. -/
def okP (ar : List Int) : T → Prop
  | ⟨v, f, args⟩ => partErr ar v f args.length = 0 ∧ okL args
  where
  okL : List T → Prop
    | [] => True
    | t :: ts => okP ar t ∧ okL ts
theorem okP_iff {ar : List Int} {t : T} : okP ar t ↔ partErr ar t.v t.f t.args.length = 0 ∧ okP.okL ar t.args := by cases t; exact Iff.rfl
theorem okL_cons {ar : List Int} {t : T} {ts : List T} : okP.okL ar (t :: ts) ↔ okP ar t ∧ okP.okL ar ts := Iff.rfl
theorem okL_mem {ar : List Int} {ts : List T} : okP.okL ar ts ↔ ∀ t, t ∈ ts → okP ar t := by
  induction ts with
  | nil => simp [okP.okL]
  | cons t ts ih => rw [okL_cons, ih]; simp

theorem look_ok {ar : List Int} : ∀ (n : Nat), (∀ (t : T) (s : Int), t.sz ≤ n → okP ar t → lookT (partStep ar) s t = (0, true)) ∧ (∀ (ts : List T) (s : Int), T.sz.szL ts ≤ n → okP.okL ar ts → ∃ s', lookT.lookL (partStep ar) s ts = (s', true) ∧ (ts ≠ [] → s' = 0)) := by
  intro n
  induction n with
  | zero =>
    refine ⟨fun t s hn => by have := t.sz_pos; omega, fun ts s hn _ => ?_⟩
    cases ts with
    | nil => exact ⟨s, rfl, fun h => absurd rfl h⟩
    | cons t ts => have := t.sz_pos; rw [T.szL_cons] at hn; omega
  | succ n ih =>
    have h1 : ∀ (t : T) (s : Int), t.sz ≤ n + 1 → okP ar t → lookT (partStep ar) s t = (0, true) := fun t s hn hok => by
      rw [T.sz_eq] at hn
      obtain ⟨hp, hl⟩ := okP_iff.1 hok
      obtain ⟨s', hs', _⟩ := ih.2 t.args s (by omega) hl
      rw [lookT_eq, hs']
      simp [partStep, hp]
    refine ⟨h1, fun ts => ?_⟩
    induction ts with
    | nil => intro s _ _; exact ⟨s, rfl, fun h => absurd rfl h⟩
    | cons t ts iht =>
      intro s hn hok
      rw [T.szL_cons] at hn
      obtain ⟨hp, hl⟩ := okL_cons.1 hok
      rw [lookL_cons, h1 t s (by omega) hp]
      obtain ⟨s', hs', h0⟩ := iht 0 (by omega) hl
      refine ⟨s', by simpa using hs', fun _ => ?_⟩
      cases ts with
      | nil => rw [lookL_nil] at hs'; simp at hs'; exact hs'.symm
      | cons a b => exact h0 (by simp)

theorem look_not {ar : List Int} : ∀ (n : Nat), (∀ (t : T) (s : Int), t.sz ≤ n → ((lookT (partStep ar) s t).2 = true → okP ar t) ∧ ((lookT (partStep ar) s t).2 = false → (lookT (partStep ar) s t).1 ≠ 0)) ∧
    (∀ (ts : List T) (s : Int), T.sz.szL ts ≤ n → ((lookT.lookL (partStep ar) s ts).2 = true → okP.okL ar ts) ∧ ((lookT.lookL (partStep ar) s ts).2 = false → (lookT.lookL (partStep ar) s ts).1 ≠ 0)) := by
  intro n
  induction n with
  | zero =>
    refine ⟨fun t s hn => by have := t.sz_pos; omega, fun ts s hn => ?_⟩
    cases ts with
    | nil => exact ⟨fun _ => trivial, fun h => by cases h⟩
    | cons t ts => have := t.sz_pos; rw [T.szL_cons] at hn; omega
  | succ n ih =>
    have h1 : ∀ (t : T) (s : Int), t.sz ≤ n + 1 → ((lookT (partStep ar) s t).2 = true → okP ar t) ∧ ((lookT (partStep ar) s t).2 = false → (lookT (partStep ar) s t).1 ≠ 0) := fun t s hn => by
      rw [T.sz_eq] at hn
      obtain ⟨h2, h3⟩ := ih.2 t.args s (by omega)
      rw [lookT_eq]
      by_cases h : (lookT.lookL (partStep ar) s t.args).2 = false
      · rw [if_pos h]
        exact ⟨fun h' => (by cases h'), fun _ => h3 h⟩
      · rw [if_neg h]
        have hl := h2 (by simpa using h)
        refine ⟨fun h' => okP_iff.2 ⟨by simpa [partStep] using h', hl⟩, fun h' => by simpa [partStep] using h'⟩
    refine ⟨h1, fun ts => ?_⟩
    induction ts with
    | nil => intro s _; exact ⟨fun _ => trivial, fun h => by cases h⟩
    | cons t ts iht =>
      intro s hn
      rw [T.szL_cons] at hn
      obtain ⟨h2, h3⟩ := h1 t s (by omega)
      obtain ⟨h4, h5⟩ := iht (lookT (partStep ar) s t).1 (by omega)
      rw [lookL_cons]
      by_cases h : (lookT (partStep ar) s t).2 = false
      · rw [if_pos h]
        exact ⟨fun h' => (by cases h'), fun _ => h3 h⟩
      · rw [if_neg h]
        exact ⟨fun h' => okL_cons.2 ⟨h2 (by simpa using h), h4 h'⟩, h5⟩

theorem termErr_iff {ar : List Int} {t : T} : termErr ar t = 0 ↔ t.sz ≤ 120 ∧ okP ar t := by
  rw [termErr]
  by_cases h : 120 < t.sz
  · rw [if_pos h]; constructor
    · intro h'; cases h'
    · intro h'; omega
  · rw [if_neg h]
    constructor
    · intro h'
      refine ⟨by omega, ?_⟩
      obtain ⟨h2, h3⟩ := (look_not (ar := ar) _).2 [t] 0 (Nat.le_refl _)
      rcases Bool.eq_false_or_eq_true (lookT.lookL (partStep ar) 0 [t]).2 with h4 | h4
      · exact (okL_cons.1 (h2 h4)).1
      · exact absurd h' (h3 h4)
    · intro h'
      obtain ⟨s', hs', h0⟩ := (look_ok (ar := ar) _).2 [t] 0 (Nat.le_refl _) (okL_cons.2 ⟨h'.2, trivial⟩)
      rw [hs', h0 (by simp)]

theorem allErr_iff {ar : List Int} {ts : List T} : allErr ar ts = 0 ↔ sigErr ar = 0 ∧ ∀ t, t ∈ ts → t.sz ≤ 120 ∧ okP ar t := by
  have h1 : termsErr ar ts = 0 ↔ ∀ t, t ∈ ts → t.sz ≤ 120 ∧ okP ar t := by
    induction ts with
    | nil => simp [termsErr]
    | cons t ts ih =>
      rw [termsErr]
      by_cases h : termErr ar t = 0
      · rw [if_pos h, ih]; simp [termErr_iff.1 h]
      · rw [if_neg h]
        constructor
        · intro h'; exact absurd h' h
        · intro h'; exact absurd (termErr_iff.2 (h' t (by simp))) h
  rw [allErr]
  by_cases hs : sigErr ar = 0
  · rw [if_pos hs, h1]; simp [hs]
  · rw [if_neg hs]; simp [hs]

theorem okP_at {ar : List Int} : ∀ {p : List Int} {t c : T}, atT t p = some c → okP ar t → okP ar c := by
  intro p
  induction p with
  | nil => intro t c h hok; simp only [atT, Option.some.injEq] at h; subst h; exact hok
  | cons i p ih =>
    intro t c h hok
    rw [atT] at h
    by_cases hi : 0 ≤ i ∧ i < t.args.length
    · rw [if_pos hi] at h
      obtain ⟨d, hd, hc⟩ := Option.bind_eq_some_iff.1 h
      exact ih hc (okL_mem.1 (okP_iff.1 hok).2 d (List.mem_of_getElem? hd))
    · rw [if_neg hi] at h; cases h

theorem okP_put {ar : List Int} {u : T} (hu : okP ar u) : ∀ {p : List Int} {t c : T}, atT t p = some c → okP ar t → okP ar (putT u t p) := by
  intro p
  induction p with
  | nil => intro t c _ _; exact hu
  | cons i p ih =>
    intro t c h hok
    rw [atT] at h
    by_cases hi : 0 ≤ i ∧ i < t.args.length
    · rw [if_pos hi] at h
      obtain ⟨d, hd, hc⟩ := Option.bind_eq_some_iff.1 h
      obtain ⟨hp, hl⟩ := okP_iff.1 hok
      rw [putT_at hd]
      refine okP_iff.2 ⟨?_, okL_mem.2 fun x hx => ?_⟩
      · show partErr ar t.v t.f (t.args.set i.toNat (putT u d p)).length = 0
        rw [List.length_set]; exact hp
      · rcases List.mem_or_eq_of_mem_set hx with hx | rfl
        · exact okL_mem.1 hl x hx
        · exact ih hc (okL_mem.1 hl d (List.mem_of_getElem? hd))
    · rw [if_neg hi] at h; cases h

theorem back_facts {ar : List Int} {t u : T} {place : List Int} (h1 : (atSpec ar t place).2 = 0) (h2 : (putSpec ar t place u).2 = 0) :
    ∃ c, atSpec ar t place = (c, 0) ∧ putSpec ar t place u = (putT u t place, 0) ∧ atSpec ar (putT u t place) place = (u, 0) ∧ putSpec ar (putT u t place) place c = (t, 0) ∧ u.sz ≤ 120 ∧ t.sz ≤ 120 := by
  have h3 : allErr ar [t, u] = 0 := by
    rcases Classical.em (allErr ar [t, u] = 0) with h | h
    · exact h
    · rw [putSpec, if_neg h] at h2; exact h2
  have hx := allErr_iff.1 h3
  have ht := hx.2 t (by simp)
  have hu := hx.2 u (by simp)
  have h4 : allErr ar [t] = 0 := allErr_iff.2 ⟨hx.1, fun x hx' => by simp at hx'; subst hx'; exact ht⟩
  rw [putSpec, if_pos h3] at h2
  cases hat : atT t place with
  | none => rw [hat] at h2; cases h2
  | some c =>
    rw [hat] at h2
    have h5 : ¬ 120 < (t.sz : Int) - c.sz + u.sz := by
      intro h
      simp only [if_pos h] at h2
      cases h2
    have hsz := putT_sz (u := u) hat
    have hc := atT_sz hat
    have hokx := okP_put hu.2 hat ht.2
    have hxok : (putT u t place).sz ≤ 120 ∧ okP ar (putT u t place) := ⟨by omega, hokx⟩
    have hcok : c.sz ≤ 120 ∧ okP ar c := ⟨by omega, okP_at hat ht.2⟩
    refine ⟨c, ?_, ?_, ?_, ?_, hu.1, ht.1⟩
    · rw [atSpec, if_pos h4, hat]
    · rw [putSpec, if_pos h3, hat]; simp only [if_neg h5]
    · rw [atSpec, if_pos (allErr_iff.2 ⟨hx.1, fun x hx' => by simp at hx'; subst hx'; exact hxok⟩), atT_putT hat]
    · rw [putSpec, if_pos (allErr_iff.2 ⟨hx.1, fun x hx' => by
        simp at hx'
        rcases hx' with rfl | rfl
        · exact hxok
        · exact hcok⟩), atT_putT hat]
      have h6 : ¬ 120 < ((putT u t place).sz : Int) - u.sz + c.sz := by omega
      simp only [if_neg h6, putT_putT hat]

set_option maxRecDepth 100000 in
set_option maxHeartbeats 1000000 in
theorem TermBack_any (ar : List Int) (ga : Option Addr) (gcap : Nat) (t : T) (a : Option Addr) (cap : Nat) (place : List Int) (pa : Option Addr) (pcap : Nat) (u : T) (a2 : Option Addr) (cap2 : Nat) (w : World) (hg : Ints w ar ga) (hin : InL w t.args a) (hp : Ints w place pa)
    (hin2 : InL w u.args a2) (hl : place.length ≤ 9223372036854775807) :
    Calls Try.prog 5 #[.agg #[.slice ga ar.length gcap], .agg #[.int .i64 t.v, .int .i64 t.f, .slice a t.args.length cap], .slice pa place.length pcap, .agg #[.int .i64 u.v, .int .i64 u.f, .slice a2 u.args.length cap2]] w fun e w' =>
      e = .returned (.bool true) ∧ Below w.heap.size w w' := by
  go_enter Try.func5, Try.ntmps5
  go_wp2_with fail
  refine (begun_any _).mono ?_
  rintro e w1 ⟨rfl, hb1⟩
  have hbw : Below w.heap.size w w1 := (((below1 _ _).alloc (by simp) _).alloc (by simp; omega) _).trans (hb1.mono (by simp; omega))
  have hz1 : w.heap.size + 3 ≤ w1.heap.size := by have := hb1.size; simp at this; omega
  have cg : w1.cell? ⟨w.heap.size, 0, none⟩ = some (.slice ga ar.length gcap) := by
    rw [hb1.cell (p := ⟨w.heap.size, 0, none⟩) (by simp; omega), cell_alloc_lt (by simp; omega), cell_alloc_lt (by simp), cell_new _ rfl]; rfl
  have h3t : Three w1 (w.heap.size + 1) (.int .i64 t.v) (.int .i64 t.f) (.slice a t.args.length cap) := ((Three.new _ (by simp)).alloc _).below hb1
  have h3u : Three w1 (w.heap.size + 1 + 1) (.int .i64 u.v) (.int .i64 u.f) (.slice a2 u.args.length cap2) := (Three.new _ (by simp)).below hb1
  have H3t := hide h3t
  have H3u := hide h3u
  obtain ⟨c0, c1, c2, _, _, _⟩ := h3t
  obtain ⟨d0, d1, d2, _, _, _⟩ := h3u
  clear hb1
  obtain ⟨z, k, hzk⟩ : ∃ z k, atSpec ar t place = (z, k) := ⟨_, _, rfl⟩
  obtain ⟨x, l, hxl⟩ : ∃ x l, putSpec ar t place u = (x, l) := ⟨_, _, rfl⟩
  have hA1 := At_any ar ga gcap t a cap place pa pcap w1 (Ints_below hbw hg) (InP_below hbw hin) (Ints_below hbw hp) hl
  rw [hzk] at hA1
  have HA1 := hide hA1
  have Hzk := hide hzk
  have Hxl := hide hxl
  clear hA1 hzk hxl
  go_wp2_with fail
  refine HA1.out.mono ?_
  rintro e w2 ⟨⟨a3, cap3, rfl, hin3⟩, hb2⟩
  have hz2 := hb2.size
  have hbw2 : Below w.heap.size w w2 := hbw.trans (hb2.mono (by omega))
  have cg2 : w2.cell? ⟨w.heap.size, 0, none⟩ = some (.slice ga ar.length gcap) := by rw [hb2.cell (p := ⟨w.heap.size, 0, none⟩) (show w.heap.size < w1.heap.size by omega)]; exact cg
  have H3t2 := hide (H3t.out.below hb2)
  have H3u2 := hide (H3u.out.below hb2)
  obtain ⟨e0, e1, e2, _, _, _⟩ := H3t2.out
  obtain ⟨f0, f1, f2, _, _, _⟩ := H3u2.out
  have hq0 : w.heap.size < w2.heap.size := by omega
  have hq1 : w.heap.size + 1 < w2.heap.size := by omega
  have hq2 : w.heap.size + 1 + 1 < w2.heap.size := by omega
  have hbz : ∀ o, Below w.heap.size w (w2.alloc o) := fun o => hbw2.alloc (by omega) o
  have hP1 : ∀ o, _ := fun o => Put_any ar ga gcap t a cap place pa pcap u a2 cap2 (w2.alloc o) (Ints_below (hbz o) hg) (InP_below (hbz o) hin) (Ints_below (hbz o) hp) (InP_below (hbz o) hin2) hl
  rw [Hxl.out] at hP1
  have HP1 := hide hP1
  clear hP1 hbz HA1 cg c0 c1 c2 d0 d1 d2
  simp only at hin3
  go_wp2_with fail
  refine (HP1.out _).mono ?_
  rintro e w3 ⟨⟨a4, cap4, rfl, hin4⟩, hb3⟩
  have hz3 := hb3.size
  simp at hz3
  have hb23 : Below w2.heap.size w2 w3 := (below1 _ _).trans (hb3.mono (by simp))
  have hbw3 : Below w.heap.size w w3 := hbw2.trans (hb23.mono (by omega))
  have H3w : Hid (Three w3 w2.heap.size (.int .i64 z.v) (.int .i64 z.f) (.slice a3 z.args.length cap3)) := (Three.new 27 rfl).below hb3
  have hinz := InP_below hb23 hin3
  simp only at hin4
  by_cases hk : k = 0
  · subst hk
    by_cases hl0 : l = 0
    · subst hl0
      obtain ⟨c, g1, g2, g3, g4, hu120, ht120⟩ := back_facts (ar := ar) (t := t) (u := u) (place := place) (by rw [Hzk.out]) (by rw [Hxl.out])
      have ez : z = c := by have := Hzk.out.symm.trans g1; simpa using this
      have ex : x = putT u t place := by have := Hxl.out.symm.trans g2; simpa using this
      subst ez
      rw [← ex] at g3 g4
      have G3 := hide g3
      have G4 := hide g4
      have cg3 : w3.cell? ⟨w.heap.size, 0, none⟩ = some (.slice ga ar.length gcap) := by rw [hb23.cell (p := ⟨w.heap.size, 0, none⟩) hq0]; exact cg2
      obtain ⟨m0, m1, m2, _, _, _⟩ := H3w.out
      clear g1 g2 g3 g4 ex e0 e1 e2 f0 f1 f2 cg2 HP1
      have hr0 : w.heap.size < w3.heap.size := by omega
      have hr1 : w2.heap.size < w3.heap.size := by omega
      have hbz : ∀ o, Below w.heap.size w (w3.alloc o) := fun o => hbw3.alloc (by omega) o
      have hA2 : ∀ o, _ := fun o => At_any ar ga gcap x a4 cap4 place pa pcap (w3.alloc o) (Ints_below (hbz o) hg) (InP_alloc o hin4) (Ints_below (hbz o) hp) hl
      rw [G3.out] at hA2
      have HA2 := hide hA2
      clear hA2 hbz
      go_wp2_with fail
      refine (HA2.out _).mono ?_
      rintro e w4 ⟨⟨a5, cap5, rfl, hin5⟩, hb4⟩
      have hz4 := hb4.size
      simp at hz4
      have hb34 : Below w3.heap.size w3 w4 := (below1 _ _).trans (hb4.mono (by simp))
      have hb24 : Below w2.heap.size w2 w4 := hb23.trans (hb34.mono (by omega))
      have hbw4 : Below w.heap.size w w4 := hbw3.trans (hb34.mono (by omega))
      have H3x4 : Hid (Three w4 w3.heap.size (.int .i64 x.v) (.int .i64 x.f) (.slice a4 x.args.length cap4)) := (Three.new 27 rfl).below hb4
      have H3w4 : Hid (Three w4 w2.heap.size (.int .i64 z.v) (.int .i64 z.f) (.slice a3 z.args.length cap3)) := H3w.out.below hb34
      have cg4 : w4.cell? ⟨w.heap.size, 0, none⟩ = some (.slice ga ar.length gcap) := by rw [hb34.cell (p := ⟨w.heap.size, 0, none⟩) hr0]; exact cg3
      obtain ⟨p0, p1, p2, _, _, _⟩ := H3x4.out
      obtain ⟨q0, q1, q2, _, _, _⟩ := H3w4.out
      have hs0 : w.heap.size < w4.heap.size := by omega
      have hs2 : w2.heap.size < w4.heap.size := by omega
      have hs3 : w3.heap.size < w4.heap.size := by omega
      have hbz : ∀ o, Below w.heap.size w (w4.alloc o) := fun o => hbw4.alloc (by omega) o
      have hP2 : ∀ o, _ := fun o => Put_any ar ga gcap x a4 cap4 place pa pcap z a3 cap3 (w4.alloc o) (Ints_below (hbz o) hg) (InP_alloc o (InP_below hb34 hin4)) (Ints_below (hbz o) hp) (InP_alloc o (InP_below hb34 hinz)) hl
      rw [G4.out] at hP2
      have HP2 := hide hP2
      simp only at hin5
      clear hP2 hbz HA2 m0 m1 m2 cg3 G3 G4
      go_wp2_with fail
      refine (HP2.out _).mono ?_
      rintro e w5 ⟨⟨a6, cap6, rfl, hin6⟩, hb5⟩
      have hz5 := hb5.size
      simp at hz5
      have hb45 : Below w4.heap.size w4 w5 := (below1 _ _).trans (hb5.mono (by simp))
      have hbw5 : Below w.heap.size w w5 := hbw4.trans (hb45.mono (by omega))
      have hb25 : Below w2.heap.size w2 w5 := hb24.trans (hb45.mono (by omega))
      have H3i5 : Hid (Three w5 w4.heap.size (.int .i64 u.v) (.int .i64 u.f) (.slice a5 u.args.length cap5)) := (Three.new 27 rfl).below hb5
      have H3t5 := hide (H3t2.out.below hb25)
      have H3u5 := hide (H3u2.out.below hb25)
      obtain ⟨i0, i1, i2, _, _, _⟩ := H3i5.out
      obtain ⟨t0, t1, t2, _, _, _⟩ := H3t5.out
      obtain ⟨u0, u1, u2, _, _, _⟩ := H3u5.out
      have hv1 : w.heap.size + 1 < w5.heap.size := by omega
      have hv2 : w.heap.size + 1 + 1 < w5.heap.size := by omega
      have hv4 : w4.heap.size < w5.heap.size := by omega
      simp only at hin6
      have HS1 := hide (fun o => sameTerm_any 121 u u a5 cap5 a2 cap2 (w5.alloc o) (by omega) (by omega) (InP_alloc o (InP_below hb45 hin5)) (InP_alloc o (InP_below hbw5 hin2)))
      have HIy := hide hin6
      clear p0 p1 p2 q0 q1 q2 cg4 HP2 hb5
      rw [sameT_refl] at HS1
      go_wp2_with fail
      refine (HS1.out _).mono ?_
      rintro e w6 ⟨rfl, hb6⟩
      have hz6 := hb6.size
      simp at hz6
      have hb56 : Below w5.heap.size w5 w6 := (below1 _ _).trans (hb6.mono (by simp))
      have hbw6 : Below w.heap.size w w6 := hbw5.trans (hb56.mono (by omega))
      have H3y6 : Hid (Three w6 w5.heap.size (.int .i64 t.v) (.int .i64 t.f) (.slice a6 t.args.length cap6)) := (Three.new 27 rfl).below hb6
      have H3t6 := hide (H3t5.out.below hb56)
      obtain ⟨y0, y1, y2, _, _, _⟩ := H3y6.out
      obtain ⟨v0, v1, v2, _, _, _⟩ := H3t6.out
      have HS2 := hide (sameTerm_any 121 t t a6 cap6 a cap w6 (by omega) (by omega) (InP_below hb56 HIy.out) (InP_below hbw6 hin))
      rw [sameT_refl] at HS2
      clear HS1 hb6
      go_wp2_with fail
      refine HS2.out.mono ?_
      rintro e w7 ⟨rfl, hb7⟩
      go_wp2_with fail
      go_ret
      exact ⟨rfl, hbw6.trans (hb7.mono (by omega))⟩
    · have hl1 : (l != 0) = true := by simpa using hl0
      clear hl0
      go_wp2_with fail
      go_ret
      exact ⟨rfl, hbw3.alloc (by omega) _⟩
  · have hk1 : (k != 0) = true := by simpa using hk
    clear hk
    go_wp2_with fail
    go_ret
    exact ⟨rfl, hbw3.alloc (by omega) _⟩

end Go.Proofs.Ytbkedppkdhfpoaa

namespace Go.Proofs.Ytbkedppkdhfpoaa
open Go.RowKit

/-- The document's own putting: no number of a variable is kept on the way. -/
def putR (u : T) : T → List Int → T
  | _, [] => u
  | t, i :: p => ⟨0, t.f, t.args.mapIdx fun k c => if (k : Int) = i then putR u c p else c⟩

/-- Three cells a term, and its arguments. -/
def Kids (p : Nat → Prop) (w : World) : List T → List Value → Prop
  | [], cs => cs = []
  | t :: ts, cs => ∃ a cap rest, cs = .int .i64 t.v :: .int .i64 t.f :: .slice a t.args.length cap :: rest ∧ InP p w t.args a ∧ Kids p w ts rest
theorem Kids_append {p : Nat → Prop} {w : World} {ts us : List T} : ∀ {cs ds : List Value}, Kids p w ts cs → Kids p w us ds → Kids p w (ts ++ us) (cs ++ ds) := by
  induction ts with
  | nil => intro cs ds h1 h2; rw [show cs = [] from h1]; exact h2
  | cons t ts ih =>
    intro cs ds h1 h2
    obtain ⟨a, cap, rest, rfl, h0, h⟩ := h1
    exact ⟨a, cap, rest ++ ds, rfl, h0, ih h h2⟩
theorem Kids_mono {p q : Nat → Prop} {w w' : World} {ts : List T} (hs : ∀ k, p k → k < w.heap.size → q k ∧ w'.heap[k]? = w.heap[k]?) : ∀ {cs : List Value}, Kids p w ts cs → Kids q w' ts cs := by
  induction ts with
  | nil => intro cs h; exact h
  | cons t ts ih =>
    intro cs h
    obtain ⟨a, cap, rest, rfl, h0, h⟩ := h
    exact ⟨a, cap, rest, rfl, InP_mono (fun b o v hp hv => ⟨(hs b hp (lt_of_cell hv)).1, by rw [World.cell?_of_block (w := w) (a := ⟨b, o, none⟩) (hs b hp (lt_of_cell hv)).2]; exact hv⟩) _ _ _ (Nat.le_refl _) h0, ih h⟩

/-- A list of the call's own that holds these terms; nothing that lies behind them lies in the list's own block. -/
def Outs (q : Nat → Prop) (base : Nat) (w : World) (l : Value) (ts : List T) : Prop :=
  ∃ xs, w.ownsRow base 27 3 l ts.length xs ∧ Kids (fun k => (q k ∨ base ≤ k) ∧ l.ownBlock ≠ some k) w ts xs

theorem Outs_nil {q : Nat → Prop} {base : Nat} {w : World} : Outs q base w (.slice none 0 0) [] := ⟨[], ⟨rfl, Or.inl ⟨rfl, rfl⟩⟩, rfl⟩
theorem Outs_same {q : Nat → Prop} {base : Nat} {w w' : World} {l : Value} {ts : List T} (h : Outs q base w l ts) (hs : ∀ k, (q k ∨ base ≤ k) → k < w.heap.size → w'.heap[k]? = w.heap[k]?) : Outs q base w' l ts := by
  obtain ⟨xs, h1, h2⟩ := h
  exact ⟨xs, own_same h1 (fun g hg => hs g (Or.inr (own_lt h1 g hg).1) (own_lt h1 g hg).2), Kids_mono (fun k hk hlt => ⟨hk, hs k hk.1 hlt⟩) h2⟩
theorem Outs_below {q : Nat → Prop} {base : Nat} {w w' : World} {l : Value} {ts : List T} (h : Outs q base w l ts) (hb : Below w.heap.size w w') : Outs q base w' l ts := Outs_same h (fun k _ hk => hb.block k hk)
theorem Outs_step {q : Nat → Prop} {base : Nat} {w w' : World} {l : Value} {ts : List T} {c : T} {xs : List Value} {a : Option Addr} {cap g cap2 : Nat} (hk : Kids (fun k => (q k ∨ base ≤ k) ∧ l.ownBlock ≠ some k) w ts xs)
    (hc : InP (fun k => (q k ∨ base ≤ k) ∧ l.ownBlock ≠ some k) w c.args a)
    (hown : w'.ownsRow base 27 3 (.slice (some ⟨g, 0, none⟩) (ts.length + 1) cap2) (ts.length + 1) (xs ++ [.int .i64 c.v, .int .i64 c.f, .slice a c.args.length cap])) (hg : w.grownBy w' l.ownBlock) (hat : l.ownBlock = some g ∨ g = w.heap.size) :
    Outs q base w' (.slice (some ⟨g, 0, none⟩) (ts.length + 1) cap2) (ts ++ [c]) := by
  refine ⟨_, by rw [List.length_append]; exact hown, Kids_mono (p := fun k => (q k ∨ base ≤ k) ∧ l.ownBlock ≠ some k) (w := w) (fun k hp hlt => ⟨⟨hp.1, ?_⟩, hg.block k hlt (fun e => hp.2 e.symm)⟩) (Kids_append hk ⟨a, cap, [], rfl, hc, rfl⟩)⟩
  rcases hat with hat | hat
  · rw [show (Value.slice (some ⟨g, 0, none⟩) (ts.length + 1) cap2).ownBlock = some g from rfl, ← hat]; exact hp.2
  · show some g ≠ some k
    intro e; cases e; omega
theorem Kids_in {p : Nat → Prop} {w : World} {g : Nat} (hpg : p g) {ts : List T} : ∀ {off : Nat} {cs : List Value}, Kids p w ts cs → (∀ j u, cs[j]? = some u → w.cell? ⟨g, off + j, none⟩ = some u) → InP p w ts (some ⟨g, off, none⟩) := by
  induction ts with
  | nil => intro off cs _ _; exact InP_nil
  | cons t ts ih =>
    intro off cs h hc
    obtain ⟨a, cap, rest, rfl, h0, h⟩ := h
    refine InP_cons.2 ⟨g, off, .slice a t.args.length cap, rfl, hpg, hc 0 _ rfl, hc 1 _ rfl, hc 2 _ rfl, In_iff.2 ⟨a, cap, rfl, h0⟩, ih h fun j u hu => ?_⟩
    rw [show off + 3 + j = off + (j + 3) from by omega]
    exact hc (j + 3) u (by simpa using hu)
theorem Outs_end {q : Nat → Prop} {base : Nat} {w : World} {l : Value} {ts : List T} (h : Outs q base w l ts) : ∃ a cap, l = .slice a ts.length cap ∧ InP (fun k => q k ∨ base ≤ k) w ts a := by
  obtain ⟨xs, h1, h2⟩ := h
  by_cases h0 : 0 < ts.length
  · obtain ⟨g, cap, rfl, hb, hlt, hcell⟩ := own_cells h1 h0
    exact ⟨_, cap, rfl, Kids_in (Or.inr hb) (Kids_mono (fun k hk _ => ⟨hk.1, rfl⟩) h2) (fun j u hu => by rw [Nat.zero_add]; exact hcell j u hu)⟩
  · obtain ⟨a, c, rfl⟩ := own_shape h1
    have : ts = [] := List.length_eq_zero_iff.1 (by omega)
    subst this
    exact ⟨a, c, rfl, InP_nil⟩

/-- Where all is right, the document's putting is the program's. -/
theorem putR_putT {ar : List Int} {u : T} : ∀ {p : List Int} {t c : T}, atT t p = some c → okP ar t → putR u t p = putT u t p := by
  intro p
  induction p with
  | nil => intro t c _ _; rfl
  | cons i p ih =>
    intro t c h hok
    rw [atT] at h
    by_cases hi : 0 ≤ i ∧ i < t.args.length
    · rw [if_pos hi] at h
      obtain ⟨d, hd, hc⟩ := Option.bind_eq_some_iff.1 h
      obtain ⟨hp, hl⟩ := okP_iff.1 hok
      have hlt : i.toNat < t.args.length := by omega
      have hv : t.v = 0 := by
        rcases Classical.em (t.v = 0) with h0 | h0
        · exact h0
        · rw [partErr_var h0, varErr] at hp
          split at hp
          · cases hp
          · split at hp
            · cases hp
            · omega
      rw [putT_at hd, putR, hv]
      congr 1
      apply List.ext_getElem?
      intro k
      rw [List.getElem?_mapIdx, List.getElem?_set]
      by_cases hk : i.toNat = k
      · subst hk
        rw [if_pos rfl, if_pos hlt, hd]
        simp only [Option.map_some]
        rw [if_pos (by omega), ih hc (okL_mem.1 hl d (List.mem_of_getElem? hd))]
      · rw [if_neg hk]
        cases hk2 : t.args[k]? with
        | none => rfl
        | some y =>
          simp only [Option.map_some]
          rw [if_neg (by omega)]
    · rw [if_neg hi] at h; cases h

end Go.Proofs.Ytbkedppkdhfpoaa
