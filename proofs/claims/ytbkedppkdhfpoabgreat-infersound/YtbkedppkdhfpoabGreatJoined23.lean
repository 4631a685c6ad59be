/- Those inferences that are good. Inferences as plain data: what is raised, and how long it is. Inferences: Infer as a whole. The small input of inferences: what comes of it. All inferences at the small input. What must be in any case of inferences: it is. A clause holds: by the program's way and by the document's way it is the same. No word of the program here. What holds in a model: what is put in, tidied, numbered anew. No word of the program's memory here. -/
import Derived.BigQuiet
import Derived.Deep.DeepCutAuto
import Derived.Deep.DrawnRows
import Derived.Deep.RegionHeld3
import Derived.Test.YtbkedppkdhfpoabGreatJoined22
namespace Go.Proofs.YtbkedppkdhfpoabGreat
open Go.RowKit
theorem box_put {w3 : World} {o1 o2 : Obj} {n : Nat} {u v : Value} {t : TypeId} (h : w3.heap[n]? = some (.cells #[u] t)) : (((w3.alloc o1).alloc o2).setCell ⟨n, 0, none⟩ v).drew.heap[n]? = some (.cells #[v] t) ∧ (∀ k, k < w3.heap.size → k ≠ n → (((w3.alloc o1).alloc o2).setCell ⟨n, 0, none⟩ v).drew.heap[k]? = w3.heap[k]?) ∧ Below 0 w3 (((w3.alloc o1).alloc o2).setCell ⟨n, 0, none⟩ v).drew := by
  have hn := (Array.getElem?_eq_some_iff.1 h).1
  refine ⟨?_, fun k hk hne => ?_, ?_⟩
  · exact Joins.block_setCell (w := (w3.alloc o1).alloc o2) (((below2 w3 o1 o2).block n hn).trans h) v
  · show (((w3.alloc o1).alloc o2).setCell ⟨n, 0, none⟩ v).heap[k]? = _
    rw [Below.heap_setCell _ _ _ _ hne]
    exact (below2 w3 o1 o2).block k hk
  · exact Below.drew (Below.setCell (p := ⟨n, 0, none⟩) ((below2 w3 o1 o2).mono (Nat.zero_le _)) (Nat.zero_le _) _)
def thZ (n : Nat) (k : Nat) : Prop := k = n + 1 ∨ k = n + 3
attribute [local go_sem] Oper.semAt_some
set_option maxRecDepth 100000 in
set_option maxHeartbeats 1000000 in
theorem those_one (gf gg : Nat) (lb lbg : Array Value) (left right : Int) (w : World) (eg : ∀ args w, (callFunc gf args).run Tryz.prog w = .ok (.enter gf args) w) (egg : ∀ args w, (callFunc gg args).run Tryz.prog w = .ok (.enter gg args) w)
    (hseq : Itr Tryz.prog gf lb (putE left right) (plM (thZ w.heap.size)) plS (thZ w.heap.size) w)
    (hg1 : ∀ w' : World, Below w.heap.size w w' → Calls Tryz.prog gg (putE left right none ++ lbg) w' fun e w'' => e = .returned (.bool true) ∧ Below w'.heap.size w' w'')
    (hg2 : ∀ (g c : Nat) (w' : World), Below w.heap.size w w' → w'.cell? ⟨g, 0, none⟩ = some (.int .i64 0) → Calls Tryz.prog gg (putE left right (some (g, c)) ++ lbg) w' fun e w'' => e = .returned (.bool false) ∧ Below w'.heap.size w' w'') :
    CallsIn Fence.wide 0 Tryz.prog 85 #[.func (.func gf) #[] lb, .func (.func gg) #[] lbg] w fun e w' => (∃ a cap, e = .returned (.slice a 1 cap)) ∧ Below w.heap.size w w' := by
  have hmix : Tryz.prog.follows .mixedOrders = true := by kernel_rfl
  refine callsIn_of_wp_marks Tryz.func85 rfl trivial ?_ rfl
  simp only [Tryz.ntmps85, List.size_toArray, List.length_cons, List.length_nil, Nat.reduceAdd, Nat.reduceSub, Array.replicate_succ, Array.replicate_zero, List.push_toArray, List.append_toArray, List.nil_append, List.cons_append]
  obtain ⟨W2, hW2⟩ : ∃ W2, W2 = (w.alloc (.cells #[.func (.func gg) #[] lbg] 129)).alloc (.cells #[.slice none 0 0] 51) := ⟨_, rfl⟩
  have hs2 : W2.heap.size = w.heap.size + 2 := by rw [hW2]; simp
  have hb2 : Below w.heap.size w W2 := by rw [hW2]; exact below2 _ _ _
  have hgb : W2.cell? ⟨w.heap.size, 0, none⟩ = some (.func (.func gg) #[] lbg) := by rw [hW2, cell_alloc_lt (by simp)]; exact cell_new 0 rfl
  have hlb : W2.heap[w.heap.size + 1]? = some (.cells #[.slice none 0 0] 51) := by
    rw [hW2]
    have := World.alloc_heap_new (w.alloc (.cells #[.func (.func gg) #[] lbg] 129)) (.cells #[.slice none 0 0] 51)
    rwa [World.size_alloc] at this
  have HW2 := hide hW2
  have Hs2 := hide hs2
  clear hW2 hs2
  gi_wp2
  rw [← HW2.out]
  have hs2 := Hs2.out
  refine rfo (Z := thZ w.heap.size) (w0 := w) (gf := gf) (lb := lb) (encs := putE left right) (M := plM (thZ w.heap.size)) (S := plS) rfl eg (fun x => by cases x <;> rfl) (Or.inr (by omega)) (fun k hk => by rcases hk with h | h <;> omega) (KpZ.of_below hb2) hseq
    (fun pre A => (pre = [] ∧ A.heap[w.heap.size + 1]? = some (.cells #[.slice none 0 0] 51)) ∨ (pre ≠ [] ∧ ∃ a cap, A.heap[w.heap.size + 1]? = some (.cells #[.slice a 1 cap] 51))) ?_ (Or.inl ⟨rfl, hlb⟩) ?_ ?_
  · rintro pre A B (⟨h1, h2⟩ | ⟨h1, a, cap, h2⟩) hb
    · exact Or.inl ⟨h1, by rw [hb.block _ (by omega)]; exact h2⟩
    · exact Or.inr ⟨h1, a, cap, by rw [hb.block _ (by omega)]; exact h2⟩
  · rintro fn pre x A hIA hM hl hD hKA
    have hB : Below w.heap.size w A := hb2.trans (hKA.low (by omega) (fun k hk => by rcases hk with h | h <;> omega))
    have hgA : A.cell? ⟨w.heap.size, 0, none⟩ = some (.func (.func gg) #[] lbg) := hKA.cell (fun h => by rcases h with h | h <;> omega) hgb
    have hlq := (Array.getElem?_eq_some_iff.1 hl).1
    rcases hM with ⟨rfl, rfl⟩ | ⟨g, c', rfl, rfl, hgc, hgz⟩
    · have Hl := hide hl
      have HD := hide hD
      have HKA := hide hKA
      have HgA := hide hgA
      have HlA := hide (show A.heap[w.heap.size + 1]? = some (.cells #[.slice none 0 0] 51) by rcases hIA with ⟨-, h⟩ | ⟨h, -⟩ <;> first | exact h | exact absurd rfl h)
      clear hs2 hl hD hKA hgA hlb hgb hIA
      dsimp only [putE]
      gi_wp2
      have hs2 := Hs2.out
      refine ⟨Below.heap_alloc _ _ _ hlq, Below.heap_alloc _ _ _ (by omega), KpZ.alloc _ _, ?_⟩
      generalize hRec : recO fn _ _ _ _ _ LoopState.busy = rec
      clear hRec
      obtain ⟨V, hV⟩ : ∃ V, V = (A.alloc (.cells #[.int .i64 3, .int .i64 left, .int .i64 right, .int .i64 0, .int .i64 0, .bool false, .bool false, .slice none 0 0] 47)).putObj (W2.heap.size + 1) rec := ⟨_, rfl⟩
      rw [← hV]
      have hqV : V.heap[A.heap.size]? = some (.cells #[.int .i64 3, .int .i64 left, .int .i64 right, .int .i64 0, .int .i64 0, .bool false, .bool false, .slice none 0 0] 47) := by rw [hV, World.putObj_heap_other (by omega)]; exact World.alloc_heap_new _ _
      have hAV : ∀ k, k < A.heap.size → k ≠ W2.heap.size + 1 → V.heap[k]? = A.heap[k]? := fun k h1 h2 => by rw [hV, World.putObj_heap_other h2]; exact Below.heap_alloc _ _ _ h1
      have hsV : V.heap.size = A.heap.size + 1 := by rw [hV]; simp
      have hBV : Below w.heap.size w V := by
        rw [hV]
        exact (hB.trans ((Below.refl _ A).alloc hB.size _)).trans (below_putObj (by omega) _)
      have HGd := hide (hg1 V hBV)
      dsimp only [putE] at HGd
      have e0 : V.cell? ⟨A.heap.size, 0, none⟩ = some (.int .i64 3) := by simp [World.cell?, hqV]
      have e1 : V.cell? ⟨A.heap.size, 1, none⟩ = some (.int .i64 left) := by simp [World.cell?, hqV]
      have e2 : V.cell? ⟨A.heap.size, 2, none⟩ = some (.int .i64 right) := by simp [World.cell?, hqV]
      have e3 : V.cell? ⟨A.heap.size, 3, none⟩ = some (.int .i64 0) := by simp [World.cell?, hqV]
      have e4 : V.cell? ⟨A.heap.size, 4, none⟩ = some (.int .i64 0) := by simp [World.cell?, hqV]
      have e5 : V.cell? ⟨A.heap.size, 5, none⟩ = some (.bool false) := by simp [World.cell?, hqV]
      have e6 : V.cell? ⟨A.heap.size, 6, none⟩ = some (.bool false) := by simp [World.cell?, hqV]
      have e7 : V.cell? ⟨A.heap.size, 7, none⟩ = some (.slice none 0 0) := by simp [World.cell?, hqV]
      have eg0 : V.cell? ⟨w.heap.size, 0, none⟩ = some (.func (.func gg) #[] lbg) := by
        rw [World.cell?_of_block (w := A) (a := ⟨w.heap.size, 0, none⟩) (hAV w.heap.size (by omega) (by omega))]
        exact HgA.out
      have hlV : V.heap[w.heap.size + 1]? = some (.cells #[.slice none 0 0] 51) := by rw [hAV _ (by omega) (by omega)]; exact HlA.out
      have HlV := hide hlV
      have HqV := hide hqV
      have HAV := hide hAV
      have HsV := hide hsV
      have HV := hide hV
      have Hlq := hide hlq
      clear hs2 hV hqV hAV hsV hlV hlq
      gi_wp2_with (refine ⟨trivial, rfl, ?_⟩; refine (CallsIn.inRound _ (callsIn_wide.2 HGd.out)).mono ?_; rintro e w3 ⟨rfl, hb3⟩; have l0 : w3.cell? ⟨w.heap.size + 1, 0, none⟩ = some (.slice none 0 0) := cell_below hb3 (by simp [World.cell?, HlV.out]); have lf : w3.frozen? ⟨w.heap.size + 1, 0, none⟩ = false := (by have hh := (hb3.block _ (Array.getElem?_eq_some_iff.1 HlV.out).1).trans HlV.out; simp [World.frozen?, hh]); have HN := hide (fun (o1 o2 : Obj) => (show ((w3.alloc o1).alloc o2).cell? ⟨w.heap.size + 1, 0, none⟩ = some (.slice none 0 0) ∧ ((w3.alloc o1).alloc o2).frozen? ⟨w.heap.size + 1, 0, none⟩ = false from ⟨cell_below (below2 w3 o1 o2) l0, by rw [World.frozen?, (below2 w3 o1 o2).block _ (lt_cell l0)]; exact lf⟩)); have n0 := fun o1 o2 => (HN.out o1 o2).1; have n1 := fun o1 o2 => (HN.out o1 o2).2; have n2 : ∀ o1 o2, ((w3.alloc o1).alloc o2).drew.cell? ⟨w.heap.size + 1, 0, none⟩ = some (.slice none 0 0) := n0; have n3 : ∀ o1 o2, ((w3.alloc o1).alloc o2).drew.frozen? ⟨w.heap.size + 1, 0, none⟩ = false := n1; have d0 := cell_below hb3 e0; have d1 := cell_below hb3 e1; have d2 := cell_below hb3 e2; have d3 := cell_below hb3 e3; have d4 := cell_below hb3 e4; have d5 := cell_below hb3 e5; have d6 := cell_below hb3 e6; have d7 := cell_below hb3 e7; have Hb3 := hide hb3; clear hb3)
      have hs2 := Hs2.out
      have hsV := HsV.out
      have hlq := Hlq.out
      have hb3 := Hb3.out
      have hl3 : w3.heap[w.heap.size + 1]? = some (.cells #[.slice none 0 0] 51) := (hb3.block _ (by omega)).trans HlV.out
      have hs3 := hb3.size
      refine ⟨rfl, ?_, ?_, ⟨?_, ?_⟩, Or.inr ⟨by simp, _, _, (box_put hl3).1⟩⟩
      · exact ((box_put hl3).2.1 (W2.heap.size + 1) (by omega) (by omega)).trans (hb3.block _ (by omega))
      · exact ((box_put hl3).2.1 W2.heap.size (by omega) (by omega)).trans (hb3.block _ (by omega))
      · refine Below.trans (b := V) ?_ ((hb3.mono (Nat.zero_le _)).trans (box_put hl3).2.2)
        rw [HV.out]
        exact ((Below.refl _ A).alloc (Nat.zero_le _) _).trans (below_putObj (Nat.zero_le _) _)
      · intro k hk hz
        exact ((box_put hl3).2.1 k (by omega) (fun h => hz (Or.inl h))).trans ((hb3.block k (by omega)).trans (HAV.out k hk (fun h => hz (Or.inr (by omega)))))
    · have Hl := hide hl
      have HD := hide hD
      have HKA := hide hKA
      have HgA := hide hgA
      have HlA := hide (show ∃ a cap, A.heap[w.heap.size + 1]? = some (.cells #[.slice a 1 cap] 51) by rcases hIA with ⟨h, -⟩ | ⟨-, h⟩ <;> first | exact h | cases h)
      clear hs2 hl hD hKA hgA hlb hgb hIA
      dsimp only [putE]
      gi_wp2
      have hs2 := Hs2.out
      refine ⟨Below.heap_alloc _ _ _ hlq, Below.heap_alloc _ _ _ (by omega), KpZ.alloc _ _, ?_⟩
      generalize hRec : recO fn _ _ _ _ _ LoopState.busy = rec
      clear hRec
      obtain ⟨V, hV⟩ : ∃ V, V = (A.alloc (.cells #[.int .i64 3, .int .i64 left, .int .i64 right, .int .i64 0, .int .i64 0, .bool false, .bool false, .slice (some ⟨g, 0, none⟩) 1 c'] 47)).putObj (W2.heap.size + 1) rec := ⟨_, rfl⟩
      rw [← hV]
      have hqV : V.heap[A.heap.size]? = some (.cells #[.int .i64 3, .int .i64 left, .int .i64 right, .int .i64 0, .int .i64 0, .bool false, .bool false, .slice (some ⟨g, 0, none⟩) 1 c'] 47) := by rw [hV, World.putObj_heap_other (by omega)]; exact World.alloc_heap_new _ _
      have hAV : ∀ k, k < A.heap.size → k ≠ W2.heap.size + 1 → V.heap[k]? = A.heap[k]? := fun k h1 h2 => by rw [hV, World.putObj_heap_other h2]; exact Below.heap_alloc _ _ _ h1
      have hsV : V.heap.size = A.heap.size + 1 := by rw [hV]; simp
      have hBV : Below w.heap.size w V := by
        rw [hV]
        exact (hB.trans ((Below.refl _ A).alloc hB.size _)).trans (below_putObj (by omega) _)
      have HGd := hide (hg2 g c' V hBV (by rw [World.cell?_of_block (w := A) (a := ⟨g, 0, none⟩) (hAV g (lt_cell hgc) (fun h => hgz (Or.inr (by omega))))]; exact hgc))
      dsimp only [putE] at HGd
      have e0 : V.cell? ⟨A.heap.size, 0, none⟩ = some (.int .i64 3) := by simp [World.cell?, hqV]
      have e1 : V.cell? ⟨A.heap.size, 1, none⟩ = some (.int .i64 left) := by simp [World.cell?, hqV]
      have e2 : V.cell? ⟨A.heap.size, 2, none⟩ = some (.int .i64 right) := by simp [World.cell?, hqV]
      have e3 : V.cell? ⟨A.heap.size, 3, none⟩ = some (.int .i64 0) := by simp [World.cell?, hqV]
      have e4 : V.cell? ⟨A.heap.size, 4, none⟩ = some (.int .i64 0) := by simp [World.cell?, hqV]
      have e5 : V.cell? ⟨A.heap.size, 5, none⟩ = some (.bool false) := by simp [World.cell?, hqV]
      have e6 : V.cell? ⟨A.heap.size, 6, none⟩ = some (.bool false) := by simp [World.cell?, hqV]
      have e7 : V.cell? ⟨A.heap.size, 7, none⟩ = some (.slice (some ⟨g, 0, none⟩) 1 c') := by simp [World.cell?, hqV]
      have eg0 : V.cell? ⟨w.heap.size, 0, none⟩ = some (.func (.func gg) #[] lbg) := by
        rw [World.cell?_of_block (w := A) (a := ⟨w.heap.size, 0, none⟩) (hAV w.heap.size (by omega) (by omega))]
        exact HgA.out
      have HqV := hide hqV
      have HAV := hide hAV
      have HsV := hide hsV
      have HV := hide hV
      have Hlq := hide hlq
      clear hs2 hV hqV hAV hsV hlq
      gi_wp2_with (refine ⟨trivial, rfl, ?_⟩; refine (CallsIn.inRound _ (callsIn_wide.2 HGd.out)).mono ?_; rintro e w3 ⟨rfl, hb3⟩; have Hb3 := hide hb3; clear hb3)
      obtain ⟨a, cap, hla⟩ := HlA.out
      have hs2 := Hs2.out
      have hsV := HsV.out
      have hlq := Hlq.out
      have hb3 := Hb3.out
      have hk3 : ∀ k, k < A.heap.size → k ≠ W2.heap.size + 1 → w3.heap[k]? = A.heap[k]? := fun k h1 h2 => by rw [hb3.block _ (by omega), HAV.out k h1 h2]
      refine ⟨rfl, ?_, ?_, ⟨?_, ?_⟩, Or.inr ⟨by simp, a, cap, ?_⟩⟩
      · exact hb3.block _ (by omega)
      · exact hb3.block _ (by omega)
      · refine Below.trans (b := V) ?_ (hb3.mono (Nat.zero_le _))
        rw [HV.out]
        exact ((Below.refl _ A).alloc (Nat.zero_le _) _).trans (below_putObj (Nat.zero_le _) _)
      · intro k hk hz
        exact hk3 k hk (fun h => hz (Or.inr (by omega)))
      · rw [hk3 _ (by omega) (by omega)]; exact hla
  · rintro xs B ⟨g, c', rfl⟩ hIB hDB hKB
    rcases hIB with ⟨h, -⟩ | ⟨-, a, cap, hlB⟩
    · cases h
    have hcB : B.cell? ⟨w.heap.size + 1, 0, none⟩ = some (.slice a 1 cap) := by simp [World.cell?, hlB]
    have HDB := hide hDB
    have HBB : Hid (Below w.heap.size w B) := hide (hb2.trans (hKB.low (by omega) (fun k hk => by rcases hk with h | h <;> omega)))
    have hsB := hKB.below.size
    have HsB := hide hsB
    clear hs2 hsB hDB hKB hlB
    gi_wp2
    refine ⟨by simp, .inl ⟨_, _, rfl, run_takeDeferred HDB.out, ?_⟩⟩
    have h1 := Hs2.out
    exact ⟨_, results_tmp rfl _ _ _, ⟨a, cap, rfl⟩, HBB.out.trans (below_putObj (by omega) _)⟩
end Go.Proofs.YtbkedppkdhfpoabGreat

namespace Go.Proofs.YtbkedppkdhfpoabGreat
theorem raised_at {ar : List Int} {d : Int} {q : T} : ∀ (p : List Int) (t : T), atT t p = some q → okP ar t → atT (raisedT d t) p = some (raisedT d q) := by
  intro p
  induction p with
  | nil => intro t h _; obtain rfl := Option.some.inj h; rfl
  | cons i p ih =>
    intro t h hv
    rw [atT] at h
    by_cases hi : 0 ≤ i ∧ i < t.args.length
    · rw [if_pos hi] at h
      cases hc : t.args[i.toNat]? with
      | none => rw [hc] at h; cases h
      | some c =>
        rw [hc] at h
        have h0 : t.v = 0 := by
          by_cases h0 : t.v = 0
          · exact h0
          · have := (ok_var hv h0).2
            rw [this] at hc; simp at hc
        have hcm : c ∈ t.args := List.mem_of_getElem? hc
        rw [raisedT, sub_fn h0, atT]
        simp only [List.length_map]
        rw [if_pos hi, List.getElem?_map, hc]
        exact ih c h (okArg hv hcm)
    · rw [if_neg hi] at h; cases h
theorem side_map {y : Lit} (h : T → T) (tu : Bool) : side1 (y.1, h y.2.1, h y.2.2) tu = h (side1 y tu) ∧ side2 (y.1, h y.2.1, h y.2.2) tu = h (side2 y tu) := by
  cases tu <;> exact ⟨rfl, rfl⟩
theorem applied_len {ar : List Int} {bs : List (Int × T)} {c : List Lit} (h : (appliedS ar bs c).2 = 0) : (appliedS ar bs c).1.length ≤ 8 := by
  rw [appliedS] at h ⊢
  by_cases h1 : appE ar bs c = 0
  · rw [if_pos h1] at h ⊢
    rw [tidyS] at h ⊢
    by_cases h2 : clausesErr ar [needS [] (c.map (appL ar bs))] = 0
    · rw [if_pos h2]
      have h3 := (clauses_ok h2).2.1
      have h4 := need_len (c := needS [] (c.map (appL ar bs))) (acc := [])
      show (giveC (needS [] (needS [] (c.map (appL ar bs)))) []).1.length ≤ 8
      rw [giveC_length]
      simp only [List.length_nil] at h4
      omega
    · rw [if_neg h2] at h; exact absurd h h2
  · rw [if_neg h1] at h; exact absurd h h1
theorem come_len {ar : List Int} {c d : List Lit} {i : Inf} (h : (comeS ar c d i).2 = 0) : (comeS ar c d i).1.length ≤ 8 := by
  rw [comeS] at h ⊢
  split at h
  · rename_i hk
    rw [if_pos hk]
    rw [infSame] at h ⊢
    split at h
    · rename_i h1; rw [if_pos h1]; exact applied_len h
    · rename_i h1; exact absurd h h1
  · rename_i hk
    rw [if_neg hk]
    split at h
    · rename_i hk2
      rw [if_pos hk2]
      rw [infFactor] at h ⊢
      split at h
      · rename_i h1
        rw [if_pos h1]
        split at h
        · rename_i h2; rw [if_pos h2]; exact applied_len h
        · rename_i h2; exact absurd h h2
      · rename_i h1; exact absurd h h1
    · rename_i hk2
      rw [if_neg hk2]
      rw [infPut] at h ⊢
      split at h
      · rename_i h1
        rw [if_pos h1]
        split at h
        · rename_i h2
          rw [if_pos h2]
          split at h
          · rename_i h3
            rw [if_pos h3]
            split at h
            · rename_i h4; rw [if_pos h4]; exact applied_len h
            · rename_i h4; exact absurd h h4
          · rename_i h3; exact absurd h h3
        · rename_i h2; exact absurd h h2
      · rename_i h1; exact absurd h h1
theorem infer_len {ar : List Int} {cs : List (List Lit)} {i : Inf} (h : (inferS ar cs i).2 = 0) : (inferS ar cs i).1.length ≤ 8 ∧ clausesErr ar cs = 0 := by
  rw [inferS] at h ⊢
  split at h
  · rename_i h1
    rw [if_pos h1]
    refine ⟨?_, h1⟩
    split at h
    · rename_i h2
      rw [if_pos h2]
      split at h
      · rename_i h3
        rw [if_pos h3]
        split at h
        · rename_i h4
          rw [if_pos h4]
          split at h
          · rename_i h5; rw [if_pos h5]; exact come_len h
          · rename_i h5; exact absurd h h5
        · rename_i h4; rw [if_neg h4]; exact come_len h
      · cases h
    · rename_i h2; exact absurd h h2
  · rename_i h1; exact absurd h h1
end Go.Proofs.YtbkedppkdhfpoabGreat

namespace Go.Proofs.YtbkedppkdhfpoabGreat
open Go.RowKit
theorem fits_of {ar : List Int} {cs : List (List Lit)} {i : Inf} (hs : clausesErr ar cs = 0) (h : infErr ar cs i = 0) : Fits ar (clAt cs i.left) (clAt cs i.right) i ∧ hasN i.left cs.length = true ∧ hasN i.right cs.length = true := by
  obtain ⟨hsig, hlen, hall⟩ := clauses_all hs
  rw [infErr] at h
  split at h
  · cases h
  · rename_i hk
    split at h
    · rename_i ht
      split at h
      · rename_i hsp
        have hkk : i.kind = 1 ∨ i.kind = 2 ∨ i.kind = 3 := by omega
        rw [thereS] at ht
        simp only [Bool.and_eq_true] at ht
        obtain ⟨⟨ht1, ht2⟩, ht3⟩ := ht
        obtain ⟨nl, hnl, enl, hcl⟩ := hasN_at [] ht1
        have hc := hall _ (List.mem_of_getElem? hcl)
        have hlt := (List.getElem?_eq_some_iff.1 hcl).1
        have hright : i.kind ≠ 3 → i.right = 0 := fun h3 => by
          rw [spareS] at hsp
          rcases hkk with h1 | h1 | h1
          · rw [if_pos h1] at hsp; simp only [Bool.and_eq_true, beq_iff_eq] at hsp; exact hsp.1.1.1.1
          · rw [if_neg (by omega), if_pos h1] at hsp; simp only [Bool.and_eq_true, beq_iff_eq] at hsp; exact hsp.1
          · exact absurd h1 h3
        have hplace : i.kind ≠ 3 → i.place.length = 0 := fun h3 => by
          rw [spareS] at hsp
          rcases hkk with h1 | h1 | h1
          · rw [if_pos h1] at hsp; simp only [Bool.and_eq_true, beq_iff_eq] at hsp; have := hsp.2; omega
          · rw [if_neg (by omega), if_pos h1] at hsp; simp only [Bool.and_eq_true, beq_iff_eq] at hsp; have := hsp.2; omega
          · exact absurd h1 h3
        by_cases h3 : i.kind = 3
        · rw [if_neg (by omega), if_neg (by omega)] at ht3
          simp only [Bool.and_eq_true, beq_iff_eq] at ht3
          obtain ⟨⟨ht4, ht5⟩, ht6⟩ := ht3
          obtain ⟨nr, hnr, enr, hdr⟩ := hasN_at [] ht4
          obtain ⟨m, hm, em, hyl⟩ := hasN_at zeroL ht5
          have hd := hall _ (List.mem_of_getElem? hdr)
          obtain ⟨q, hq⟩ := atE ht6
          have hyo := hd.2 _ (List.mem_of_getElem? hyl)
          have hsz : (side1 (litAt (clAt cs i.right) i.ra) i.rt).sz ≤ 120 := by
            rw [side1]; split
            · exact hyo.2.1
            · exact hyo.1.1
          have hpl := atT_len _ _ _ hq
          exact ⟨⟨hkk, ht2, fun h2 => by omega, fun _ => ⟨ht5, q, hq⟩, Nat.le_trans hc.1 (by decide), Nat.le_trans hd.1 (by decide), hc.2, hd.2, hsig, by omega⟩, ht1, ht4⟩
        · have hr0 := hright h3
          have ht4 : hasN i.right cs.length = true := by rw [hasN, hr0]; exact decide_eq_true ⟨Int.le_refl 0, by omega⟩
          obtain ⟨nr, hnr, enr, hdr⟩ := hasN_at [] ht4
          have hd := hall _ (List.mem_of_getElem? hdr)
          have hp0 := hplace h3
          exact ⟨⟨hkk, ht2, fun h2 => by rw [if_neg (by omega), if_pos h2] at ht3; exact ht3, fun h9 => absurd h9 h3, Nat.le_trans hc.1 (by decide), Nat.le_trans hd.1 (by decide), hc.2, hd.2, hsig, by omega⟩, ht1, ht4⟩
      · cases h
    · cases h
theorem Fits.apart {ar : List Int} {c d : List Lit} {i : Inf} (h : Fits ar c d i) (h3 : i.kind = 3) (ha : (apartS c d).2 = 0) : Fits ar c (apartS c d).1 i := by
  obtain ⟨ho, hl⟩ := apart_ok h.co h.dd ha
  obtain ⟨hra, q, hq⟩ := h.three h3
  refine ⟨h.kk, h.la, h.two, fun _ => ?_, h.cl, by rw [hl]; exact h.dl, h.co, ho, h.sig, h.pl⟩
  obtain ⟨m, hm, em, hyl⟩ := hasN_at zeroL hra
  have hyo := h.dd _ (List.mem_of_getElem? hyl)
  have hside : okP ar (side1 (litAt d i.ra) i.rt) := by
    rw [side1]; split
    · exact hyo.2.2
    · exact hyo.1.2
  refine ⟨by rw [hl]; exact hra, ?_⟩
  rw [apartS] at ha ⊢
  split at ha
  · cases ha
  · rename_i h8
    rw [if_neg h8]
    simp only
    by_cases h7 : greatC c 0 = 0
    · rw [if_pos h7]; exact ⟨q, hq⟩
    · rw [if_neg h7]
      refine ⟨raisedT (greatC c 0) q, ?_⟩
      have e : litAt (raisedC (greatC c 0) d) i.ra = ((litAt d i.ra).1, raisedT (greatC c 0) (litAt d i.ra).2.1, raisedT (greatC c 0) (litAt d i.ra).2.2) := by
        show List.getD _ _ _ = _
        rw [List.getD_eq_getElem?_getD, em, raisedC, List.getElem?_map, hyl]; rfl
      rw [e, (side_map (raisedT _) i.rt).1]
      exact raised_at _ _ hq hside
attribute [local go_sem ↓] Go.wp_at_zero Go.wp_at_succ
set_option maxRecDepth 100000 in
set_option maxHeartbeats 1000000 in
theorem Infer_any (ar : List Int) (ga : Option Addr) (gcap : Nat) (cs : List (List Lit)) (la : Option Addr) (lc : Nat) (i : Inf) (pa : Option Addr) (pc : Nat) (w : World) (hl : cs.length ≤ 9223372036854775807) (hcl : ∀ c, c ∈ cs → c.length ≤ 9223372036854775807) (hpl : i.place.length ≤ 9223372036854775807) (hg : Ints w ar ga) (hp : Ints w i.place pa) (hc : ClausesP w cs la) :
    Calls Tryz.prog 24 #[.agg #[.slice ga ar.length gcap], .slice la cs.length lc, infV i pa pc] w fun e w' => GivesC (inferS ar cs i) w.heap.size e w' ∧ Below w.heap.size w w' := by
  obtain ⟨W1, hW1⟩ : ∃ W1, W1 = (w.alloc (.cells #[.slice ga ar.length gcap] 24)).alloc (.cells #[.int .i64 i.kind, .int .i64 i.left, .int .i64 i.right, .int .i64 i.la, .int .i64 i.ra, .bool i.lt, .bool i.rt, .slice pa i.place.length pc] 47) := ⟨_, rfl⟩
  have hbW : Below w.heap.size w W1 := by rw [hW1]; exact below2 _ _ _
  have hcg : W1.cell? ⟨w.heap.size, 0, none⟩ = some (.slice ga ar.length gcap) := by rw [hW1, cell_alloc_lt (by simp)]; exact cell_new 0 rfl
  have h8 : I8 W1 (w.heap.size + 1) i pa pc := by rw [hW1]; exact I8.new _ (by simp)
  have HW1 := hide hW1
  have HbW := hide hbW
  have HL := hide (fun (w' : World) (hb : Below W1.heap.size W1 w') => And.intro (cell_below hb hcg) (h8.below hb))
  have HB := hide (fun (w' : World) (hb : Below W1.heap.size W1 w') => hbW.trans (hb.mono hbW.size))
  have HCk := hide (cCheck_any ar ga gcap cs la lc W1 (Ints_below hbW hg) hl hcl (ClausesP_below hbW hc))
  have HIk := hide (fun (hs : clausesErr ar cs = 0) (w' : World) (hb : Below W1.heap.size W1 w') => icheck_any ar ga gcap cs la lc i pa pc w' hs hpl (Ints_below (HB.out _ hb) hg) (Ints_below (HB.out _ hb) hp) (ClausesP_below (HB.out _ hb) hc))
  obtain ⟨Z, hZ⟩ : ∃ Z, Z = inferS ar cs i := ⟨_, rfl⟩
  rw [inferS] at hZ
  obtain ⟨C, hC⟩ : ∃ C, C = clausesErr ar cs := ⟨_, rfl⟩
  obtain ⟨I, hI⟩ : ∃ I, I = infErr ar cs i := ⟨_, rfl⟩
  have HZe := hide (show inferS ar cs i = Z by rw [hZ, inferS])
  rw [HZe.out]
  have Hfo := hide (fun (h1 : C = 0) (h2 : I = 0) => fits_of (hC ▸ h1) (hI ▸ h2))
  rw [← hC, ← hI] at hZ
  rw [← hC] at HCk HIk
  rw [← hI] at HIk
  have HZ := hide hZ
  have Hg := hide hg
  have Hp := hide hp
  have Hc := hide hc
  obtain ⟨g0, -⟩ := HL.out W1 (Below.refl _ _)
  clear hZ HZe hC hI hg hp hc hW1 hbW hcg h8
  go_enter Tryz.func24, Tryz.ntmps24
  go_upto_region 1 with fail
  rw [← HW1.out]
  go_wp2_with fail
  refine HCk.out.mono ?_
  rintro e w1 ⟨rfl, hb1⟩
  have Hb1 := hide hb1
  clear hb1 HCk g0
  by_cases hC0 : C = 0
  · have ec : (C != 0) = false := by simpa using hC0
    have HI1 := hide (HIk.out hC0 w1 Hb1.out)
    have HC0 := hide hC0
    obtain ⟨g0, ⟨e0, e1, e2, e3, e4, e5, e6, e7⟩⟩ := HL.out w1 Hb1.out
    clear HIk hC0
    go_wp2_with fail
    refine HI1.out.mono ?_
    rintro e w2 ⟨rfl, hb2⟩
    have Hb2 := hide (Hb1.out.trans (hb2.mono Hb1.out.size))
    clear hb2 HI1 g0 e0 e1 e2 e3 e4 e5 e6 e7 Hb1
    by_cases hI0 : I = 0
    · have ei : (I != 0) = false := by simpa using hI0
      obtain ⟨hfit, hnl, hnr⟩ := Hfo.out HC0.out hI0
      have HI0 := hide hI0
      clear hI0 Hfo
      obtain ⟨nl, hl1, el, hcl1⟩ := hasN_at [] hnl
      obtain ⟨nr, hr1, er, hdr1⟩ := hasN_at [] hnr
      have hltl := (List.getElem?_eq_some_iff.1 hcl1).1
      have hltr := (List.getElem?_eq_some_iff.1 hdr1).1
      obtain ⟨b, off, rfl⟩ := ClausesP_some Hc.out (by omega)
      obtain ⟨ca, cc, hcell0, hcP0⟩ := ClausesP_at (ClausesP_below (HB.out _ Hb2.out) Hc.out) hcl1
      obtain ⟨da, dc, hdell0, hdP0⟩ := ClausesP_at (ClausesP_below (HB.out _ Hb2.out) Hc.out) hdr1
      have HZ1 : Hid (Z = if fitS (clAt cs i.left) (clAt cs i.right) i = true then (if i.kind = 3 then (if (apartS (clAt cs i.left) (clAt cs i.right)).2 = 0 then comeS ar (clAt cs i.left) (apartS (clAt cs i.left) (clAt cs i.right)).1 i else ([], (apartS (clAt cs i.left) (clAt cs i.right)).2)) else comeS ar (clAt cs i.left) (clAt cs i.right) i) else ([], 4)) := by show _ = _; rw [HZ.out, if_pos HC0.out, if_pos HI0.out]
      have hcell : w2.cell? ⟨b, off + nl, none⟩ = some (.slice ca (clAt cs i.left).length cc) := hcell0
      have hdell : w2.cell? ⟨b, off + nr, none⟩ = some (.slice da (clAt cs i.right).length dc) := hdell0
      have hcP : LitsP w2 (clAt cs i.left) ca := hcP0
      have hdP : LitsP w2 (clAt cs i.right) da := hdP0
      clear hcell0 hdell0 hcP0 hdP0
      obtain ⟨c, hc1⟩ : ∃ c, c = clAt cs i.left := ⟨_, rfl⟩
      obtain ⟨d, hd1⟩ : ∃ d, d = clAt cs i.right := ⟨_, rfl⟩
      rw [← hc1] at hcell hcP hfit HZ1
      rw [← hd1] at hdell hdP hfit HZ1
      have hnI : (nl : Int) < cs.length := by omega
      have hn0 : (0 : Int) ≤ nl := by omega
      have hrI : (nr : Int) < cs.length := by omega
      have hr0 : (0 : Int) ≤ nr := by omega
      have HcP := hide hcP
      have HdP := hide hdP
      have Hfit := hide hfit
      have HBw := hide (HB.out _ Hb2.out)
      have HF := hide (fun (w' : World) (hb : Below w2.heap.size w2 w') => fit_any c ca cc d da dc i pa pc w' hfit.kk (by have := hfit.cl; omega) (by have := hfit.dl; omega) hfit.la hfit.two hfit.three hfit.pl (Ints_below (HBw.out.trans (hb.mono HBw.out.size)) Hp.out) (LitsP_below hb hcP) (LitsP_below hb hdP))
      obtain ⟨F, hF⟩ : ∃ F, F = fitS c d i := ⟨_, rfl⟩
      rw [← hF] at HF HZ1
      have HL2 := hide (fun (w' : World) (hb : Below w2.heap.size w2 w') => HL.out w' (Hb2.out.trans (hb.mono Hb2.out.size)))
      obtain ⟨-, ⟨-, f1, f2, -, -, -, -, -⟩⟩ := HL2.out w2 (Below.refl _ _)
      rw [hl1] at f1
      rw [hr1] at f2
      clear hF hc1 hd1 hfit hnl hnr hl1 el hcl1 hr1 er hdr1 hcP hdP HL Hb2 HB HZ HC0 HI0 Hc
      go_upto_region 7 with fail
      go_quiet (fail)
      obtain ⟨w3, hw3⟩ : ∃ w3, w3 = w2.drewN nq := ⟨_, rfl⟩
      have Hb3 := hide (show Below w2.heap.size w2 w3 by rw [hw3]; exact drewW _ _)
      rw [← hw3]
      clear hw3 f1 f2 hcell hdell
      have HF1 := hide (HF.out w3 Hb3.out)
      obtain ⟨-, ⟨e0, e1, e2, e3, e4, e5, e6, e7⟩⟩ := HL2.out w3 Hb3.out
      clear HF
      go_wp2_with fail
      refine HF1.out.mono ?_
      rintro e w4 ⟨rfl, hb4⟩
      have Hb4 := hide (Hb3.out.trans (hb4.mono Hb3.out.size))
      have HBx := hide (HBw.out.trans (Hb4.out.mono HBw.out.size))
      clear hb4 HF1 e0 e1 e2 e3 e4 e5 e6 e7 Hb3
      have hEnd : ∀ (Z : List Lit × Int) (n : Nat) (e : Ending) (w' : World), w.heap.size ≤ n → GivesC Z n e w' → GivesC Z w.heap.size e w' := fun Z n e w' hn ⟨a, cap, h1, h2, h3⟩ => ⟨a, cap, h1, h2, h3.imp id fun ⟨g, B, g1, g2, g3, g4, g5⟩ => ⟨g, B, g1, g2, g3, g4, fun j hj => ⟨Nat.le_trans hn (g5 j hj).1, (g5 j hj).2⟩⟩⟩
      have HE := hide hEnd
      clear hEnd
      cases F
      · have hz : Z = ([], 4) := by rw [HZ1.out, if_neg (by simp)]
        subst hz
        clear HZ1
        go_wp2_with fail
        go_ret2
        exact ⟨⟨none, 0, rfl, trivial, Or.inl rfl⟩, HBx.out⟩
      · have HZ2 : Hid (Z = if i.kind = 3 then (if (apartS c d).2 = 0 then comeS ar c (apartS c d).1 i else ([], (apartS c d).2)) else comeS ar c d i) := by show _ = _; rw [HZ1.out, if_pos rfl]
        clear HZ1
        obtain ⟨g0, ⟨e0, e1, e2, e3, e4, e5, e6, e7⟩⟩ := HL2.out w4 Hb4.out
        by_cases h3 : i.kind = 3
        · have ek : (i.kind == 3) = true := by simpa using h3
          have HA := hide (apart_any ar c ca cc d da dc w4 (by have := Hfit.out.cl; omega) (by have := Hfit.out.dl; omega) Hfit.out.co Hfit.out.dd (LitsP_below Hb4.out HcP.out) (LitsP_below Hb4.out HdP.out))
          have Hap := hide (fun (ha : (apartS c d).2 = 0) => Hfit.out.apart h3 ha)
          have HZ3 : Hid (Z = if (apartS c d).2 = 0 then comeS ar c (apartS c d).1 i else ([], (apartS c d).2)) := by show _ = _; rw [HZ2.out, if_pos h3]
          obtain ⟨A, hA⟩ : ∃ A, A = apartS c d := ⟨_, rfl⟩
          rw [← hA] at HA Hap HZ3
          clear hA HZ2 h3 Hfit
          go_wp2_with fail
          refine HA.out.mono ?_
          rintro e w5 ⟨⟨aa, ac, rfl, hla⟩, hb5⟩
          have Hb5 := hide (Hb4.out.trans (hb5.mono Hb4.out.size))
          have HBy := hide (HBx.out.trans (hb5.mono HBx.out.size))
          have Hla := hide hla
          clear hla hb5 HA g0 e0 e1 e2 e3 e4 e5 e6 e7
          by_cases hA0 : A.2 = 0
          · have ea : (A.2 != 0) = false := by simpa using hA0
            have hz : Z = comeS ar c A.1 i := by rw [HZ3.out, if_pos hA0]
            have HCo := hide (come_any ar ga gcap c ca cc A.1 aa ac i pa pc w5 (Hap.out hA0) (Ints_below HBy.out Hg.out) (Ints_below HBy.out Hp.out) (LitsP_below Hb5.out HcP.out) Hla.out)
            rw [← hz] at HCo
            obtain ⟨g0, ⟨e0, e1, e2, e3, e4, e5, e6, e7⟩⟩ := HL2.out w5 Hb5.out
            clear hz HZ3 hA0 Hap
            go_wp2_with fail
            refine HCo.out.mono ?_
            rintro e w6 ⟨hg6, hb6⟩
            have Hg6 := hide (HE.out _ _ _ _ HBy.out.size hg6)
            have Hb6 := hide (HBy.out.trans (hb6.mono HBy.out.size))
            obtain ⟨a, cap, rfl, h2, h3⟩ := Hg6.out
            have H23 := hide (And.intro h2 h3)
            clear hg6 hb6 HCo h2 h3 Hg6
            go_wp2_with fail
            go_ret2
            exact ⟨⟨a, cap, rfl, H23.out.1, H23.out.2⟩, Hb6.out⟩
          · have ea : (A.2 != 0) = true := by simpa using hA0
            have hz : Z = ([], A.2) := by rw [HZ3.out, if_neg hA0]
            subst hz
            clear HZ3 hA0 Hap
            go_wp2_with fail
            go_ret2
            exact ⟨⟨none, 0, rfl, trivial, Or.inl rfl⟩, HBy.out⟩
        · have ek : (i.kind == 3) = false := by simpa using h3
          have hz : Z = comeS ar c d i := by rw [HZ2.out, if_neg h3]
          have HCo := hide (come_any ar ga gcap c ca cc d da dc i pa pc w4 Hfit.out (Ints_below HBx.out Hg.out) (Ints_below HBx.out Hp.out) (LitsP_below Hb4.out HcP.out) (LitsP_below Hb4.out HdP.out))
          rw [← hz] at HCo
          clear hz HZ2 h3 Hfit
          go_wp2_with fail
          refine HCo.out.mono ?_
          rintro e w6 ⟨hg6, hb6⟩
          have Hg6 := hide (HE.out _ _ _ _ HBx.out.size hg6)
          have Hb6 := hide (HBx.out.trans (hb6.mono HBx.out.size))
          obtain ⟨a, cap, rfl, h2, h3⟩ := Hg6.out
          have H23 := hide (And.intro h2 h3)
          clear hg6 hb6 HCo h2 h3 Hg6
          go_wp2_with fail
          go_ret2
          exact ⟨⟨a, cap, rfl, H23.out.1, H23.out.2⟩, Hb6.out⟩
    · have ei : (I != 0) = true := by simpa using hI0
      have hz : Z = ([], I) := by rw [HZ.out, if_pos HC0.out, if_neg hI0]
      subst hz
      have HBw := hide (HB.out _ Hb2.out)
      clear HZ hI0
      go_wp2_with fail
      go_ret2
      exact ⟨⟨none, 0, rfl, trivial, Or.inl rfl⟩, HBw.out⟩
  · have ec : (C != 0) = true := by simpa using hC0
    have hz : Z = ([], C) := by rw [HZ.out, if_neg hC0]
    subst hz
    have HBw := hide (HB.out _ Hb1.out)
    clear HZ hC0
    go_wp2_with fail
    go_ret2
    exact ⟨⟨none, 0, rfl, trivial, Or.inl rfl⟩, HBw.out⟩
end Go.Proofs.YtbkedppkdhfpoabGreat

namespace Go.Proofs.YtbkedppkdhfpoabGreat
open Go.RowKit
def jF0 : T := ⟨0, 0, []⟩
def jX : T := ⟨1, 0, []⟩
def jA : Lit := (true, ⟨0, 1, [jX]⟩, jF0)
def jB : Lit := (false, ⟨0, 1, [jF0]⟩, jF0)
def jI : Inf := ⟨3, 0, 1, 0, 0, false, false, []⟩
def jI0 : Inf := ⟨3, 0, 1, 0, 0, false, false, [0]⟩
theorem j_cls : clausesErr [0, 1] [[jA], [jB]] = 0 := by rfl
theorem j_apart : apartS [jA] [jB] = ([jB], 0) := by rfl
theorem j_af : grSpec [0, 1] (side2 jA false) (side1 jA false) = false := by kernel_rfl
theorem j_at : grSpec [0, 1] (side2 jA true) (side1 jA true) = true := by kernel_rfl
theorem j_bf : grSpec [0, 1] (side2 jB false) (side1 jB false) = false := by kernel_rfl
theorem j_bt : grSpec [0, 1] (side2 jB true) (side1 jB true) = true := by kernel_rfl
theorem j_inf : inferS [0, 1] [[jA], [jB]] jI = ([], 0) := by kernel_rfl
theorem j_err : infErr [0, 1] [[jA], [jB]] jI = 0 := by kernel_rfl
theorem j_err0 : infErr [0, 1] [[jA], [jB]] jI0 = 0 := by kernel_rfl
end Go.Proofs.YtbkedppkdhfpoabGreat

namespace Go.Proofs.YtbkedppkdhfpoabGreat
open Go.RowKit
attribute [local go_sem ↓] Go.wp_at_zero Go.wp_at_succ
set_option maxRecDepth 100000 in
set_option maxHeartbeats 400000 in
theorem puts_any (gs c1 c2 : Value) (n1 n2 : Int) (a0 a1 a2 : Option Addr) (l0 k0 l1 k1 l2 k2 : Nat) (h0 : gs = .agg #[.slice a0 l0 k0]) (h1 : c1 = .slice a1 l1 k1) (h2 : c2 = .slice a2 l2 k2) (w : World) : Calls Tryz.prog 88 #[gs, c1, c2, .int .i64 n1, .int .i64 n2] w fun e w' =>
    e = .returned (.func (.func 151) #[] #[.pointer (some ⟨w.heap.size, 0, none⟩), .pointer (some ⟨w.heap.size + 1, 0, none⟩), .pointer (some ⟨w.heap.size + 1 + 1, 0, none⟩), .pointer (some ⟨w.heap.size + 1 + 1 + 1, 0, none⟩), .pointer (some ⟨w.heap.size + 1 + 1 + 1 + 1, 0, none⟩)]) ∧
      w'.cell? ⟨w.heap.size, 0, none⟩ = some (.slice a0 l0 k0) ∧ w'.cell? ⟨w.heap.size + 1, 0, none⟩ = some (.slice a1 l1 k1) ∧ w'.cell? ⟨w.heap.size + 1 + 1, 0, none⟩ = some (.slice a2 l2 k2) ∧ w'.cell? ⟨w.heap.size + 1 + 1 + 1, 0, none⟩ = some (.int .i64 n1) ∧ w'.cell? ⟨w.heap.size + 1 + 1 + 1 + 1, 0, none⟩ = some (.int .i64 n2) ∧ Below w.heap.size w w' := by
  subst h0 h1 h2
  go_enter Tryz.func88, Tryz.ntmps88
  go_wp2_with fail
  go_ret
  refine ⟨rfl, ?_, ?_, ?_, ?_, ?_, ?_⟩
  · rw [cell_alloc_lt (by first | (simp; done) | (simp; omega)), cell_alloc_lt (by first | (simp; done) | (simp; omega)), cell_alloc_lt (by first | (simp; done) | (simp; omega)), cell_alloc_lt (by first | (simp; done) | (simp; omega))]; exact cell_new 0 rfl
  · rw [cell_alloc_lt (by first | (simp; done) | (simp; omega)), cell_alloc_lt (by first | (simp; done) | (simp; omega)), cell_alloc_lt (by first | (simp; done) | (simp; omega))]; exact cell_new 0 (by simp)
  · rw [cell_alloc_lt (by first | (simp; done) | (simp; omega)), cell_alloc_lt (by first | (simp; done) | (simp; omega))]; exact cell_new 0 (by simp)
  · rw [cell_alloc_lt (by first | (simp; done) | (simp; omega))]; exact cell_new 0 (by simp)
  · exact cell_new 0 (by simp)
  · repeat' (first | with_reducible exact Below.refl _ _ | (refine Below.alloc ?_ ?_ _; rotate_left; focus (first | omega | (simp; omega) | (simp; done))))
set_option maxRecDepth 100000 in
set_option maxHeartbeats 400000 in
theorem comes_any (a0 a1 a2 : Option Addr) (l0 k0 l1 k1 l2 k2 : Nat) (w : World) : Calls Tryz.prog 87 #[.agg #[.slice a0 l0 k0], .slice a1 l1 k1, .slice a2 l2 k2] w fun e w' =>
    e = .returned (.func (.func 150) #[] #[.pointer (some ⟨w.heap.size + 1, 0, none⟩), .pointer (some ⟨w.heap.size + 1 + 1, 0, none⟩), .pointer (some ⟨w.heap.size, 0, none⟩)]) ∧
      w'.cell? ⟨w.heap.size, 0, none⟩ = some (.slice a0 l0 k0) ∧ w'.cell? ⟨w.heap.size + 1, 0, none⟩ = some (.slice a1 l1 k1) ∧ w'.cell? ⟨w.heap.size + 1 + 1, 0, none⟩ = some (.slice a2 l2 k2) ∧ Below w.heap.size w w' := by
  go_enter Tryz.func87, Tryz.ntmps87
  go_wp2_with fail
  go_ret
  refine ⟨rfl, ?_, ?_, ?_, ?_⟩
  · rw [cell_alloc_lt (by first | (simp; done) | (simp; omega)), cell_alloc_lt (by first | (simp; done) | (simp; omega))]; exact cell_new 0 rfl
  · rw [cell_alloc_lt (by first | (simp; done) | (simp; omega))]; exact cell_new 0 (by simp)
  · exact cell_new 0 (by simp)
  · repeat' (first | with_reducible exact Below.refl _ _ | (refine Below.alloc ?_ ?_ _; rotate_left; focus (first | omega | (simp; omega) | (simp; done))))
theorem those_begun (ga : Option Addr) (gcap b1 o1 c1 b2 o2 c2 Bg B1 B2 Bl Br Cg C1 C2 : Nat) (w : World) (hg : Ints w [0, 1] ga) (hx : LitsP w [jA] (some ⟨b1, o1, none⟩)) (hy : LitsP w [jB] (some ⟨b2, o2, none⟩))
    (k1 : w.cell? ⟨Bg, 0, none⟩ = some (.slice ga 2 gcap)) (k2 : w.cell? ⟨B1, 0, none⟩ = some (.slice (some ⟨b1, o1, none⟩) 1 c1)) (k3 : w.cell? ⟨B2, 0, none⟩ = some (.slice (some ⟨b2, o2, none⟩) 1 c2)) (k4 : w.cell? ⟨Bl, 0, none⟩ = some (.int .i64 0)) (k5 : w.cell? ⟨Br, 0, none⟩ = some (.int .i64 1))
    (k6 : w.cell? ⟨C1, 0, none⟩ = some (.slice (some ⟨b1, o1, none⟩) 1 c1)) (k7 : w.cell? ⟨C2, 0, none⟩ = some (.slice (some ⟨b2, o2, none⟩) 1 c2)) (k8 : w.cell? ⟨Cg, 0, none⟩ = some (.slice ga 2 gcap)) :
    Calls Tryz.prog 85 #[.func (.func 151) #[] #[.pointer (some ⟨Bg, 0, none⟩), .pointer (some ⟨B1, 0, none⟩), .pointer (some ⟨B2, 0, none⟩), .pointer (some ⟨Bl, 0, none⟩), .pointer (some ⟨Br, 0, none⟩)], .func (.func 150) #[] #[.pointer (some ⟨C1, 0, none⟩), .pointer (some ⟨C2, 0, none⟩), .pointer (some ⟨Cg, 0, none⟩)]] w fun e w' => (∃ a cap, e = .returned (.slice a 1 cap)) ∧ Below w.heap.size w w' := by
  refine callsIn_wide.1 (those_one 151 150 _ _ 0 1 w (enters_of Tryz.func151 (by kernel_rfl) rfl) (enters_of Tryz.func150 (by kernel_rfl) rfl) ?_ ?_ ?_)
  · exact puts_itr [0, 1] ga gcap jA jB b1 o1 c1 b2 o2 c2 Bg B1 B2 Bl Br 0 1 w _ (fun k hk => by rcases hk with h | h <;> omega) hg hx hy j_af j_at j_bf j_bt ⟨jF0, rfl, rfl⟩ k1 k2 k3 k4 k5
  · intro w' hb
    have h := comes1_any [0, 1] ga gcap [jA] (some ⟨b1, o1, none⟩) c1 [jB] (some ⟨b2, o2, none⟩) c2 jI none 0 C1 C2 Cg w' (fits_of j_cls j_err).1 (by decide) (Ints_below hb hg) (Or.inl rfl) (LitsP_below hb hx) (LitsP_below hb hy) (cell_below hb k6) (cell_below hb k7) (cell_below hb k8)
    rw [show (fitS [jA] [jB] jI && ((comeS [0, 1] [jA] [jB] jI).2 == 0)) = true by kernel_rfl] at h
    exact h
  · intro g c w' hb hc
    have h := comes1_any [0, 1] ga gcap [jA] (some ⟨b1, o1, none⟩) c1 [jB] (some ⟨b2, o2, none⟩) c2 jI0 (some ⟨g, 0, none⟩) c C1 C2 Cg w' (fits_of j_cls j_err0).1 (by decide) (Ints_below hb hg) ?_ (LitsP_below hb hx) (LitsP_below hb hy) (cell_below hb k6) (cell_below hb k7) (cell_below hb k8)
    · rw [show (fitS [jA] [jB] jI0 && ((comeS [0, 1] [jA] [jB] jI0).2 == 0)) = false by kernel_rfl] at h
      exact h
    · refine Or.inr ⟨g, 0, rfl, fun i hi => ?_⟩
      have h1 : i < 1 := hi
      obtain rfl : i = 0 := by omega
      exact hc
set_option maxRecDepth 100000 in
set_option maxHeartbeats 1000000 in
theorem All_begun (ga : Option Addr) (gcap : Nat) (la : Option Addr) (lc : Nat) (w : World) (hg : Ints w [0, 1] ga) (hc : ClausesP w [[jA], [jB]] la) :
    Calls Tryz.prog 27 #[.agg #[.slice ga 2 gcap], .slice la 2 lc, .int .i64 0, .int .i64 1] w fun e w' => (∃ a cap, e = .returned (.tuple #[.slice a 1 cap, .int .i64 0])) ∧ Below w.heap.size w w' := by
  obtain ⟨W1, hW1⟩ : ∃ W1, W1 = w.alloc (.cells #[.slice ga 2 gcap] 24) := ⟨_, rfl⟩
  have HbW : Hid (Below w.heap.size w W1) := hide (by rw [hW1]; exact below1 _ _)
  have g0 : W1.cell? ⟨w.heap.size, 0, none⟩ = some (.slice ga 2 gcap) := by rw [hW1]; exact cell_new 0 rfl
  have HW1 := hide hW1
  have Hg1 := hide (Ints_below HbW.out hg)
  have Hc1 := hide (ClausesP_below HbW.out hc)
  obtain ⟨bq, oq, l1, k1, rfl, m1, n1, b', o', l2, k2, hbo, m2, n2, -⟩ := Hc1.out
  simp only [Option.some.injEq, Addr.mk.injEq] at hbo
  obtain ⟨rfl, rfl, -⟩ := hbo
  obtain ⟨b1, o1, rfl⟩ := LitsP_some n1 (by decide)
  obtain ⟨b2, o2, rfl⟩ := LitsP_some n2 (by decide)
  have HC := hide (cCheck_any [0, 1] ga gcap [[jA], [jB]] (some ⟨bq, oq, none⟩) lc W1 Hg1.out (by decide) (fun c hc => by rcases List.mem_cons.1 hc with rfl | hc <;> first | decide | (rw [List.mem_singleton.1 hc]; decide)) Hc1.out)
  rw [j_cls] at HC
  have Hn := hide (And.intro n1 n2)
  have Hm := hide (And.intro m1 m2)
  have Hg0 := hide g0
  clear n1 n2 m1 m2 hW1 hg hc
  go_enter Tryz.func27, Tryz.ntmps27
  go_upto_region 1 with fail
  rw [← HW1.out]
  go_wp2_with (first
    | (go_at_call 20
       refine HC.out.mono ?_
       rintro e W2 ⟨rfl, hb2⟩
       have HB2 := hide hb2
       clear hb2)
    | (go_at_call 84
       refine (hasC_any _ _ _ _ _).mono ?_
       rintro e W3 ⟨rfl, rfl⟩
       first | rw [show hasN 0 2 = true by decide] | rw [show hasN 1 2 = true by decide]))
  have q1 : W3.cell? ⟨bq, oq, none⟩ = some (.slice (some ⟨b1, o1, none⟩) 1 k1) := cell_below HB2.out Hm.out.1
  have q2 : W3.cell? ⟨bq, oq + 1, none⟩ = some (.slice (some ⟨b2, o2, none⟩) 1 k2) := cell_below HB2.out Hm.out.2
  have HA := hide (fun (w' : World) (hb : Below W3.heap.size W3 w') => apart_any [0, 1] [jA] (some ⟨b1, o1, none⟩) k1 [jB] (some ⟨b2, o2, none⟩) k2 w' (by decide) (by decide) (fits_of j_cls j_err).1.co (fits_of j_cls j_err).1.dd (LitsP_below (HB2.out.trans (hb.mono HB2.out.size)) Hn.out.1) (LitsP_below (HB2.out.trans (hb.mono HB2.out.size)) Hn.out.2))
  rw [j_apart] at HA
  clear HC
  go_region_held3 (fun w' => w'.cell? ⟨bq, oq, none⟩ = some (.slice (some ⟨b1, o1, none⟩) 1 k1) ∧ w'.cell? ⟨bq, oq + 1, none⟩ = some (.slice (some ⟨b2, o2, none⟩) 1 k2)) ((first | exact HkA.out | go_keep)) ((
    (go_at_call 74
     refine (HA.out _ ?_).mono ?_
     · exact Below.drew (Below.refl _ _)
     rintro e wA ⟨⟨a, cap, rfl, hlA⟩, hbA⟩
     obtain ⟨b3, o3, rfl⟩ := LitsP_some hlA (by decide)
     have HbA : Hid (Below W3.heap.size W3 wA) := hide ((Below.drew (Below.refl _ W3)).trans hbA)
     have HkA : Hid (wA.cell? ⟨bq, oq, none⟩ = some (.slice (some ⟨b1, o1, none⟩) 1 k1) ∧ wA.cell? ⟨bq, oq + 1, none⟩ = some (.slice (some ⟨b2, o2, none⟩) 1 k2)) := hide ⟨cell_below HbA.out q1, cell_below HbA.out q2⟩
     have HlA := hide hlA
     clear hlA hbA)))
  clear HA q1 q2
  have HB3 : Hid (Below W1.heap.size W1 wA) := hide (HB2.out.trans (HbA.out.mono HB2.out.size))
  go_upto_region 11 with fail
  have s0 := fun (w' : World) (hb : Below wA.heap.size wA w') => cell_below hb (cell_below HB3.out Hg0.out)
  have s1 := fun (w' : World) (hb : Below wA.heap.size wA w') => cell_below hb HkA.out.1
  have Hz : Hid (Ints wA [0, 1] ga ∧ LitsP wA [jA] (some ⟨b1, o1, none⟩) ∧ LitsP wA [jB] (some ⟨b3, o3, none⟩)) := hide ⟨Ints_below HB3.out Hg1.out, LitsP_below HB3.out Hn.out.1, HlA.out⟩
  have HBw : Hid (Below w.heap.size w wA) := hide (HbW.out.trans (HB3.out.mono HbW.out.size))
  clear g0
  go_region_held3 (fun w' => Below wA.heap.size wA w') ((first | with_reducible exact HbF.out | with_reducible exact HbE.out | with_reducible exact HbD.out | (with_reducible exact Below.drew (Below.refl _ _)) | (with_reducible exact Below.refl _ _) | go_keep)) ((first
    | (go_at_call 88
       refine (puts_any _ _ _ 0 1 ga (some ⟨b1, o1, none⟩) (some ⟨b3, o3, none⟩) 2 gcap 1 k1 1 cap rfl rfl rfl _).mono ?_
       rintro e wD ⟨rfl, u0, u1, u2, u3, u4, hbD⟩
       have HbD : Hid (Below wA.heap.size wA wD) := hide ((Below.drew (Below.refl _ wA)).trans hbD)
       have HuD := hide (And.intro u0 (And.intro u1 (And.intro u2 (And.intro u3 u4))))
       clear u0 u1 u2 u3 u4 hbD)
    | (go_at_call 87
       refine (comes_any ga (some ⟨b1, o1, none⟩) (some ⟨b3, o3, none⟩) 2 gcap 1 k1 1 cap _).mono ?_
       rintro e wE ⟨rfl, u0, u1, u2, hbE⟩
       have HbE : Hid (Below wA.heap.size wA wE) := hide (HbD.out.trans (hbE.mono HbD.out.size))
       have HT := hide (those_begun ga gcap b1 o1 k1 b3 o3 cap _ _ _ _ _ _ _ _ wE (Ints_below HbE.out Hz.out.1) (LitsP_below HbE.out Hz.out.2.1) (LitsP_below HbE.out Hz.out.2.2) (cell_below hbE HuD.out.1) (cell_below hbE HuD.out.2.1) (cell_below hbE HuD.out.2.2.1) (cell_below hbE HuD.out.2.2.2.1) (cell_below hbE HuD.out.2.2.2.2) u1 u2 u0)
       clear u0 u1 u2 hbE)
    | (go_at_call 85
       refine HT.out.mono ?_
       rintro e wF ⟨⟨ra, rc, rfl⟩, hbF⟩
       have HbF : Hid (Below wA.heap.size wA wF) := hide (HbE.out.trans (hbF.mono HbE.out.size))
       clear hbF)))
  go_wp2_with fail
  go_ret2
  exact ⟨⟨ra, rc, rfl⟩, HBw.out.trans (HbF.out.mono HBw.out.size)⟩
end Go.Proofs.YtbkedppkdhfpoabGreat

namespace Go.Proofs.YtbkedppkdhfpoabGreat
open Go.RowKit
theorem leaf_new {w : World} (v f : Int) (e : TypeId) : InL (w.alloc (.cells #[.int .i64 v, .int .i64 f, .slice none 0 0] e)) [⟨v, f, []⟩] (some ⟨w.heap.size, 0, none⟩) :=
  ⟨w.heap.size, 0, .slice none 0 0, rfl, trivial, cell_new 0 rfl, cell_new 1 rfl, cell_new 2 rfl, ⟨none, 0, rfl, trivial⟩, trivial⟩
theorem lit_new {w : World} {x : Lit} {a1 a2 : Option Addr} {c1 c2 : Nat} (e : TypeId) (i1 : InL w x.2.1.args a1) (i2 : InL w x.2.2.args a2) : LitsP (w.alloc (.cells #[.bool x.1, .int .i64 x.2.1.v, .int .i64 x.2.1.f, .slice a1 x.2.1.args.length c1, .int .i64 x.2.2.v, .int .i64 x.2.2.f, .slice a2 x.2.2.args.length c2] e)) [x] (some ⟨w.heap.size, 0, none⟩) :=
  ⟨w.heap.size, 0, a1, c1, a2, c2, rfl, cell_new 0 rfl, cell_new 1 rfl, cell_new 2 rfl, cell_new 3 rfl, cell_new 4 rfl, cell_new 5 rfl, cell_new 6 rfl, InP_below (below1 _ _) i1, InP_below (below1 _ _) i2, trivial⟩
attribute [local go_sem ↓] Go.wp_at_zero Go.wp_at_succ
set_option maxRecDepth 100000 in
set_option maxHeartbeats 2000000 in
theorem inferBegun_any (w : World) : Calls Tryz.prog 26 #[] w fun e w' => e = .returned (.bool true) ∧ Below w.heap.size w w' := by
  go_enter Tryz.func26, Tryz.ntmps26
  go_wp2_with fail
  refine (va_any _ _).mono ?_
  rintro e w1 ⟨rfl, hb1⟩
  have Hb1 := hide hb1
  clear hb1
  go_wp2_with fail
  refine (fn_any _ _ _ _ _).mono ?_
  rintro e w2 ⟨rfl, hb2⟩
  have Ht2 : Hid (InL w2 jA.2.1.args (some ⟨w1.heap.size, 0, none⟩)) := hide (InP_below hb2 (leaf_new 1 0 _))
  have Hb2 : Hid (Below w.heap.size w w2) := hide (Hb1.out.trans (((below1 w1 _).trans (hb2.mono (by simp))).mono Hb1.out.size))
  clear hb2 Hb1
  go_wp2_with fail
  refine (fn_any _ _ _ _ _).mono ?_
  rintro e w3 ⟨rfl, hb3⟩
  have Hl3 : Hid (∀ e : TypeId, LitsP (w3.alloc (.cells #[.bool true, .int .i64 0, .int .i64 1, .slice (some ⟨w1.heap.size, 0, none⟩) 1 1, .int .i64 0, .int .i64 0, .slice none 0 0] e)) [jA] (some ⟨w3.heap.size, 0, none⟩)) := hide (fun e => lit_new (x := jA) e (InP_below hb3 Ht2.out) InP_nil)
  have Hb3 : Hid (Below w.heap.size w w3) := hide (Hb2.out.trans (hb3.mono Hb2.out.size))
  clear hb3 Hb2 Ht2
  go_wp2_with fail
  refine (fn_any _ _ _ _ _).mono ?_
  rintro e w4 ⟨rfl, hb4⟩
  have Hl4 : Hid (LitsP w4 [jA] (some ⟨w3.heap.size, 0, none⟩)) := hide (LitsP_below hb4 (Hl3.out _))
  have Hb4 : Hid (Below w.heap.size w w4) := hide (Hb3.out.trans (((below1 w3 _).trans (hb4.mono (by simp))).mono Hb3.out.size))
  clear hb4 Hb3 Hl3
  go_wp2_with fail
  refine (fn_any _ _ _ _ _).mono ?_
  rintro e w5 ⟨rfl, hb5⟩
  have Ht5 : Hid (InL w5 jB.2.1.args (some ⟨w4.heap.size, 0, none⟩)) := hide (InP_below hb5 (leaf_new 0 0 _))
  have Hl5 : Hid (LitsP w5 [jA] (some ⟨w3.heap.size, 0, none⟩)) := hide (LitsP_below ((below1 w4 _).trans (hb5.mono (by simp))) Hl4.out)
  have Hb5 : Hid (Below w.heap.size w w5) := hide (Hb4.out.trans (((below1 w4 _).trans (hb5.mono (by simp))).mono Hb4.out.size))
  clear hb5 Hb4 Hl4
  go_wp2_with fail
  refine (fn_any _ _ _ _ _).mono ?_
  rintro e w6 ⟨rfl, hb6⟩
  obtain ⟨W8, hW8⟩ : ∃ W8, W8 = (w6.alloc (.cells #[.bool false, .int .i64 0, .int .i64 1, .slice (some ⟨w4.heap.size, 0, none⟩) 1 1, .int .i64 0, .int .i64 0, .slice none 0 0] 79)).alloc (.cells #[.slice (some ⟨w3.heap.size, 0, none⟩) 1 1, .slice (some ⟨w6.heap.size, 0, none⟩) 1 1] 26) := ⟨_, rfl⟩
  have Hcl : Hid (ClausesP W8 [[jA], [jB]] (some ⟨w6.heap.size + 1, 0, none⟩)) := hide (by
    rw [hW8]
    refine ⟨w6.heap.size + 1, 0, some ⟨w3.heap.size, 0, none⟩, 1, rfl, cell_new 0 (by simp), LitsP_below (below2 _ _ _) (LitsP_below hb6 Hl5.out), w6.heap.size + 1, 1, some ⟨w6.heap.size, 0, none⟩, 1, rfl, cell_new 1 (by simp), ?_, trivial⟩
    exact LitsP_below (below1 _ _) (lit_new (x := jB) _ (InP_below hb6 Ht5.out) InP_nil))
  have Hb8 : Hid (Below w.heap.size w W8) := hide (by
    have h6 := Hb5.out.trans (hb6.mono Hb5.out.size)
    rw [hW8]; exact h6.trans ((below2 _ _ _).mono h6.size))
  have HW8 := hide hW8
  clear hW8 hb6 Hb5 Hl5 Ht5
  go_upto_region 2 with fail
  rw [← HW8.out]
  go_wp2_with fail
  refine (small_any _).mono ?_
  rintro e w9 ⟨n9, rfl, hg9, hb9⟩
  have Hb9 := hide (Hb8.out.trans (hb9.mono Hb8.out.size))
  have Hcl9 := hide (ClausesP_below hb9 Hcl.out)
  have HI := hide (Infer_any [0, 1] (some ⟨n9, 0, none⟩) 2 [[jA], [jB]] (some ⟨w6.heap.size + 1, 0, none⟩) 2 jI none 0 w9 (by decide) (fun c hc => by rcases List.mem_cons.1 hc with rfl | hc <;> first | decide | (rw [List.mem_singleton.1 hc]; decide)) (by decide) hg9 (Or.inl rfl) Hcl9.out)
  rw [j_inf] at HI
  clear hg9 hb9 Hcl
  go_wp2_with fail
  refine HI.out.mono ?_
  rintro e w10 ⟨⟨a, cap, rfl, -, -⟩, hb10⟩
  have Hb10 := hide (Hb9.out.trans (hb10.mono Hb9.out.size))
  have Hcl10 := hide (ClausesP_below hb10 Hcl9.out)
  clear hb10 HI Hcl9
  go_wp2_with fail
  refine (small_any _).mono ?_
  rintro e w11 ⟨n11, rfl, hg11, hb11⟩
  have Hb11 := hide (Hb10.out.trans (hb11.mono Hb10.out.size))
  have HA := hide (All_begun (some ⟨n11, 0, none⟩) 2 (some ⟨w6.heap.size + 1, 0, none⟩) 2 w11 hg11 (ClausesP_below hb11 Hcl10.out))
  clear hg11 hb11 Hcl10
  go_wp2_with fail
  refine HA.out.mono ?_
  rintro e w12 ⟨⟨a2, cap2, rfl⟩, hb12⟩
  have Hb12 := hide (Hb11.out.trans (hb12.mono Hb11.out.size))
  clear hb12 HA
  go_wp2_with fail
  go_ret
  exact ⟨rfl, Hb12.out⟩
end Go.Proofs.YtbkedppkdhfpoabGreat

namespace Go.Proofs.YtbkedppkdhfpoabGreat
theorem cl_congr {n : Int} {ls : List (List Int)} {f g : Int → Int} {c : List Lit} (h : ∀ v, v ∈ clVars c → f v = g v) : clHolds n ls f c = clHolds n ls g c := by
  have h2 : ∀ x, x ∈ c → litHolds n ls f x = litHolds n ls g x := fun x hx => by
    have e1 := val_congr (n := n) (ls := ls) (f := f) (g := g) _ x.2.1 (Nat.le_refl _) (fun p hp hp0 => h p.v (clVars_mem.2 (clNums_mem.2 ⟨x, hx, Or.inl (varsT_mem.2 ⟨p, hp, hp0, rfl⟩)⟩)))
    have e2 := val_congr (n := n) (ls := ls) (f := f) (g := g) _ x.2.2 (Nat.le_refl _) (fun p hp hp0 => h p.v (clVars_mem.2 (clNums_mem.2 ⟨x, hx, Or.inr (varsT_mem.2 ⟨p, hp, hp0, rfl⟩)⟩)))
    rw [litHolds, litHolds, e1, e2]
  rw [clHolds, clHolds]
  induction c with
  | nil => rfl
  | cons x c ih =>
    rw [List.any_cons, List.any_cons, h2 x (by simp)]
    congr 1
    have h3 : ∀ y, y ∈ c → litHolds n ls f y = litHolds n ls g y := fun y hy => h2 y (List.mem_cons_of_mem x hy)
    clear ih h h2
    induction c with
    | nil => rfl
    | cons y c ih => rw [List.any_cons, List.any_cons, h3 y (by simp), ih (fun z hz => h3 z (List.mem_cons_of_mem y hz))]
theorem allV_iff {n : Int} (hn : 0 < n) {G : (Int → Option Int) → Bool} : ∀ {vs : List Int} {g : Int → Option Int}, allV n G vs g = true ↔ ∀ f : Int → Int, (∀ v, 0 ≤ f v ∧ f v < n) → G (fun k => if k ∈ vs then some (f k) else g k) = true := by
  intro vs
  induction vs with
  | nil =>
    intro g
    rw [allV]
    constructor
    · intro h f _; simpa using h
    · intro h; simpa using h (fun _ => 0) (fun _ => ⟨Int.le_refl _, hn⟩)
  | cons v vs ih =>
    intro g
    rw [allV, List.all_eq_true]
    constructor
    · intro h f hf
      have hv := hf v
      have h1 := (ih.1 (h (f v).toNat (List.mem_range.2 (by omega)))) f hf
      rw [← h1]
      congr 1
      funext k
      by_cases e1 : k ∈ vs
      · simp [e1]
      · by_cases e2 : k = v
        · subst e2
          rw [if_pos (by simp), if_neg e1, updI, if_pos rfl, Int.toNat_of_nonneg hv.1]
        · rw [if_neg (by simp [e1, e2]), if_neg e1, updI, if_neg e2]
    · intro h i hi
      have hi2 := List.mem_range.1 hi
      refine ih.2 (fun f hf => ?_)
      have h1 := h (fun k => if k ∈ vs then f k else (i : Int)) (fun k => by
        show 0 ≤ (if k ∈ vs then f k else (i : Int)) ∧ _ < n
        by_cases e1 : k ∈ vs
        · simp only [if_pos e1]; exact hf k
        · simp only [if_neg e1]; omega)
      rw [← h1]
      congr 1
      funext k
      by_cases e1 : k ∈ vs
      · simp [e1]
      · by_cases e2 : k = v
        · subst e2
          simp [e1, updI]
        · rw [if_neg e1, if_neg (by simp [e1, e2]), updI, if_neg e2]
end Go.Proofs.YtbkedppkdhfpoabGreat

namespace Go.Proofs.YtbkedppkdhfpoabGreat
def Sem (n : Int) (ls : List (List Int)) (c : List Lit) : Prop := ∀ f : Int → Int, (∀ v, 0 ≤ f v ∧ f v < n) → clHolds n ls f c = true
theorem sem_iff {n : Int} {ls : List (List Int)} {c : List Lit} (hn : 0 < n) : allV n (fun g => clHolds n ls (fun k => (g k).getD 0) c) (clVars c) (fun _ => none) = true ↔ Sem n ls c := by
  rw [allV_iff hn]
  have he : ∀ f : Int → Int, clHolds n ls (fun k => ((fun k => if k ∈ clVars c then some (f k) else none) k).getD 0) c = clHolds n ls f c := fun f => cl_congr fun v hv => by
    show ((if v ∈ clVars c then some (f v) else none) : Option Int).getD 0 = f v
    rw [if_pos hv]; rfl
  constructor
  · intro h f hf; rw [← he]; exact h f hf
  · intro h f hf
    have := h f hf
    rw [← he] at this; exact this
theorem row_sub {n : Int} {ls : List (List Int)} {f : Int → Int} {θ : Int → T} {N : Nat} (ih : ∀ t : T, t.sz ≤ N → valT n ls f (sub θ t) = valT n ls (fun v => valT n ls f (θ v)) t) : ∀ (ts : List T) (r : Int), T.sz.szL ts ≤ N → valT.rowL n ls f (ts.map (sub θ)) r = valT.rowL n ls (fun v => valT n ls f (θ v)) ts r := by
  intro ts
  induction ts with
  | nil => intro r _; rfl
  | cons t ts iht =>
    intro r h
    rw [T.szL_cons] at h
    rw [List.map_cons]
    show valT.rowL n ls f (ts.map (sub θ)) (r * n + valT n ls f (sub θ t)) = valT.rowL n ls _ ts (r * n + valT n ls _ t)
    rw [ih t (by omega), iht _ (by omega)]
theorem val_sub {n : Int} {ls : List (List Int)} {f : Int → Int} {θ : Int → T} : ∀ (N : Nat) (t : T), t.sz ≤ N → valT n ls f (sub θ t) = valT n ls (fun v => valT n ls f (θ v)) t := by
  intro N
  induction N with
  | zero => intro t h; have := t.sz_pos; omega
  | succ N ih =>
    intro t h
    have hts := T.sz_eq t
    by_cases hv : t.v = 0
    · rw [sub_fn hv, valT_eq, valT_eq n ls (fun v => valT n ls f (θ v)) t, if_neg (by simp), if_neg (by simpa using hv)]
      simp only
      rw [row_sub ih t.args 0 (by omega)]
    · rw [sub_var hv, valT_eq n ls (fun v => valT n ls f (θ v)) t, if_pos hv]
def mapC (h : T → T) (c : List Lit) : List Lit := c.map (fun x => (x.1, h x.2.1, h x.2.2))
theorem cl_sub {n : Int} {ls : List (List Int)} {f : Int → Int} {θ : Int → T} {c : List Lit} : clHolds n ls f (mapC (sub θ) c) = clHolds n ls (fun v => valT n ls f (θ v)) c := by
  rw [clHolds, clHolds, mapC, List.any_map]
  congr 1
  funext x
  show litHolds n ls f (x.1, sub θ x.2.1, sub θ x.2.2) = _
  rw [litHolds, litHolds, val_sub _ _ (Nat.le_refl _), val_sub _ _ (Nat.le_refl _)]
theorem sem_sub {n : Int} {ls : List (List Int)} {θ : Int → T} {c : List Lit} (hn : 0 < n) (h : Sem n ls c) (hθ : ∀ f : Int → Int, (∀ v, 0 ≤ f v ∧ f v < n) → ∀ v, v ∈ clVars c → 0 ≤ valT n ls f (θ v) ∧ valT n ls f (θ v) < n) : Sem n ls (mapC (sub θ) c) := by
  intro f hf
  rw [cl_sub]
  have h1 := h (fun v => if v ∈ clVars c then valT n ls f (θ v) else 0) (fun v => by
    by_cases hv : v ∈ clVars c
    · simp only [if_pos hv]; exact hθ f hf v hv
    · simp only [if_neg hv]; omega)
  rw [← h1]
  exact cl_congr fun v hv => by simp only [if_pos hv]
theorem lit_same {n : Int} {ls : List (List Int)} {f : Int → Int} {k l : Lit} (h : sameLit k l = true) : litHolds n ls f k = litHolds n ls f l := by
  simp only [sameLit, sameS, Bool.and_eq_true, Bool.or_eq_true, beq_iff_eq, sameT_iff] at h
  rw [litHolds, litHolds]
  rcases h with ⟨h0, ⟨h1, h2⟩ | ⟨h1, h2⟩⟩
  · rw [h0, h1, h2]
  · rw [h0, h1, h2]
    congr 1
    rw [Bool.eq_iff_iff]
    simp only [beq_iff_eq]
    exact eq_comm
theorem cl_need {n : Int} {ls : List (List Int)} {f : Int → Int} : ∀ (c acc : List Lit), clHolds n ls f (needS acc c) = (clHolds n ls f acc || clHolds n ls f c) := by
  intro c
  induction c with
  | nil => intro acc; rw [needS]; simp [clHolds]
  | cons l r ih =>
    intro acc
    rw [needS, ih]
    have hc : clHolds n ls f (l :: r) = (litHolds n ls f l || clHolds n ls f r) := by rw [clHolds, clHolds, List.any_cons]
    rw [hc]
    by_cases hk : keepL acc l = true
    · rw [if_pos hk]
      have : clHolds n ls f (acc ++ [l]) = (clHolds n ls f acc || litHolds n ls f l) := by rw [clHolds, clHolds, List.any_append]; simp
      rw [this, Bool.or_assoc]
    · rw [if_neg hk]
      have hk2 : keepL acc l = false := by simpa using hk
      rw [keepL] at hk2
      simp only [Bool.and_eq_false_iff, Bool.not_eq_false', Bool.or_eq_false_iff, List.any_eq_true] at hk2
      rcases hk2 with ⟨k, hka, hkl⟩ | ⟨h1, h2⟩
      · have he := lit_same (n := n) (ls := ls) (f := f) hkl
        cases hl : litHolds n ls f l with
        | false => simp
        | true =>
          have : clHolds n ls f acc = true := by
            rw [clHolds, List.any_eq_true]
            exact ⟨k, hka, he.trans hl⟩
          rw [this]; simp
      · have hl : litHolds n ls f l = false := by
          rw [litHolds, h1, sameT_iff.1 h2]
          simp
        rw [hl]; simp
def ren (L : List Int) (v : Int) : T := ⟨(L.idxOf v : Int) + 1, 0, []⟩
theorem numL_pre (v : Int) (ns : List Int) : ∃ R, numL v ns = ns ++ R := by
  rw [numL]; split
  · exact ⟨[], by simp⟩
  · exact ⟨[v], rfl⟩
theorem give_pre : ∀ (N : Nat), (∀ (t : T) (ns : List Int), t.sz ≤ N → ∃ R, (giveT t ns).2 = ns ++ R) ∧ (∀ (ts : List T) (ns : List Int), T.sz.szL ts ≤ N → ∃ R, (giveT.giveL ts ns).2 = ns ++ R) := by
  intro N
  induction N with
  | zero =>
    refine ⟨fun t ns h => by have := t.sz_pos; omega, fun ts ns h => ?_⟩
    cases ts with
    | nil => exact ⟨[], by simp [giveT.giveL]⟩
    | cons t ts => have := t.sz_pos; rw [T.szL_cons] at h; omega
  | succ N ih =>
    have h1 : ∀ (t : T) (ns : List Int), t.sz ≤ N + 1 → ∃ R, (giveT t ns).2 = ns ++ R := fun t ns h => by
      have he := T.sz_eq t
      obtain ⟨R1, e1⟩ := numL_pre t.v ns
      obtain ⟨R2, e2⟩ := ih.2 t.args (numL t.v ns) (by omega)
      rw [giveT_eq]
      exact ⟨R1 ++ R2, by simp only; rw [e2, e1, List.append_assoc]⟩
    refine ⟨h1, fun ts => ?_⟩
    induction ts with
    | nil => intro ns _; exact ⟨[], by simp [giveT.giveL]⟩
    | cons t ts iht =>
      intro ns h
      rw [T.szL_cons] at h
      obtain ⟨R1, e1⟩ := h1 t ns (by omega)
      obtain ⟨R2, e2⟩ := iht (giveT t ns).2 (by omega)
      exact ⟨R1 ++ R2, by show (giveT.giveL ts (giveT t ns).2).2 = _; rw [e2, e1, List.append_assoc]⟩
theorem idx_pre {v : Int} {A R : List Int} (h : v ∈ A) : (A ++ R).idxOf v = A.idxOf v := by rw [List.idxOf_append, if_pos h]
theorem give_ren {ar : List Int} : ∀ (N : Nat), (∀ (t : T) (ns R : List Int), t.sz ≤ N → okP ar t → (giveT t ns).1 = sub (ren ((giveT t ns).2 ++ R)) t) ∧ (∀ (ts : List T) (ns R : List Int), T.sz.szL ts ≤ N → (∀ t, t ∈ ts → okP ar t) → (giveT.giveL ts ns).1 = ts.map (sub (ren ((giveT.giveL ts ns).2 ++ R)))) := by
  intro N
  induction N with
  | zero =>
    refine ⟨fun t ns R h => by have := t.sz_pos; omega, fun ts ns R h _ => ?_⟩
    cases ts with
    | nil => rfl
    | cons t ts => have := t.sz_pos; rw [T.szL_cons] at h; omega
  | succ N ih =>
    have h1 : ∀ (t : T) (ns R : List Int), t.sz ≤ N + 1 → okP ar t → (giveT t ns).1 = sub (ren ((giveT t ns).2 ++ R)) t := fun t ns R h ht => by
      have he := T.sz_eq t
      rw [giveT_eq]
      simp only
      by_cases hv : t.v = 0
      · rw [sub_fn hv, numV, if_pos hv, ih.2 t.args (numL t.v ns) R (by omega) (fun a ha => okArg ht ha)]
      · rw [sub_var hv, (ok_var ht hv).2]
        show (⟨numV t.v ns, t.f, []⟩ : T) = ren (numL t.v ns ++ R) t.v
        have hm : t.v ∈ numL t.v ns := by
          rw [numL]; split
          · rename_i h9; exact h9.resolve_left hv
          · simp
        rw [ren, idx_pre hm, numV, if_neg hv, (ok_var ht hv).1]
    refine ⟨h1, fun ts => ?_⟩
    induction ts with
    | nil => intro ns R _ _; rfl
    | cons t ts iht =>
      intro ns R h hok
      rw [T.szL_cons] at h
      obtain ⟨R2, e2⟩ := (give_pre (T.sz.szL ts)).2 ts (giveT t ns).2 (Nat.le_refl _)
      show (giveT t ns).1 :: (giveT.giveL ts (giveT t ns).2).1 = (t :: ts).map (sub (ren ((giveT.giveL ts (giveT t ns).2).2 ++ R)))
      rw [List.map_cons, iht (giveT t ns).2 R (by omega) (fun a ha => hok a (List.mem_cons_of_mem _ ha)), h1 t ns (R2 ++ R) (by omega) (hok t List.mem_cons_self), e2, List.append_assoc]
theorem giveC_pre : ∀ (c : List Lit) (ns : List Int), ∃ R, (giveC c ns).2 = ns ++ R := by
  intro c
  induction c with
  | nil => intro ns; exact ⟨[], by simp [giveC]⟩
  | cons x c ih =>
    intro ns
    obtain ⟨R1, e1⟩ := (give_pre x.2.1.sz).1 x.2.1 ns (Nat.le_refl _)
    obtain ⟨R2, e2⟩ := (give_pre x.2.2.sz).1 x.2.2 (giveT x.2.1 ns).2 (Nat.le_refl _)
    obtain ⟨R3, e3⟩ := ih (giveT x.2.2 (giveT x.2.1 ns).2).2
    rw [giveC]
    exact ⟨R1 ++ (R2 ++ R3), by simp only; rw [e3, e2, e1]; simp⟩
theorem giveC_ren {ar : List Int} : ∀ (c : List Lit) (ns R : List Int), LitsOk ar c → (giveC c ns).1 = mapC (sub (ren ((giveC c ns).2 ++ R))) c := by
  intro c
  induction c with
  | nil => intro ns R _; rfl
  | cons x c ih =>
    intro ns R h
    have hx := h x List.mem_cons_self
    obtain ⟨R2, e2⟩ := (give_pre x.2.2.sz).1 x.2.2 (giveT x.2.1 ns).2 (Nat.le_refl _)
    obtain ⟨R3, e3⟩ := giveC_pre c (giveT x.2.2 (giveT x.2.1 ns).2).2
    have a1 := (give_ren (ar := ar) x.2.1.sz).1 x.2.1 ns (R2 ++ R3 ++ R) (Nat.le_refl _) hx.1.2
    have a2 := (give_ren (ar := ar) x.2.2.sz).1 x.2.2 (giveT x.2.1 ns).2 (R3 ++ R) (Nat.le_refl _) hx.2.2
    have a3 := ih (giveT x.2.2 (giveT x.2.1 ns).2).2 R (fun y hy => h y (List.mem_cons_of_mem _ hy))
    show (x.1, (giveT x.2.1 ns).1, (giveT x.2.2 (giveT x.2.1 ns).2).1) :: (giveC c (giveT x.2.2 (giveT x.2.1 ns).2).2).1 = (x.1, sub (ren ((giveC c (giveT x.2.2 (giveT x.2.1 ns).2).2).2 ++ R)) x.2.1, sub (ren ((giveC c (giveT x.2.2 (giveT x.2.1 ns).2).2).2 ++ R)) x.2.2) :: mapC (sub (ren ((giveC c (giveT x.2.2 (giveT x.2.1 ns).2).2).2 ++ R))) c
    rw [a3, a1, a2, e3, e2]
    simp only [List.append_assoc]
theorem sem_tidy {ar : List Int} {n : Int} {ls : List (List Int)} {c : List Lit} (hn : 0 < n) (hlo : LitsOk ar c) (h : Sem n ls c) : Sem n ls (giveC (needS [] c) []).1 := by
  have h1 : Sem n ls (needS [] c) := fun f hf => by rw [cl_need, h f hf]; simp
  have e := giveC_ren (ar := ar) (needS [] c) [] [] (need_ok hlo)
  rw [e]
  refine sem_sub hn h1 fun f hf v _ => ?_
  rw [ren, valT_eq, if_pos (by simp only; omega)]
  exact hf _
end Go.Proofs.YtbkedppkdhfpoabGreat
