/- The keys of a map, sorted. The bindings of a map, rising. The unifier's bindings, rising. What the program's Unify comes to, in pure words; the variables' numbers while parts are added. The program's Match: what it answers. The program's Unify. What must be in any case of putting in: it is. -/
import Derived.Deep.AppendLies
import Derived.Deep.RegionHeld3
import Derived.Test.YtbkedppkdhfpoaaJoined12
namespace Go.Proofs.Ytbkedppkdhfpoaa
open Go.RowKit Go.Maps Go.Sort Go.Shelf

theorem sorts_any (m : Nat) : AnyZI.SortsIn Try.prog Try.sortedB_ren Fence.wide m :=
  ⟨fun blk off cap ss W hH hblk hsz => callsIn_wide.2 (Go.Proofs.Try.slices_Sort_int blk off cap ss W hH hblk hsz),
   fun p cap W => callsIn_wide.2 (Go.Proofs.Try.slices_Sort_int_none p cap W)⟩

theorem keys_perm {w : World} {b n : Nat} {D : DataW Value} {f : Int → Option Value} (hD : w.ownsMap Try.prog 3 Rv b n D) (hf : ∀ k : Int, Maps.has D (.int .i64 k) = (f k).isSome ∧ ∀ v, f k = some v → ∀ z, D.atKey (.int .i64 k) z = .held v)
    {K : List Int} (hnd : K.Nodup) (hK : ∀ x, x ∈ K ↔ (f x).isSome = true) : K.Perm (intKeys D) :=
  CollectedI.perm (left := fun _ => false) ⟨hnd, fun x => by rw [hK x, (hf x).1]; simp⟩ hD Try.key3 Try.underlying3 (fun _ => rfl)

theorem keysB_any (mb : Option Nat) (w : World) : Calls Try.prog 92 #[.map mb] w fun e w' => e = .returned (.func (.func 116) #[] #[.pointer (some ⟨w.heap.size, 0, none⟩)]) ∧ w' = w.alloc (.cells #[.map mb] 92) :=
  (callsIn_wide (n := 5)).1 (AnyZI.keys_in Try.keysB Fence.wide 5 trivial rfl mb w)
theorem keysI_any (mb : Option Nat) (w : World) : Calls Try.prog 95 #[.map mb] w fun e w' => e = .returned (.func (.func 117) #[] #[.pointer (some ⟨w.heap.size, 0, none⟩)]) ∧ w' = w.alloc (.cells #[.map mb] 99) :=
  (callsIn_wide (n := 5)).1 (AnyZI.keys_in Try.keysI Fence.wide 5 trivial rfl mb w)

/-- What slices.Sorted makes of an iterator over the keys K. -/
theorem sorted_of (g : Nat) (eg : ∀ args w, (callFunc g args).run Try.prog w = .ok (.enter g args) w) (Bm : Nat) (w : World) (K : List Int) (D : DataW Value) (N : Nat) (hN : N ≤ 100000) (hp : K.Perm (intKeys D))
    (hseq : SeqGives Fence.wide 2 Try.prog g #[.pointer (some ⟨Bm, 0, none⟩)] encZ (fun ss => ss.Perm (intKeys D)) N w) :
    Calls Try.prog 91 #[.func (.func g) #[] #[.pointer (some ⟨Bm, 0, none⟩)]] w fun e w' => ∃ v, e = .returned v ∧ OwnI w.heap.size w' v (K.mergeSort (fun x y => decide (x ≤ y))) ∧ Below w.heap.size w w' := by
  refine (callsIn_wide (n := 5)).1 ?_
  have cS := AnyZI.sorted_in Try.sortedB Fence.wide 5 trivial trivial trivial trivial rfl (by omega) (sorts_any _) (enters_of Try.func56 (by kernel_rfl) rfl) g #[.pointer (some ⟨Bm, 0, none⟩)] trivial eg _ N (by unfold maxLen; omega) (by omega) _ hseq
  change CallsIn _ _ Try.prog 91 _ _ _ at cS
  refine cS.mono ?_
  rintro e w' ⟨v, ss, rfl, hS, hrow, _, hb⟩
  have hpp : ss.Perm K := hS.trans hp.symm
  have e1 := mergeSort_of_perm_i hpp
  rw [show (fun x y : Int => decide (x ≤ y)) = leI from rfl, e1] at hrow
  have e2 : ss.length = (K.mergeSort leI).length := by rw [List.length_mergeSort, hpp.length_eq]
  rw [e2] at hrow
  exact ⟨v, rfl, hrow, hb⟩

theorem sortedB_any (b n : Nat) (f : Int → Option Value) (K : List Int) (hn : n ≤ 100000) (hnd : K.Nodup) (hK : ∀ x, x ∈ K ↔ (f x).isSome = true) (Bm : Nat) (w : World) (hM : MapAt w b n f) (hc : w.cell? ⟨Bm, 0, none⟩ = some (.map (some b))) :
    Calls Try.prog 91 #[.func (.func 116) #[] #[.pointer (some ⟨Bm, 0, none⟩)]] w fun e w' => ∃ v, e = .returned v ∧ OwnI w.heap.size w' v (K.mergeSort (fun x y => decide (x ≤ y))) ∧ Below w.heap.size w w' := by
  obtain ⟨D, hD, hf⟩ := hM
  have hsz := hD.size_le
  exact sorted_of 116 (enters_of Try.func116 (by kernel_rfl) rfl) Bm w K D (Maps.size D) (by omega) (keys_perm hD hf hnd hK)
    (AnyZI.keys_gives (ρ := Try.keysB_ren) { Try.keysB with } Fence.wide _ trivial rfl (by omega) Bm b n D w (lt_of_cell hc) hc hD)
theorem sortedI_any (b n : Nat) (f : Int → Option Value) (K : List Int) (hn : n ≤ 100000) (hnd : K.Nodup) (hK : ∀ x, x ∈ K ↔ (f x).isSome = true) (Bm : Nat) (w : World) (hM : MapAt w b n f) (hc : w.cell? ⟨Bm, 0, none⟩ = some (.map (some b))) :
    Calls Try.prog 91 #[.func (.func 117) #[] #[.pointer (some ⟨Bm, 0, none⟩)]] w fun e w' => ∃ v, e = .returned v ∧ OwnI w.heap.size w' v (K.mergeSort (fun x y => decide (x ≤ y))) ∧ Below w.heap.size w w' := by
  obtain ⟨D, hD, hf⟩ := hM
  have hsz := hD.size_le
  exact sorted_of 117 (enters_of Try.func117 (by kernel_rfl) rfl) Bm w K D (Maps.size D) (by omega) (keys_perm hD hf hnd hK)
    (AnyZI.keys_gives (ρ := Try.keysI_ren) { Try.keysI with } Fence.wide _ trivial rfl (by omega) Bm b n D w (lt_of_cell hc) hc hD)

end Go.Proofs.Ytbkedppkdhfpoaa

namespace Go.Proofs.Ytbkedppkdhfpoaa
open Go.RowKit Go.Maps

/-- The variables, sorted. -/
def keysB (bs : List (Int × T)) : List Int := (bs.map (·.1)).mergeSort (fun x y => decide (x ≤ y))
/-- The bindings, sorted by variables. -/
def sortB (bs : List (Int × T)) : List (Int × T) := (keysB bs).map (fun v => (v, (lookB bs v).getD zeroT))
theorem keysB_length (bs : List (Int × T)) : (keysB bs).length = bs.length := by rw [keysB, List.length_mergeSort, List.length_map]
theorem sortB_length (bs : List (Int × T)) : (sortB bs).length = bs.length := by rw [sortB, List.length_map, keysB_length]
theorem lookB_isSome {bs : List (Int × T)} {v : Int} : v ∈ bs.map (·.1) ↔ (lookB bs v).isSome = true := by
  induction bs with
  | nil => simp [lookB]
  | cons x bs ih =>
    obtain ⟨w, u⟩ := x
    rw [List.map_cons, List.mem_cons, lookB]
    by_cases h : w = v
    · rw [if_pos h]; simp [h]
    · rw [if_neg h, ← ih]
      constructor
      · rintro (e | e)
        · exact absurd e.symm h
        · exact e
      · exact Or.inr
theorem once_nodup {bs : List (Int × T)} (h : Once bs) : (bs.map (·.1)).Nodup := by
  rw [List.nodup_iff_pairwise_ne, List.pairwise_iff_getElem]
  intro i j hi hj hij e
  rw [List.length_map] at hi hj
  simp only [List.getElem_map] at e
  have := h i j bs[i] bs[j] (List.getElem?_eq_getElem hi) (List.getElem?_eq_getElem hj) e
  omega
theorem keysB_at {bs : List (Int × T)} {k : Nat} {v : Int} (h : (keysB bs)[k]? = some v) : ∃ u, lookB bs v = some u ∧ (sortB bs)[k]? = some (v, u) := by
  have hm := List.mem_of_getElem? h
  rw [keysB, List.mem_mergeSort] at hm
  obtain ⟨u, hu⟩ := Option.isSome_iff_exists.1 (lookB_isSome.1 hm)
  exact ⟨u, hu, by rw [sortB, List.getElem?_map, h]; simp [hu]⟩

set_option maxRecDepth 100000 in
set_option maxHeartbeats 2000000 in
theorem bindingsP_any (q : Nat → Prop) (b : Nat) (bs : List (Int × T)) (w : World) (ho : Once bs) (hl : bs.length ≤ 1000) (hr : ∀ x, x ∈ bs → 1 ≤ x.1 ∧ x.1 ≤ 1000) (hM : MB q b bs w) :
    Calls Try.prog 73 #[.map (some b)] w fun e w' => ∃ a cap, e = .returned (.slice a bs.length cap) ∧ Binds (fun k => w.heap.size ≤ k) w' (sortB bs) a ∧ Below w.heap.size w w' := by
  obtain ⟨⟨f, hMf, hBf⟩, hsz⟩ := hM
  have HK := hide (show ∀ x, x ∈ bs.map (·.1) ↔ (f x).isSome = true from fun x => by
    rw [lookB_isSome]
    cases h : lookB bs x with
    | none => rw [(hBf x).1 h]; simp
    | some u => obtain ⟨a, cap, hf, _⟩ := (hBf x).2 u h; rw [hf]; simp)
  have hlen : ∀ ty, (Builtin.len_ #[92] ty #[.map (some b)]).run Try.prog w = .ok (.int .i64 (bs.length : Nat)) w := fun ty => by
    obtain ⟨D, hD, hf⟩ := hMf
    have hp := keys_perm hD hf (once_nodup ho) HK.out
    have e1 : Maps.size D = bs.length := by
      have h1 := hp.length_eq
      rw [List.length_map] at h1
      rw [h1]
      obtain ⟨es, rfl⟩ := hD.isMap
      simp [intKeys, Maps.size]
    rw [hD.len Try.underlying92 ty, e1]
  have hmk := run_make4 bs.length (by omega)
  have HM := hide hMf
  have HB := hide hBf
  have Hsz := hide hsz
  have Ho := hide ho
  have Hr := hide hr
  obtain ⟨ti, hi, hzz⟩ := Option.map_eq_some_iff.1 Try.info95
  simp only [Prod.mk.injEq] at hzz
  obtain ⟨hz0, hz1, hz2⟩ := hzz
  clear hMf hBf hsz ho hr
  go_enter Try.func73, Try.ntmps73
  go_wp2_with (first
    | (go_at_call 92; refine (keysB_any _ _).mono ?_; rintro e w' ⟨rfl, rfl⟩)
    | (go_at_call 91; refine (sortedB_any b bs.length f (bs.map (·.1)) (by omega) (once_nodup Ho.out) HK.out _ _ (HM.out.below (below2 _ _ _)) (by rw [cell_new 0 (by simp)]; rfl)).mono ?_; rintro e w1 ⟨v1, rfl, hown1, hb1⟩; obtain ⟨va, vc, rfl, hints1, _⟩ := own_ints hown1))
  have hz1' : w.heap.size + 2 ≤ w1.heap.size := by have := hb1.size; simp at this; omega
  have Hbw1 : Hid (Below w.heap.size w w1) := (below2 _ _ _).trans (hb1.mono (by simp; omega))
  have Hl0 : Hid (OutsB (fun _ => False) w.heap.size w1 (.slice (some ⟨w.heap.size, 0, none⟩) 0 bs.length) []) := OutsB_below (OutsB_below (OutsB_made (Nat.le_refl _) (by omega)) (below1 _ _)) hb1
  have Hkeys : Hid (∀ (k : Nat) (v : Int), (keysB bs)[k]? = some v → ∃ b1 off1, va = some ⟨b1, off1, none⟩ ∧ b1 ≠ w.heap.size ∧ b1 < w1.heap.size ∧ w1.cell? ⟨b1, off1 + k, none⟩ = some (.int .i64 v)) := fun k v hv => by
    have hlt : k < (keysB bs).length := by
      rcases Nat.lt_or_ge k (keysB bs).length with h | h
      · exact h
      · rw [List.getElem?_eq_none h] at hv; cases hv
    have hpos : 0 < (keysB bs).length := by omega
    obtain ⟨b1, off1, rfl, hc⟩ := Ints_some hints1 hpos
    have h1 := hc k hlt
    rw [List.getD_eq_getElem?_getD, show ((bs.map (·.1)).mergeSort (fun x y => decide (x ≤ y)))[k]? = some v from hv] at h1
    have h2 := own_lt hown1 b1 rfl
    simp at h2
    exact ⟨b1, off1, rfl, by omega, lt_of_cell h1, h1⟩
  clear hb1 hown1 hints1 hlen hmk
  go_wp2_with fail
  go_loopw [3, 13] (fun l i wr => ∃ k : Nat, k ≤ bs.length ∧ i = .int .i64 k ∧ OutsB (fun _ => False) w.heap.size wr l ((sortB bs).take k) ∧ Grw w1 wr (some w.heap.size) l.ownBlock) (fun _ i _ => bs.length - (intOf i).toNat)
  case atStart => exact ⟨0, Nat.zero_le _, rfl, Hl0.out, Grw.refl _ _⟩
  case round =>
    obtain ⟨k, hk, rfl, hout, hgrw⟩ := hrel
    have Hout := hide hout
    have Hgrw := hide hgrw
    have hzr := hgrw.gr.size
    clear hout hgrw
    have HbR : Hid (Below w.heap.size w wr) := Hbw1.out.trans (Hgrw.out.below (by omega) (fun g hg => by cases hg; exact Nat.le_refl _))
    by_cases hlt : k < bs.length
    · obtain ⟨v, hv⟩ : ∃ v, (keysB bs)[k]? = some v := ⟨(keysB bs)[k]'(by rw [keysB_length]; exact hlt), List.getElem?_eq_getElem _⟩
      obtain ⟨u, hlk, hst⟩ := keysB_at hv
      obtain ⟨b1, off1, rfl, hb1n, hb1l, hc1⟩ := Hkeys.out k v hv
      have hcr : wr.cell? ⟨b1, off1 + k, none⟩ = some (.int .i64 v) := by
        rw [World.cell?_of_block (w := w1) (a := ⟨b1, off1 + k, none⟩) (Hgrw.out.gr.block b1 hb1l (fun e => hb1n (by cases e; rfl)))]; exact hc1
      obtain ⟨a1, cap1, hf, hin1⟩ := (HB.out v).2 u hlk
      have husz := Hsz.out _ _ (lookB_mem hlk)
      have hvr := Hr.out _ (lookB_mem hlk)
      have hvr1 : 1 ≤ v := hvr.1
      have hvr2 : v ≤ 1000 := hvr.2
      have hlook := (HM.out.below HbR.out).look (t := 92) Try.underlying92 (Try.zero27 _) (k := v) (by omega) (by omega)
      rw [hf] at hlook
      have HT1 := hide (show (sortB bs).take (k + 1) = (sortB bs).take k ++ [(v, u)] by rw [List.take_add_one, hst]; rfl)
      have Htk : Hid (((sortB bs).take k).length = k) := by show _ = _; rw [List.length_take, sortB_length]; omega
      have HC := hide (copyOf_any (u.sz + 1) u a1 cap1 wr (by omega) husz (InP_imp (q := fun _ => True) (fun _ _ => trivial) (InP_below HbR.out hin1)))
      have hkI : (k : Int) < bs.length := by omega
      have hk0 : (0 : Int) ≤ k := by omega
      clear hv hlk hst hc1 hf hin1 hvr Hkeys
      go_wp2_with (first
        | (go_at_call 65
           refine HC.out.mono ?_
           rintro e w2 ⟨s, Bc, rfl, hown, _, hrg, hb2⟩
           obtain ⟨a2, cap2, rfl, hin2⟩ := In_iff.1 (Own_inP hown)
           have hzw2 := hb2.size
           have Hout2 := hide (OutsB_below Hout.out hb2)
           obtain ⟨xs, hownL, hkids⟩ := Hout2.out
           have HO := hide (fun o1 => own_same hownL (w' := w2.alloc o1) (fun g hg => (below1 w2 o1).block g (own_lt hownL g hg).2))
           have HCi : Hid (InP (fun k' => (False ∨ w.heap.size ≤ k') ∧ u3.ownBlock ≠ some k') w2 u.args a2) := InP_imp (fun k' hk' => by
             have h8 := (hrg k' hk').1
             refine ⟨Or.inr (by omega), fun e => ?_⟩
             obtain ⟨xs0, h0, _⟩ := Hout.out
             have := (own_lt h0 k' e).2
             omega) hin2
           have Hg2 := hide (Hgrw.out.trans (Grw.of_below _ hb2))
           clear hown hrg hin2 hb2)
        | (at_builtin
           go_must (refine wpList_append_lies _ rfl (.tmp 17) (.tmp 24) 51 rfl w.heap.size 95 ti (.agg #[.int .i64 0, .int .i64 0, .int .i64 0, .slice none 0 0]) 4 48 Try.underlying51 hi hz0 hz1 hz2 rfl (by decide) u3 ((sortB bs).take k).length xs rfl (HO.out _) ⟨w2.heap.size, 0, none⟩ 1 1 [.int .i64 v, .int .i64 u.v, .int .i64 u.f, .slice a2 u.args.length cap2] rfl rfl (four_new (by first | rfl | simp)) (by simp [Value.oneCell']) (by decide) (by have := Htk.out; unfold maxLen; omega) (by have := Htk.out; omega) (by simp; omega) _ rfl ?_)
           intro g capg w3 hown3 hgr3 hat3 hlt3))
      have hO3 := OutsB_step (x := (v, u)) (KidsB_mono (fun k' hk' hlt' => ⟨hk', (below1 w2 _).block k' hlt'⟩) hkids) (InP_alloc _ HCi.out) hown3 hgr3 (hat3.imp id (fun h => by rw [h]))
      have hG3 : Grw w1 w3 (some w.heap.size) (Value.slice (some ⟨g, 0, none⟩) (((sortB bs).take k).length + 1) capg).ownBlock := Hg2.out.trans ((Grw.of_below _ (below1 _ _)).trans ⟨hgr3, by
        rcases hat3 with h | h
        · exact Or.inl h.symm
        · exact Or.inr ⟨g, rfl, by rw [h]; simp⟩⟩)
      rw [← HT1.out, Htk.out] at hO3
      rw [Htk.out] at hG3
      have hmin : min k (sortB bs).length = k := by rw [sortB_length]; omega
      go_roundw
      case rel => exact ⟨k + 1, by omega, by go_num, by rw [hmin]; exact hO3, by rw [hmin]; exact hG3⟩
      case measure => simp [intOf]; omega
    · have hk2 : k = (sortB bs).length := by rw [sortB_length]; omega
      rw [hk2, List.take_length] at Hout
      obtain ⟨la, lc, rfl, hinL⟩ := OutsB_end Hout.out
      rw [sortB_length] at hk2
      subst hk2
      have HinL := hide hinL
      rw [sortB_length]
      clear hinL Hout
      go_wp2_with fail
      go_ret
      exact ⟨la, lc, rfl, Binds_imp (fun k' hk' => by rcases hk' with h | h; exact h.elim; exact h) HinL.out, HbR.out⟩

end Go.Proofs.Ytbkedppkdhfpoaa

namespace Go.Proofs.Ytbkedppkdhfpoaa
open Go.RowKit Go.Maps

theorem Try.underlying99 : Try.prog.underlying 99 = some (.map 3 3) := by kernel_rfl
theorem Try.zero3 (w : World) : (zeroValue 3).run Try.prog w = .ok (.int .i64 0) w := by kernel_rfl

/-- The bindings of some variables, whose parts' numbers vn tells. -/
def outF (P : List Pt) (M : Nat) (vn : Int → Nat) : List Int → Option (List (Int × T))
  | [] => some []
  | v :: l => match headF P (P.length + 1) (vn v) with
    | none => none
    | some h => if h = vn v then outF P M vn l else match madeF P M (vn v) with
      | none => none
      | some t => match outF P M vn l with
        | none => none
        | some bs => some ((v, t) :: bs)
theorem outF_cons {P : List Pt} {M : Nat} {vn : Int → Nat} {v : Int} {l : List Int} {bs : List (Int × T)} (hm : outF P M vn (v :: l) = some bs) : ∃ h, headF P (P.length + 1) (vn v) = some h ∧
    ((h = vn v ∧ outF P M vn l = some bs) ∨ (h ≠ vn v ∧ ∃ t bs', madeF P M (vn v) = some t ∧ outF P M vn l = some bs' ∧ bs = (v, t) :: bs')) := by
  rw [outF] at hm
  split at hm
  · cases hm
  · rename_i h hh
    refine ⟨h, hh, ?_⟩
    split at hm
    · rename_i e; exact Or.inl ⟨e, hm⟩
    · rename_i e
      split at hm
      · cases hm
      · rename_i t ht
        split at hm
        · cases hm
        · rename_i bs' hbs
          exact Or.inr ⟨e, t, bs', ht, hbs, (Option.some.inj hm).symm⟩

set_option maxRecDepth 100000 in
set_option maxHeartbeats 2000000 in
theorem bindU_any (q : Nat → Prop) (u b c : Nat) (P : List Pt) (M mb n : Nat) (f : Int → Option Value) (K : List Int) (vn : Int → Nat) (bs : List (Int × T)) (w : World) (hU : UAt q w u b c P) (hmc : w.cell? ⟨u, 1, none⟩ = some (.map (some mb))) (hM : MapAt w mb n f) (hn : n ≤ 100000) (hnd : K.Nodup) (hK : ∀ x, x ∈ K ↔ (f x).isSome = true)
    (hf : ∀ x, x ∈ K → f x = some (.int .i64 (vn x : Nat)) ∧ 0 ≤ x ∧ x ≤ 100000) (hlK : K.length ≤ 100000) (ho : outF P M vn (K.mergeSort (fun x y => decide (x ≤ y))) = some bs) :
    Calls Try.prog 77 #[.pointer (some ⟨u, 0, none⟩)] w fun e w' => ∃ a cap, e = .returned (.slice a bs.length cap) ∧ Binds (fun k => w.heap.size ≤ k) w' bs a ∧ Below w.heap.size w w' := by
  obtain ⟨KS, hKS⟩ : ∃ KS, KS = K.mergeSort (fun x y => decide (x ≤ y)) := ⟨_, rfl⟩
  have hKl : KS.length = K.length := by rw [hKS, List.length_mergeSort]
  have HKm := hide (show ∀ x, x ∈ KS → x ∈ K from fun x hx => by rw [hKS, List.mem_mergeSort] at hx; exact hx)
  rw [← hKS] at ho
  have HKS := hide hKS
  have HU := hide hU
  have HM := hide hM
  have HK := hide hK
  have Hf := hide hf
  have Ho := hide ho
  have Hnd := hide hnd
  obtain ⟨ti, hi, hzz⟩ := Option.map_eq_some_iff.1 Try.info95
  simp only [Prod.mk.injEq] at hzz
  obtain ⟨hz0, hz1, hz2⟩ := hzz
  have hul := lt_of_cell hmc
  clear hU hM hK hf ho hnd hKS
  go_enter Try.func77, Try.ntmps77
  go_wp2_with (first
    | (go_at_call 95; refine (keysI_any _ _).mono ?_; rintro e w' ⟨rfl, rfl⟩)
    | (go_at_call 91; refine (sortedI_any mb n f K hn Hnd.out HK.out _ _ (HM.out.below (below1 _ _)) (by rw [cell_new 0 (by simp)]; rfl)).mono ?_; rintro e w1 ⟨v1, rfl, hown1, hb1⟩; rw [← HKS.out] at hown1; obtain ⟨va, vc, rfl, hints1, _⟩ := own_ints hown1))
  have hz1' : w.heap.size + 1 ≤ w1.heap.size := by have := hb1.size; simp at this; omega
  have Hbw1 : Hid (Below w.heap.size w w1) := (below1 _ _).trans (hb1.mono (by simp))
  have Hints := hide hints1
  have hmc1 : w1.cell? ⟨u, 1, none⟩ = some (.map (some mb)) := cell_below Hbw1.out hmc
  clear hb1 hown1 hints1 hmc
  go_loopw [3, 14] (fun l i wr => ∃ (k : Nat) (acc rest : List (Int × T)), k ≤ K.length ∧ i = .int .i64 k ∧ acc.length ≤ k ∧ Hid (outF P M vn (KS.drop k) = some rest) ∧ Hid (bs = acc ++ rest) ∧ OutsB (fun _ => False) w.heap.size wr l acc ∧ Grw w1 wr none l.ownBlock) (fun _ i _ => K.length - (intOf i).toNat)
  case atStart => exact ⟨0, [], bs, Nat.zero_le _, rfl, Nat.le_refl _, Ho, rfl, OutsB_nil, Grw.refl _ _⟩
  case round =>
    obtain ⟨k, acc, rest, hk, rfl, hacc, HL, Hbs, hout, hgrw⟩ := hrel
    have Hout := hide hout
    have Hgrw := hide hgrw
    have hzr := hgrw.gr.size
    have HbR1 : Hid (Below w1.heap.size w1 wr) := hgrw.below (Nat.le_refl _) (fun g hg => by cases hg)
    clear hout hgrw
    have HbR : Hid (Below w.heap.size w wr) := Hbw1.out.trans (HbR1.out.mono (by omega))
    by_cases hlt : k < K.length
    · have hlt2 : k < KS.length := by omega
      obtain ⟨v, hv⟩ : ∃ v, KS[k]? = some v := ⟨KS[k], List.getElem?_eq_getElem hlt2⟩
      obtain ⟨b1, off1, rfl, hc⟩ := Ints_some Hints.out (show 0 < KS.length by omega)
      have hcr : wr.cell? ⟨b1, off1 + k, none⟩ = some (.int .i64 v) := by
        have h1 := hc k hlt2
        rw [List.getD_eq_getElem?_getD, hv] at h1
        exact cell_below HbR1.out h1
      obtain ⟨hfv, hv0, hv1⟩ := Hf.out v (HKm.out v (List.mem_of_getElem? hv))
      have hlook := (HM.out.below HbR.out).look (t := 99) Try.underlying99 (Try.zero3 _) (k := v) (by omega) (by omega)
      rw [hfv] at hlook
      have hmcr : wr.cell? ⟨u, 1, none⟩ = some (.map (some mb)) := cell_below HbR1.out hmc1
      have hd : KS.drop k = v :: KS.drop (k + 1) := by
        rw [List.drop_eq_getElem_cons hlt2]
        have := (List.getElem?_eq_some_iff.1 hv).2
        rw [this]
      have hL := HL.out
      rw [hd] at hL
      obtain ⟨h, hh, hx⟩ := outF_cons hL
      have HUr := hide (HU.out.below HbR.out)
      have HH := hide (head_any q wr u b c P _ (vn v) h HUr.out hh)
      have Hx := hide hx
      have hkI : (k : Int) < K.length := by omega
      have hk0 : (0 : Int) ≤ k := by omega
      clear hv hc hfv hd hL HL hh hx
      go_wp2_with fail
      refine HH.out.mono ?_
      rintro e w' ⟨rfl, hw'⟩
      obtain rfl := hw'.symm
      clear hw' HH
      rcases Hx.out with ⟨e9, hrest⟩ | ⟨hne, t, bs', ht, hrest, hbs'⟩
      · have e0 : ((h : Int) != ((vn v : Nat) : Int)) = false := by simp [e9]
        have Hrest := hide hrest
        clear e9 hrest Hx
        go_wp2_with fail
        go_roundw
        case rel => exact ⟨k + 1, acc, rest, by omega, by go_num, by omega, Hrest, Hbs, Hout.out, Hgrw.out⟩
        case measure => simp [intOf]; omega
      · have e0 : ((h : Int) != ((vn v : Nat) : Int)) = true := by simp; omega
        have Hrest := hide hrest
        have Hbs2 : Hid (bs = (acc ++ [(v, t)]) ++ bs') := by show _ = _; rw [Hbs.out, hbs']; simp
        have HC := hide (made_any q u b c P M (vn v) t wr HUr.out ht)
        clear hne hrest hbs' ht Hx Hbs
        go_wp2_with (first
          | (go_at_call 96
             refine HC.out.mono ?_
             rintro e w2 ⟨a2, cap2, rfl, hin2, hb2⟩
             have hzw2 := hb2.size
             have Hout2 := hide (OutsB_below Hout.out hb2)
             obtain ⟨xs, hownL, hkids⟩ := Hout2.out
             have HO := hide (fun o1 => own_same hownL (w' := w2.alloc o1) (fun g hg => (below1 w2 o1).block g (own_lt hownL g hg).2))
             have HCi : Hid (InP (fun k' => (False ∨ w.heap.size ≤ k') ∧ u3.ownBlock ≠ some k') w2 t.args a2) := InP_imp (fun k' hk' => by
               have h8 : wr.heap.size ≤ k' := hk'
               refine ⟨Or.inr (by omega), fun e => ?_⟩
               obtain ⟨xs0, h0, _⟩ := Hout.out
               have := (own_lt h0 k' e).2
               omega) hin2
             have Hg2 := hide (Hgrw.out.trans (Grw.of_below _ hb2))
             clear hin2 hb2)
          | (at_builtin
             go_must (refine wpList_append_lies _ rfl (.tmp 29) (.tmp 35) 51 rfl w.heap.size 95 ti (.agg #[.int .i64 0, .int .i64 0, .int .i64 0, .slice none 0 0]) 4 48 Try.underlying51 hi hz0 hz1 hz2 rfl (by decide) u3 acc.length xs rfl (HO.out _) ⟨w2.heap.size, 0, none⟩ 1 1 [.int .i64 v, .int .i64 t.v, .int .i64 t.f, .slice a2 t.args.length cap2] rfl rfl (four_new (by first | rfl | simp)) (by simp [Value.oneCell']) (by decide) (by unfold maxLen; omega) (by omega) (by simp; omega) _ rfl ?_)
             intro g capg w3 hown3 hgr3 hat3 hlt3))
        have hO3 := OutsB_step (x := (v, t)) (KidsB_mono (fun k' hk' hlt' => ⟨hk', (below1 w2 _).block k' hlt'⟩) hkids) (InP_alloc _ HCi.out) hown3 hgr3 (hat3.imp id (fun h => by rw [h]))
        have hG3 : Grw w1 w3 none (Value.slice (some ⟨g, 0, none⟩) (acc.length + 1) capg).ownBlock := Hg2.out.trans ((Grw.of_below _ (below1 _ _)).trans ⟨hgr3, by
          rcases hat3 with h | h
          · exact Or.inl h.symm
          · exact Or.inr ⟨g, rfl, by rw [h]; simp⟩⟩)
        go_roundw
        case rel => exact ⟨k + 1, acc ++ [(v, t)], bs', by omega, by go_num, by simp; omega, Hrest, Hbs2, hO3, hG3⟩
        case measure => simp [intOf]; omega
    · have hk2 : k = KS.length := by omega
      have h9 := HL.out
      rw [hk2, List.drop_length, outF] at h9
      have hr0 : rest = [] := (Option.some.inj h9).symm
      have hbs : bs = acc := by rw [Hbs.out, hr0]; simp
      obtain ⟨la, lc, rfl, hinL⟩ := OutsB_end Hout.out
      have HinL := hide hinL
      have Hbs3 := hide hbs
      have hk3 : k = K.length := by omega
      subst hk3
      clear hinL Hout h9 hr0 hbs hk2 HL Hbs
      go_wp2_with fail
      go_ret
      rw [Hbs3.out]
      exact ⟨la, lc, rfl, Binds_imp (fun k' hk' => by rcases hk' with h | h; exact h.elim; exact h) HinL.out, HbR.out⟩

end Go.Proofs.Ytbkedppkdhfpoaa

namespace Go.Proofs.Ytbkedppkdhfpoaa

/-- No variable twice, and each one right. -/
def keysOk (vs : List (Int × Nat)) : Prop := (vs.map Prod.fst).Nodup ∧ ∀ x, x ∈ vs.map Prod.fst → 0 ≤ x ∧ x ≤ 1000
theorem lookN_isSome (vs : List (Int × Nat)) (v : Int) : v ∈ vs.map Prod.fst ↔ (lookN vs v).isSome = true := by
  induction vs with
  | nil => simp [lookN]
  | cons x vs ih =>
    rw [List.map_cons, List.mem_cons, ih, lookN]
    by_cases h : x.1 = v
    · rw [if_pos h]; simp [h]
    · rw [if_neg h]
      constructor
      · rintro (h' | h')
        · exact absurd h'.symm h
        · exact h'
      · exact Or.inr
theorem okP_var {ar : List Int} {t : T} (h : okP ar t) (hv : t.v ≠ 0) : t.args = [] := by
  have h1 := (okP_iff.1 h).1
  rw [partErr_var hv, varErr] at h1
  by_cases h2 : t.v < 1 ∨ 1000 < t.v
  · rw [if_pos h2] at h1; cases h1
  · rw [if_neg h2] at h1
    by_cases h3 : t.args.length ≠ 0 ∨ t.f ≠ 0
    · rw [if_pos h3] at h1; cases h1
    · exact List.length_eq_zero_iff.1 (by omega)
theorem add_keys {ar : List Int} : ∀ (n : Nat), (∀ (t : T) (s : List Pt × List (Int × Nat)), t.sz ≤ n → okP ar t → keysOk s.2 → keysOk (addT t s).2.2) ∧
    (∀ (ts : List T) (s : List Pt × List (Int × Nat)), T.sz.szL ts ≤ n → okP.okL ar ts → keysOk s.2 → keysOk (addT.addL ts s).2.2) := by
  intro n
  induction n with
  | zero =>
    refine ⟨fun t s h => by have := t.sz_pos; omega, fun ts s h _ hk => ?_⟩
    cases ts with
    | nil => exact hk
    | cons t ts => have := t.sz_pos; rw [T.szL_cons] at h; omega
  | succ n ih =>
    have h1 : ∀ (t : T) (s : List Pt × List (Int × Nat)), t.sz ≤ n + 1 → okP ar t → keysOk s.2 → keysOk (addT t s).2.2 := fun t s h hok hk => by
      have he := T.sz_eq t
      cases hlk : lookN s.2 t.v with
      | some m => rw [addT_known hlk]; exact hk
      | none =>
        rw [addT_new hlk]
        have h9 := ih.2 t.args s (by omega) (okP_iff.1 hok).2 hk
        show keysOk (if t.v = 0 then _ else _)
        by_cases hv : t.v = 0
        · rw [if_pos hv]; exact h9
        · rw [if_neg hv]
          have ha := okP_var hok hv
          rw [ha] at h9 ⊢
          have h8 : keysOk s.2 := h9
          have hb := okP_le hok
          refine ⟨?_, fun x hx => ?_⟩
          · rw [List.map_cons, List.nodup_cons]
            refine ⟨fun hm => ?_, h8.1⟩
            have h7 := (lookN_isSome s.2 t.v).1 hm
            rw [hlk] at h7; cases h7
          · rw [List.map_cons, List.mem_cons] at hx
            rcases hx with rfl | hx
            · exact hb
            · exact h8.2 x hx
    refine ⟨h1, fun ts => ?_⟩
    induction ts with
    | nil => intro s _ _ hk; exact hk
    | cons t ts iht =>
      intro s h hok hk
      rw [T.szL_cons] at h
      obtain ⟨o1, o2⟩ := okL_cons.1 hok
      exact iht (addT t s).2 (by omega) o2 (h1 t s (by omega) o1 hk)

/-- What Unify answers of terms that are right: bindings, whether there are some, an error; none: more than N steps. -/
def unifyF (N : Nat) (a b : T) : Option (List (Int × T) × Bool × Int) :=
  match joinF N (addT b (addT a ([], [])).2).2.1 (addT a ([], [])).1 (addT b (addT a ([], [])).2).1 with
  | none => none
  | some x => if x.1 = true then (match measF N x.2 (addT a ([], [])).1 with
    | none => none
    | some y => if y.1 = -1 then some ([], false, 0) else if 120 < y.1 then some ([], false, 2) else
      match outF y.2 N (fun v => (lookN (addT b (addT a ([], [])).2).2.2 v).getD 0) (((addT b (addT a ([], [])).2).2.2.map Prod.fst).mergeSort (fun x y => decide (x ≤ y))) with
      | none => none
      | some bs => some (bs, true, 0)) else some ([], false, 0)
theorem unifyF_some {N : Nat} {a b : T} {r : List (Int × T) × Bool × Int} (h : unifyF N a b = some r) : ∃ ok P2, joinF N (addT b (addT a ([], [])).2).2.1 (addT a ([], [])).1 (addT b (addT a ([], [])).2).1 = some (ok, P2) ∧
    ((ok = false ∧ r = ([], false, 0)) ∨ (ok = true ∧ ∃ m P3, measF N P2 (addT a ([], [])).1 = some (m, P3) ∧ ((m = -1 ∧ r = ([], false, 0)) ∨ (m ≠ -1 ∧ 120 < m ∧ r = ([], false, 2)) ∨
      (m ≠ -1 ∧ ¬ 120 < m ∧ ∃ bs, outF P3 N (fun v => (lookN (addT b (addT a ([], [])).2).2.2 v).getD 0) (((addT b (addT a ([], [])).2).2.2.map Prod.fst).mergeSort (fun x y => decide (x ≤ y))) = some bs ∧ r = (bs, true, 0))))) := by
  rw [unifyF] at h
  split at h
  · cases h
  · rename_i x hx
    obtain ⟨ok, P2⟩ := x
    refine ⟨ok, P2, hx, ?_⟩
    cases ok with
    | false => rw [if_neg (by simp)] at h; exact Or.inl ⟨rfl, (Option.some.inj h).symm⟩
    | true =>
      rw [if_pos rfl] at h
      refine Or.inr ⟨rfl, ?_⟩
      split at h
      · cases h
      · rename_i y hy
        obtain ⟨m, P3⟩ := y
        refine ⟨m, P3, hy, ?_⟩
        by_cases e1 : m = -1
        · rw [if_pos e1] at h; exact Or.inl ⟨e1, (Option.some.inj h).symm⟩
        · rw [if_neg e1] at h
          by_cases e2 : 120 < m
          · rw [if_pos e2] at h; exact Or.inr (Or.inl ⟨e1, e2, (Option.some.inj h).symm⟩)
          · rw [if_neg e2] at h
            split at h
            · cases h
            · rename_i bs hbs
              exact Or.inr (Or.inr ⟨e1, e2, bs, hbs, (Option.some.inj h).symm⟩)

/-- What the law's own begin comes to. -/
theorem beg_unify : unifyF 4 tU tV = some ([(2, ⟨0, 0, []⟩)], true, 0) := by
  have hs : ((addT tV (addT tU ([], [])).2).2.2.map Prod.fst).mergeSort (fun x y => decide (x ≤ y)) = [2] := by
    show List.mergeSort [2] _ = [2]
    exact List.mergeSort_singleton _
  rw [unifyF, hs]
  rfl

end Go.Proofs.Ytbkedppkdhfpoaa

namespace Go.Proofs.Ytbkedppkdhfpoaa
open Go.RowKit Go.Maps

set_option maxRecDepth 100000 in
set_option maxHeartbeats 400000 in
theorem subCheck_any (ar : List Int) (ga : Option Addr) (gcap : Nat) (t : T) (a : Option Addr) (cap : Nat) (u : T) (a2 : Option Addr) (cap2 : Nat) (w : World) (hg : Ints w ar ga) (hin : InL w t.args a) (hin2 : InL w u.args a2) :
    Calls Try.prog 71 #[.agg #[.slice ga ar.length gcap], .agg #[.int .i64 t.v, .int .i64 t.f, .slice a t.args.length cap], .agg #[.int .i64 u.v, .int .i64 u.f, .slice a2 u.args.length cap2]] w fun e w' =>
      e = .returned (.int .i64 (allErr ar [t, u])) ∧ Below w.heap.size w w' := by
  have H1 := hide (fun o1 o2 o3 => Check_any ar ga gcap t a cap (((w.alloc o1).alloc o2).alloc o3) (Ints_alloc o3 (Ints_alloc o2 (Ints_alloc o1 hg))) (InP_alloc o3 (InP_alloc o2 (InP_alloc o1 hin))))
  have Hp := hide (allErr_pair ar t u)
  go_enter Try.func71, Try.ntmps71
  go_wp2_with fail
  refine (H1.out _ _ _).mono ?_
  rintro e w1 ⟨rfl, hb1⟩
  have hz1 : w.heap.size + 3 ≤ w1.heap.size := by have := hb1.size; simp at this; omega
  have hbw : Below w.heap.size w w1 := (((below1 _ _).alloc (by simp) _).alloc (by simp; omega) _).trans (hb1.mono (by simp; omega))
  have cg : w1.cell? ⟨w.heap.size, 0, none⟩ = some (.slice ga ar.length gcap) := by
    rw [hb1.cell (p := ⟨w.heap.size, 0, none⟩) (by simp; omega), cell_alloc_lt (by simp; omega), cell_alloc_lt (by simp), cell_new _ rfl]; rfl
  have h3u : Three w1 (w.heap.size + 1 + 1) (.int .i64 u.v) (.int .i64 u.f) (.slice a2 u.args.length cap2) := (Three.new _ (by simp)).below hb1
  obtain ⟨d0, d1, d2, _, _, _⟩ := h3u
  have H2 := hide (Check_any ar ga gcap u a2 cap2 w1 (Ints_below hbw hg) (InP_below hbw hin2))
  clear hb1
  by_cases h : allErr ar [t] = 0
  · have He : Hid (allErr ar [t, u] = allErr ar [u]) := by show _ = _; rw [Hp.out, if_pos h]
    rw [h]
    clear h
    go_wp2_with fail
    refine H2.out.mono ?_
    rintro e w2 ⟨rfl, hb2⟩
    go_wp2_with fail
    go_ret
    exact ⟨ret_int He.out.symm, hbw.trans (hb2.mono (by omega))⟩
  · have hb : (allErr ar [t] != 0) = true := by simpa using h
    have He : Hid (allErr ar [t, u] = allErr ar [t]) := by show _ = _; rw [Hp.out, if_neg h]
    clear h
    go_wp2_with fail
    go_ret
    exact ⟨ret_int He.out.symm, hbw⟩

theorem once_snoc {bs : List (Int × T)} {v : Int} {t : T} (h : Once bs) (hn : lookB bs v = none) : Once (bs ++ [(v, t)]) := by
  have hv : ∀ (i : Nat) (x : Int × T), bs[i]? = some x → x.1 ≠ v := fun i x hx e => by
    have hm : v ∈ bs.map (·.1) := List.mem_map.2 ⟨x, List.mem_of_getElem? hx, e⟩
    rw [lookB_isSome, hn] at hm
    cases hm
  have cs : ∀ (i : Nat) (x : Int × T), (bs ++ [(v, t)])[i]? = some x → bs[i]? = some x ∨ (i = bs.length ∧ x = (v, t)) := fun i x hx => by
    rcases Nat.lt_or_ge i bs.length with h1 | h1
    · rw [List.getElem?_append_left h1] at hx; exact Or.inl hx
    · rw [List.getElem?_append_right h1] at hx
      have h2 : i - bs.length = 0 := by
        rcases Nat.lt_or_ge (i - bs.length) 1 with h3 | h3
        · omega
        · rw [List.getElem?_eq_none (by simpa using h3)] at hx; cases hx
      rw [h2] at hx
      exact Or.inr ⟨by omega, by simpa using hx.symm⟩
  intro i j x y hx hy e
  rcases cs i x hx with h1 | ⟨h1, rfl⟩ <;> rcases cs j y hy with h2 | ⟨h2, rfl⟩
  · exact h i j x y h1 h2 e
  · exact absurd e (hv i x h1)
  · exact absurd e.symm (hv j y h2)
  · omega
/-- What growing keeps. -/
theorem grow_keeps {ar : List Int} : ∀ (n : Nat), (∀ (p t : T) (bs b2 : List (Int × T)), p.sz ≤ n → okP ar p → growT p t bs = some b2 → (Once bs ∧ ∀ x, x ∈ bs → 1 ≤ x.1 ∧ x.1 ≤ 1000) → (Once b2 ∧ ∀ x, x ∈ b2 → 1 ≤ x.1 ∧ x.1 ≤ 1000)) ∧
    (∀ (ps ts : List T) (bs b2 : List (Int × T)), T.sz.szL ps ≤ n → okP.okL ar ps → growT.growL ps ts bs = some b2 → (Once bs ∧ ∀ x, x ∈ bs → 1 ≤ x.1 ∧ x.1 ≤ 1000) → (Once b2 ∧ ∀ x, x ∈ b2 → 1 ≤ x.1 ∧ x.1 ≤ 1000)) := by
  intro n
  induction n with
  | zero =>
    refine ⟨fun p t bs b2 h => by have := p.sz_pos; omega, fun ps ts bs b2 h _ hg hk => ?_⟩
    cases ps with
    | nil =>
      cases ts with
      | nil => simp [growT.growL] at hg; rw [← hg]; exact hk
      | cons t ts => cases hg
    | cons p ps => have := p.sz_pos; rw [T.szL_cons] at h; omega
  | succ n ih =>
    have h1 : ∀ (p t : T) (bs b2 : List (Int × T)), p.sz ≤ n + 1 → okP ar p → growT p t bs = some b2 → (Once bs ∧ ∀ x, x ∈ bs → 1 ≤ x.1 ∧ x.1 ≤ 1000) → (Once b2 ∧ ∀ x, x ∈ b2 → 1 ≤ x.1 ∧ x.1 ≤ 1000) := fun p t bs b2 h hok hg hk => by
      have hpe := T.sz_eq p
      rw [growT_eq] at hg
      by_cases hv : p.v ≠ 0
      · rw [if_pos hv] at hg
        cases hl : lookB bs p.v with
        | some u =>
          rw [hl] at hg
          by_cases hs : sameT u t = true
          · simp only [hs, if_true, Option.some.injEq] at hg
            rw [← hg]; exact hk
          · simp [hs] at hg
        | none =>
          rw [hl] at hg
          simp only [Option.some.injEq] at hg
          have hv1 : 1 ≤ p.v ∧ p.v ≤ 1000 := by
            have h1 := (okP_iff.1 hok).1
            rw [partErr, if_pos hv] at h1
            by_cases h2 : p.v < 1 ∨ 1000 < p.v
            · rw [if_pos h2] at h1; cases h1
            · omega
          rw [← hg]
          refine ⟨once_snoc hk.1 hl, fun x hx => ?_⟩
          rcases List.mem_append.1 hx with hx | hx
          · exact hk.2 x hx
          · simp at hx; rw [hx]; exact hv1
      · rw [if_neg hv] at hg
        by_cases hc : t.v ≠ 0 ∨ p.f ≠ t.f
        · rw [if_pos hc] at hg; cases hg
        · rw [if_neg hc] at hg
          exact ih.2 p.args t.args bs b2 (by omega) (okP_iff.1 hok).2 hg hk
    refine ⟨h1, fun ps => ?_⟩
    induction ps with
    | nil =>
      intro ts bs b2 _ _ hg hk
      cases ts with
      | nil => simp [growT.growL] at hg; rw [← hg]; exact hk
      | cons t ts => cases hg
    | cons p ps iht =>
      intro ts bs b2 h hok hg hk
      rw [T.szL_cons] at h
      cases ts with
      | nil => cases hg
      | cons t ts =>
        rw [growL_cons] at hg
        cases hgt : growT p t bs with
        | none => rw [hgt] at hg; cases hg
        | some b3 =>
          rw [hgt] at hg
          exact iht ts b3 b2 (by omega) (okL_cons.1 hok).2 hg (h1 p t bs b3 (by omega) (okL_cons.1 hok).1 hgt hk)

/-- What Match answers. -/
def matchSpec (ar : List Int) (p t : T) : List (Int × T) × Bool × Int :=
  if allErr ar [p, t] = 0 then (match growT p t [] with | some bs => (sortB bs, true, 0) | none => ([], false, 0)) else ([], false, allErr ar [p, t])
/-- Bindings, a yes or no, and an error handed back. -/
def GivesB (x : List (Int × T) × Bool × Int) (base : Nat) (e : Ending) (w' : World) : Prop :=
  ∃ a cap, e = .returned (.tuple #[.slice a x.1.length cap, .bool x.2.1, .int .i64 x.2.2]) ∧ Binds (fun k => base ≤ k) w' x.1 a

set_option maxRecDepth 100000 in
set_option maxHeartbeats 1000000 in
theorem Match_any (ar : List Int) (ga : Option Addr) (gcap : Nat) (s : T) (sa : Option Addr) (sc : Nat) (t : T) (ta : Option Addr) (tc : Nat) (w : World) (hg : Ints w ar ga) (hin : InL w s.args sa) (hin2 : InL w t.args ta) :
    Calls Try.prog 35 #[.agg #[.slice ga ar.length gcap], .agg #[.int .i64 s.v, .int .i64 s.f, .slice sa s.args.length sc], .agg #[.int .i64 t.v, .int .i64 t.f, .slice ta t.args.length tc]] w fun e w' => GivesB (matchSpec ar s t) w.heap.size e w' ∧ Below w.heap.size w w' := by
  have H1 := hide (fun o1 o2 o3 => subCheck_any ar ga gcap s sa sc t ta tc (((w.alloc o1).alloc o2).alloc o3) (Ints_alloc o3 (Ints_alloc o2 (Ints_alloc o1 hg))) (InP_alloc o3 (InP_alloc o2 (InP_alloc o1 hin))) (InP_alloc o3 (InP_alloc o2 (InP_alloc o1 hin2))))
  have hmm := @run_makeMap Try.prog
  obtain ⟨E, hE⟩ : ∃ E, E = allErr ar [s, t] := ⟨_, rfl⟩
  rw [← hE] at H1
  have HE := hide hE
  clear hE
  go_enter Try.func35, Try.ntmps35
  go_wp2_with fail
  refine (H1.out _ _ _).mono ?_
  rintro e w1 ⟨rfl, hb1⟩
  have hz1 : w.heap.size + 3 ≤ w1.heap.size := by have := hb1.size; simp at this; omega
  have hbw : Below w.heap.size w w1 := (((below1 _ _).alloc (by simp) _).alloc (by simp; omega) _).trans (hb1.mono (by simp; omega))
  have h3s : Three w1 (w.heap.size + 1) (.int .i64 s.v) (.int .i64 s.f) (.slice sa s.args.length sc) := ((Three.new _ (by simp)).alloc _).below hb1
  have h3t : Three w1 (w.heap.size + 1 + 1) (.int .i64 t.v) (.int .i64 t.f) (.slice ta t.args.length tc) := (Three.new _ (by simp)).below hb1
  obtain ⟨c0, c1, c2, _, _, _⟩ := h3s
  obtain ⟨d0, d1, d2, _, _, _⟩ := h3t
  clear hb1
  by_cases h : E = 0
  · obtain ⟨k1, k2, k3, k4⟩ := ok_two (HE.out.symm.trans h)
    have Hsp : Hid (matchSpec ar s t = match growT s t [] with | some bs => (sortB bs, true, 0) | none => ([], false, 0)) := by show _ = _; rw [matchSpec, if_pos (HE.out.symm.trans h)]
    have hM0 : MB (fun k => k < w1.heap.size) w1.heap.size [] (w1.alloc (.map #[] 0)) := ⟨⟨fun _ => none, MapAt.made w1, fun v => ⟨fun _ => rfl, fun u hu => by cases hu⟩⟩, fun v u hm => by cases hm⟩
    have H2 := hide (match_any ar (fun k => k < w1.heap.size) w1.heap.size (by omega) s.sz s t sa sc ta tc [] (w1.alloc (.map #[] 0)) (Nat.le_refl _) (by simp; omega) k2 (by omega) hM0 (InP_alloc _ (InP_below hbw hin)) (InP_alloc _ (InP_imp (fun _ hk => hk.2) (InP_lt (InP_below hbw hin2)))))
    have Hk := hide (fun bs => (grow_keeps (ar := ar) s.sz).1 s t [] bs (Nat.le_refl _) k2)
    have Hs := hide (fun bs => (grow_size s.sz).1 s t [] bs (Nat.le_refl _))
    have hzA : w.heap.size + 1 < w1.heap.size := by omega
    have hzB : w.heap.size + 1 + 1 < w1.heap.size := by omega
    have m0 : (w1.alloc (.map #[] 0)).cell? ⟨w.heap.size + 1, 0, none⟩ = some (.int .i64 s.v) := by rw [cell_alloc_lt hzA]; exact c0
    have m1 : (w1.alloc (.map #[] 0)).cell? ⟨w.heap.size + 1, 1, none⟩ = some (.int .i64 s.f) := by rw [cell_alloc_lt hzA]; exact c1
    have m2 : (w1.alloc (.map #[] 0)).cell? ⟨w.heap.size + 1, 2, none⟩ = some (.slice sa s.args.length sc) := by rw [cell_alloc_lt hzA]; exact c2
    have n0 : (w1.alloc (.map #[] 0)).cell? ⟨w.heap.size + 1 + 1, 0, none⟩ = some (.int .i64 t.v) := by rw [cell_alloc_lt hzB]; exact d0
    have n1 : (w1.alloc (.map #[] 0)).cell? ⟨w.heap.size + 1 + 1, 1, none⟩ = some (.int .i64 t.f) := by rw [cell_alloc_lt hzB]; exact d1
    have n2 : (w1.alloc (.map #[] 0)).cell? ⟨w.heap.size + 1 + 1, 2, none⟩ = some (.slice ta t.args.length tc) := by rw [cell_alloc_lt hzB]; exact d2
    subst h
    clear k2 k4 hM0
    go_wp2_with fail
    refine H2.out.mono ?_
    rintro e w2 ⟨rfl, hg2, hM2⟩
    have hzg := hg2.size
    rw [World.size_alloc] at hzg
    have Hb2 : Hid (Below w.heap.size w w2) := (hbw.alloc (by omega) _).grown hg2 (by rw [World.size_alloc]; omega) (fun j hj => by cases hj; omega)
    have HM2 := hide hM2
    clear hg2 hM2 hmm H2
    cases hgt : growT s t [] with
    | none =>
      have Hsp2 : Hid (matchSpec ar s t = ([], false, 0)) := by show _ = _; rw [Hsp.out, hgt]
      simp only [Option.isSome_none]
      clear hgt Hsp Hk Hs HM2
      go_wp2_with fail
      go_ret3
      exact ⟨by rw [Hsp2.out]; exact ⟨none, 0, rfl, trivial⟩, Hb2.out⟩
    | some bs =>
      have Hsp2 : Hid (matchSpec ar s t = (sortB bs, true, 0)) := by show _ = _; rw [Hsp.out, hgt]
      have hkk := Hk.out bs hgt ⟨fun i j x y hx => by simp at hx, fun x hx => by cases hx⟩
      have hss := Hs.out bs hgt
      have hbl : bs.length ≤ 1000 := by simp at hss; omega
      have H3 := hide (bindingsP_any _ w1.heap.size bs w2 hkk.1 hbl hkk.2 (HM2.out bs hgt))
      simp only [Option.isSome_some]
      clear hgt Hsp Hk Hs HM2 hkk hss
      go_wp2_with fail
      refine H3.out.mono ?_
      rintro e w3 ⟨a3, cap3, rfl, hin3, hb3⟩
      have Hb3 := hide (Hb2.out.trans (hb3.mono Hb2.out.size))
      have Hin3 := hide (Binds_imp (q := fun k => w.heap.size ≤ k) (fun k hk => Nat.le_trans Hb2.out.size hk) hin3)
      clear hb3 hin3
      go_wp2_with fail
      go_ret3
      exact ⟨by rw [Hsp2.out]; exact ⟨a3, cap3, (congrArg (fun n => Ending.returned (.tuple #[.slice a3 n cap3, .bool true, .int .i64 0])) (sortB_length bs).symm), Hin3.out⟩, Hb3.out⟩
  · have hb : (E != 0) = true := by simpa using h
    have Hsp : Hid (matchSpec ar s t = ([], false, E)) := by show _ = _; rw [matchSpec, if_neg (fun h' => h (HE.out.trans h')), HE.out]
    clear h
    go_wp2_with fail
    go_ret3
    exact ⟨by rw [Hsp.out]; exact ⟨none, 0, rfl, trivial⟩, hbw⟩

end Go.Proofs.Ytbkedppkdhfpoaa

namespace Go.Proofs.Ytbkedppkdhfpoaa
open Go.RowKit Go.Maps

/-- The unifier as it begins. -/
theorem AX.begun (w1 : World) : AX (fun k => w1.heap.size + 1 + 1 ≤ k) (w1.heap.size + 1 + 1) (w1.heap.size + 1) w1.heap.size ((w1.alloc (.map #[] 0)).alloc (.cells #[.slice none 0 0, .map (some w1.heap.size)] 102)) (.slice none 0 0) ([], []) := by
  have hz : (w1.alloc (.map #[] 0)).heap.size = w1.heap.size + 1 := World.size_alloc _ _
  refine ⟨cell_new 0 hz.symm, cell_new 1 hz.symm, ⟨[], ⟨rfl, Or.inl ⟨rfl, rfl⟩⟩, rfl⟩, ?_, fun k => ?_, by omega, by omega, by omega⟩
  · exact ((MapAt.made w1).below (below1 _ _)).congr (fun k => rfl)
  · rw [← hz]; simp

/-- What is handed back. -/
def UniOut (w w' : World) (r : List (Int × T) × Bool × Int) (e : Ending) : Prop :=
  ∃ la lc, e = .returned (.tuple #[.slice la r.1.length lc, .bool r.2.1, .int .i64 r.2.2]) ∧ Binds (fun k => w.heap.size ≤ k) w' r.1 la ∧ Below w.heap.size w w'
theorem UniOut.no {w w' : World} {x : Bool} {e : Int} (hb : Below w.heap.size w w') : UniOut w w' ([], x, e) (.returned (.tuple #[.slice none 0 0, .bool x, .int .i64 e])) := ⟨none, 0, rfl, trivial, hb⟩

set_option maxRecDepth 100000 in
set_option maxHeartbeats 1000000 in
theorem Unify_any (ar : List Int) (ga : Option Addr) (gcap : Nat) (s : T) (sa : Option Addr) (sc : Nat) (t : T) (ta : Option Addr) (tc : Nat) (w : World) (hg : Ints w ar ga) (hin : InL w s.args sa) (hin2 : InL w t.args ta) (N : Nat) (r : List (Int × T) × Bool × Int) (hr : unifyF N s t = some r) (hok : allErr ar [s, t] = 0) :
    Calls Try.prog 36 #[.agg #[.slice ga ar.length gcap], .agg #[.int .i64 s.v, .int .i64 s.f, .slice sa s.args.length sc], .agg #[.int .i64 t.v, .int .i64 t.f, .slice ta t.args.length tc]] w fun e w' => UniOut w w' r e := by
  obtain ⟨k1, k2, k3, k4⟩ := ok_two hok
  have hmm := @run_makeMap Try.prog
  have H1 := hide (fun o1 o2 o3 => subCheck_any ar ga gcap s sa sc t ta tc (((w.alloc o1).alloc o2).alloc o3) (Ints_alloc o3 (Ints_alloc o2 (Ints_alloc o1 hg))) (InP_alloc o3 (InP_alloc o2 (InP_alloc o1 hin))) (InP_alloc o3 (InP_alloc o2 (InP_alloc o1 hin2))))
  rw [hok] at H1
  have Hin := hide hin
  have Hin2 := hide hin2
  have K := hide (And.intro k1 (And.intro k2 (And.intro k3 k4)))
  have Hr := hide (unifyF_some hr)
  clear hg hin hin2 hr hok k1 k2 k3 k4
  go_enter Try.func36, Try.ntmps36
  go_wp2_with fail
  refine (H1.out _ _ _).mono ?_
  rintro e w1 ⟨rfl, hb1⟩
  have hz1 : w.heap.size + 3 ≤ w1.heap.size := by have := hb1.size; simp at this; omega
  have hbw : Below w.heap.size w w1 := (((below1 _ _).alloc (by simp) _).alloc (by simp; omega) _).trans (hb1.mono (by simp; omega))
  have h3s : Three w1 (w.heap.size + 1) (.int .i64 s.v) (.int .i64 s.f) (.slice sa s.args.length sc) := ((Three.new _ (by simp)).alloc _).below hb1
  have h3t : Three w1 (w.heap.size + 1 + 1) (.int .i64 t.v) (.int .i64 t.f) (.slice ta t.args.length tc) := (Three.new _ (by simp)).below hb1
  have hA0 := AX.begun w1
  obtain ⟨WU, hWU⟩ : ∃ WU, WU = (w1.alloc (.map #[] 0)).alloc (.cells #[.slice none 0 0, .map (some w1.heap.size)] 102) := ⟨_, rfl⟩
  rw [← hWU] at hA0
  have hzU : WU.heap.size = w1.heap.size + 1 + 1 := by rw [hWU, World.size_alloc, World.size_alloc]
  have hbU : Below w1.heap.size w1 WU := by rw [hWU]; exact below2 _ _ _
  obtain ⟨c0, c1, c2, _, _, _⟩ := (h3s.alloc (.map #[] 0)).alloc (.cells #[.slice none 0 0, .map (some w1.heap.size)] 102)
  have hinS : InP (fun k => k < w1.heap.size) WU s.args sa := InP_imp (fun k h => by have h : True ∧ k < w.heap.size := h; omega) (InP_below (hbw.trans (hbU.mono (by omega))) (InP_lt Hin.out))
  have hinT : InP (fun k => k < w1.heap.size) WU t.args ta := InP_imp (fun k h => by have h : True ∧ k < w.heap.size := h; omega) (InP_below (hbw.trans (hbU.mono (by omega))) (InP_lt Hin2.out))
  have H2 := hide (add_any ar (w1.heap.size + 1 + 1) w1.heap.size (w1.heap.size + 1) w1.heap.size (by omega) (Nat.le_refl _) (s.sz + 1) s sa sc ([], []) (.slice none 0 0) (fun k => w1.heap.size + 1 + 1 ≤ k) WU (by omega) K.out.2.1 (by have := K.out.1; simp; omega) (by have := K.out.1; simp; omega) (by omega) (fun k h => h) (fun k h => by omega) hA0 hinS)
  have H3T := hide (h3t.below hbU)
  have HinT := hide hinT
  have HA0 := hide hA0
  have HbU := hide hbU
  have Hbw := hide hbw
  have HzU := hide hzU
  have HWU := hide hWU
  clear h3s h3t hA0 hbU hbw hzU hinS hinT hb1
  go_wp2_with fail
  rw [← HWU.out]
  refine H2.out.mono ?_
  rintro e wA ⟨lA, rfl, hAX, hAF⟩
  clear H2 H1 hmm c0 c1 c2
  have hbA : Below w1.heap.size WU wA := hAF.below (by have := HzU.out; omega) (by omega) (Nat.le_refl _) (fun g hg => by cases hg)
  have hsA := (add_size _).1 s ([], []) (Nat.le_refl _)
  have hkA := (add_keys (ar := ar) _).1 s ([], []) (Nat.le_refl _) K.out.2.1 ⟨List.nodup_nil, fun x hx => by cases hx⟩
  obtain ⟨c0, c1, c2, _, _, _⟩ := H3T.out.same (hbA.block _ (by omega))
  have hzA := hAF.size
  obtain ⟨iA, hiA⟩ : ∃ i, i = (addT s ([], [])).1 := ⟨_, rfl⟩
  obtain ⟨SA, hSA⟩ : ∃ S, S = (addT s ([], [])).2 := ⟨_, rfl⟩
  have Hr2 := Hr.out
  rw [← hiA] at Hr2 ⊢
  rw [← hSA] at hsA hkA hAX Hr2
  have hsA : SA.1.length ≤ 0 + s.sz ∧ SA.2.length ≤ 0 + s.sz := hsA
  have HkA := hide hkA
  have H2 := hide (add_any ar (w1.heap.size + 1 + 1) w1.heap.size (w1.heap.size + 1) w1.heap.size (by omega) (Nat.le_refl _) (t.sz + 1) t ta tc SA lA (fun k => w1.heap.size + 1 + 1 ≤ k) wA (by omega) K.out.2.2.2 (by have := K.out; omega) (by have := K.out; omega) (by have := HzU.out; omega) (fun k h => h) (fun k h => by have := HzU.out; omega) hAX (InP_same (fun k hk _ => hbA.block k hk) HinT.out))
  have HAX := hide hAX
  have HbA := hide hbA
  have Hr3 := hide Hr2
  clear hAX hAF hbA hkA hiA hSA Hr2 Hr
  go_wp2_with fail
  refine H2.out.mono ?_
  rintro e wB ⟨lB, rfl, hBX, hBF⟩
  clear H2 c0 c1 c2
  have hbB : Below w1.heap.size wA wB := hBF.below (by have := HzU.out; omega) (by omega) (Nat.le_refl _) (fun g hg => by have := (HAX.out.outs.row g hg).1; omega)
  have hsB := (add_size _).1 t SA (Nat.le_refl _)
  have hkB := (add_keys (ar := ar) _).1 t SA (Nat.le_refl _) K.out.2.2.2 HkA.out
  have hzB := hBF.size
  obtain ⟨iB, hiB⟩ : ∃ i, i = (addT t SA).1 := ⟨_, rfl⟩
  obtain ⟨SB, hSB⟩ : ∃ S, S = (addT t SA).2 := ⟨_, rfl⟩
  have Hr2 := Hr3.out
  rw [← hiB] at Hr2 ⊢
  rw [← hSB] at hsB hkB hBX Hr2
  obtain ⟨ok, P2, hj, hrest⟩ := Hr2
  have hlen : SB.1.length ≤ 1000 ∧ SB.2.length ≤ 1000 := by have := K.out; omega
  have hPB : 0 < SB.1.length := by obtain ⟨_, x, _, _, h, _⟩ := joinF_some hj; have := headF_lt h; omega
  obtain ⟨b, c, _, hbb, hU⟩ := OutsU_end (base := w1.heap.size + 1 + 1) hBX.outs hBX.list hBX.ub hBX.fru hPB (by omega)
  have HJ := hide (show Calls Try.prog 75 _ wB fun e w' => e = .returned (.bool ok) ∧ UAt (fun k => w1.heap.size + 1 + 1 ≤ k ∧ k ≠ b) w' (w1.heap.size + 1) b c P2 ∧ wB.grownBy w' (some b) from join_any _ _ b c N SB.1 iA iB (ok, P2) wB hU hj)
  have Hbb := hide hbb
  have HBX := hide hBX
  have HkB := hide hkB
  have Hrest := hide hrest
  have HB3 := hide (Hbw.out.trans ((HbU.out.trans (HbA.out.trans hbB)).mono (by omega)))
  clear hBX hBF hbB hkB hiB hSB Hr3 hj hrest hU hbb hPB hsA hsB HkA HAX
  go_wp2_with fail
  refine HJ.out.mono ?_
  rintro e wC ⟨rfl, hUC, hgC⟩
  have HBC := hide (HB3.out.grown hgC (by have := HzU.out; omega) (fun k hk => by cases hk; have := Hbb.out; omega))
  have hzC := hgC.size
  have HUC := hide hUC
  have HgC := hide hgC
  clear HJ hUC hgC
  cases ok with
  | false =>
    have Hr4 : Hid (r = ([], false, 0)) := by
      rcases Hrest.out with ⟨_, h⟩ | ⟨h, _⟩
      · exact h
      · cases h
    clear Hrest
    go_wp2_with fail
    go_ret3
    rw [Hr4.out]
    exact UniOut.no HBC.out
  | true =>
    obtain ⟨m, P3, hm, hrest⟩ : ∃ m P3, measF N P2 iA = some (m, P3) ∧ _ := by
      rcases Hrest.out with ⟨h, _⟩ | ⟨_, h⟩
      · cases h
      · exact h
    have HM := hide (show Calls Try.prog 76 _ wC fun e w' => e = .returned (.int .i64 m) ∧ UAt (fun k => w1.heap.size + 1 + 1 ≤ k ∧ k ≠ b) w' (w1.heap.size + 1) b c P3 ∧ Upon b wC w' from meas_any _ _ b c N P2 iA (m, P3) wC HUC.out hm)
    have Hrest2 := hide hrest
    clear hm hrest Hrest
    go_wp2_with fail
    refine HM.out.mono ?_
    rintro e wD ⟨rfl, hUD, hupD⟩
    have HBD := hide (HBC.out.trans (hupD.below (by have := Hbb.out; omega)))
    have hzD : wD.heap.size = wC.heap.size := hupD.size
    have HUD := hide hUD
    have HupD := hide hupD
    have HzD := hide hzD
    clear HM hUD hupD hzD
    by_cases e1 : m = -1
    · have Hr4 : Hid (r = ([], false, 0)) := by
        rcases Hrest2.out with ⟨_, h⟩ | ⟨h, _⟩ | ⟨h, _⟩
        · exact h
        · exact absurd e1 h
        · exact absurd e1 h
      subst e1
      clear Hrest2
      go_wp2_with fail
      go_ret3
      rw [Hr4.out]
      exact UniOut.no HBD.out
    · have f1 : (m == -1) = false := by simpa using e1
      by_cases e2 : 120 < m
      · have Hr4 : Hid (r = ([], false, 2)) := by
          rcases Hrest2.out with ⟨h, _⟩ | ⟨_, _, h⟩ | ⟨_, h, _⟩
          · exact absurd h e1
          · exact h
          · exact absurd e2 (by omega)
        clear e1 Hrest2
        go_wp2_with fail
        go_ret3
        rw [Hr4.out]
        exact UniOut.no HBD.out
      · obtain ⟨bs, hbs, hrr⟩ : ∃ bs, outF P3 N (fun v => (lookN SB.2 v).getD 0) ((SB.2.map Prod.fst).mergeSort (fun x y => decide (x ≤ y))) = some bs ∧ r = (bs, true, 0) := by
          rcases Hrest2.out with ⟨h, _⟩ | ⟨_, h, _⟩ | ⟨_, _, h⟩
          · exact absurd h e1
          · exact absurd h e2
          · exact h
        have hul : w1.heap.size + 1 < wB.heap.size := by have := HzU.out; omega
        have hmc : wD.cell? ⟨w1.heap.size + 1, 1, none⟩ = some (.map (some w1.heap.size)) := by
          rw [HupD.out.cell (by have := Hbb.out; omega), World.cell?_of_block (w := wB) (a := ⟨w1.heap.size + 1, 1, none⟩) (HgC.out.block (w1.heap.size + 1) hul (fun e => by have h9 := Hbb.out; have h8 : w1.heap.size + 1 = b := (by simpa using e); omega))]
          exact HBX.out.map
        have hMD : MapAt wD w1.heap.size SB.2.length (fun v => (lookN SB.2 v).map (fun n : Nat => Value.int .i64 (n : Int))) := HBX.out.mp.same (by
          rw [HupD.out.block _ (by have := Hbb.out; omega), HgC.out.block _ (by omega) (fun e => by have := Hbb.out; cases e; omega)])
        have H4 := hide (bindU_any _ _ b c P3 N w1.heap.size SB.2.length _ (SB.2.map Prod.fst) (fun v => (lookN SB.2 v).getD 0) bs wD HUD.out hmc hMD (by omega) HkB.out.1 (fun x => by rw [lookN_isSome]; cases lookN SB.2 x <;> rfl) (fun x hx => by
          have h1 := HkB.out.2 x hx
          rw [lookN_isSome] at hx
          refine ⟨?_, h1.1, by omega⟩
          cases hl : lookN SB.2 x with
          | none => rw [hl] at hx; cases hx
          | some n => rfl) (by rw [List.length_map]; omega) hbs)
        have Hrr := hide hrr
        clear e1 hbs hrr hmc hMD Hrest2 HBX
        go_wp2_with fail
        refine H4.out.mono ?_
        rintro e wE ⟨a3, cap3, rfl, hin3, hb3⟩
        have Hb3 := hide (HBD.out.trans (hb3.mono HBD.out.size))
        have Hin3 := hide (Binds_imp (q := fun k => w.heap.size ≤ k) (fun k hk => Nat.le_trans HBD.out.size hk) hin3)
        clear hb3 hin3
        go_wp2_with fail
        go_ret3
        rw [Hrr.out]
        exact ⟨a3, cap3, rfl, Hin3.out, Hb3.out⟩

end Go.Proofs.Ytbkedppkdhfpoaa

namespace Go.Proofs.Ytbkedppkdhfpoaa
open Go.RowKit

def tX1b : T := ⟨1, 0, []⟩
def tM : T := ⟨0, 1, [tX1b]⟩
theorem sub_b1 : allErr [0, 1] [tU, tV] = 0 := by rfl
theorem sub_b2 : applySpec [0, 1] [(2, zeroT)] tX2 = (zeroT, 0) := by rfl
theorem sub_b3 : growT tM tU [] = some [(1, tX2)] := by rfl
theorem sub_b4 : allErr [0, 1] [tM, tU] = 0 := by rfl
theorem sub_b5 : matchSpec [0, 1] tM tU = (sortB [(1, tX2)], true, 0) := by rw [matchSpec, if_pos sub_b4, sub_b3]

theorem Unify_begun (n1 n2 n3 : Nat) (w : World) (hg : Ints w [0, 1] (some ⟨n1, 0, none⟩)) (ht : InL w [tX2] (some ⟨n2, 0, none⟩)) (ht2 : InL w [zeroT] (some ⟨n3, 0, none⟩)) :
    Calls Try.prog 36 #[.agg #[.slice (some ⟨n1, 0, none⟩) 2 2], .agg #[.int .i64 0, .int .i64 1, .slice (some ⟨n2, 0, none⟩) 1 1], .agg #[.int .i64 0, .int .i64 1, .slice (some ⟨n3, 0, none⟩) 1 1]] w fun e w' =>
      ∃ la lc, e = .returned (.tuple #[.slice la 1 lc, .bool true, .int .i64 0]) ∧ Binds (fun _ => True) w' [(2, zeroT)] la ∧ Below w.heap.size w w' := by
  refine (Unify_any [0, 1] (some ⟨n1, 0, none⟩) 2 tU (some ⟨n2, 0, none⟩) 1 tV (some ⟨n3, 0, none⟩) 1 w hg ht ht2 4 _ beg_unify sub_b1).mono ?_
  rintro e w' ⟨la, lc, he, hb, hw⟩
  exact ⟨la, lc, he, Binds_imp (fun _ _ => trivial) hb, hw⟩
theorem Match_begun (n1 n2 n3 : Nat) (w : World) (hg : Ints w [0, 1] (some ⟨n1, 0, none⟩)) (ht : InL w [tX1b] (some ⟨n2, 0, none⟩)) (ht2 : InL w [tX2] (some ⟨n3, 0, none⟩)) :
    Calls Try.prog 35 #[.agg #[.slice (some ⟨n1, 0, none⟩) 2 2], .agg #[.int .i64 0, .int .i64 1, .slice (some ⟨n2, 0, none⟩) 1 1], .agg #[.int .i64 0, .int .i64 1, .slice (some ⟨n3, 0, none⟩) 1 1]] w fun e w' =>
      ∃ la lc, e = .returned (.tuple #[.slice la 1 lc, .bool true, .int .i64 0]) ∧ Below w.heap.size w w' := by
  have h := Match_any [0, 1] (some ⟨n1, 0, none⟩) 2 tM (some ⟨n2, 0, none⟩) 1 tU (some ⟨n3, 0, none⟩) 1 w hg ht ht2
  rw [sub_b5] at h
  refine h.mono ?_
  rintro e w' ⟨⟨la, lc, he, _⟩, hw⟩
  rw [sortB_length] at he
  exact ⟨la, lc, he, hw⟩
theorem Apply_begun (n1 : Nat) (la : Option Addr) (lc : Nat) (w : World) (hg : Ints w [0, 1] (some ⟨n1, 0, none⟩)) (hb : Binds (fun _ => True) w [(2, zeroT)] la) :
    Calls Try.prog 29 #[.agg #[.slice (some ⟨n1, 0, none⟩) 2 2], .slice la 1 lc, .agg #[.int .i64 2, .int .i64 0, .slice none 0 0]] w fun e w' =>
      ∃ a1 cap1, e = .returned (.tuple #[.agg #[.int .i64 0, .int .i64 0, .slice a1 0 cap1], .int .i64 0]) ∧ Below w.heap.size w w' := by
  have h := Apply_any [0, 1] (some ⟨n1, 0, none⟩) 2 [(2, zeroT)] la lc tX2 none 0 w hg (by decide) hb InP_nil
  rw [sub_b2] at h
  refine h.mono ?_
  rintro e w' ⟨⟨a1, cap1, he, _⟩, hw⟩
  exact ⟨a1, cap1, he, hw⟩
theorem Same_zero (a a2 : Option Addr) (cap cap2 : Nat) (w : World) :
    Calls Try.prog 28 #[.agg #[.int .i64 0, .int .i64 0, .slice a 0 cap], .agg #[.int .i64 0, .int .i64 0, .slice a2 0 cap2]] w fun e w' => e = .returned (.bool true) ∧ Below w.heap.size w w' := by
  have h := sameTerm_any 10 zeroT zeroT a cap a2 cap2 w (by decide) (by decide) InP_nil InP_nil
  rw [sameT_refl] at h
  exact h

attribute [local go_sem ↓] Go.wp_at_zero Go.wp_at_succ
set_option maxRecDepth 100000 in
set_option maxHeartbeats 2000000 in
theorem substBegun_any : SubBegun := by
  intro w
  go_enter Try.func34, Try.ntmps34
  go_wp2_with fail
  refine (small_any _).mono ?_
  rintro e w1 ⟨n1, rfl, hg1, hb1⟩
  go_wp2_with fail
  refine (va_any 2 _).mono ?_
  rintro e w2 ⟨rfl, hb2⟩
  go_wp2_with fail
  refine (fn_any 1 _ 1 1 _).mono ?_
  rintro e w3 ⟨rfl, hb3⟩
  go_wp2_with fail
  refine (fn_any 0 _ 0 0 _).mono ?_
  rintro e w4 ⟨rfl, hb4⟩
  go_wp2_with fail
  refine (fn_any 1 _ 1 1 _).mono ?_
  rintro e w5 ⟨rfl, hb5⟩
  have hz2 := hb2.size
  have hz3 := hb3.size
  have hz4 := hb4.size
  have hz5 := hb5.size
  simp at hz3 hz5
  have hb45 : Below w4.heap.size w4 w5 := (below1 _ _).trans (hb5.mono (by simp))
  have hb35 : Below w3.heap.size w3 w5 := hb4.trans (hb45.mono hz4)
  have hb25 : Below w2.heap.size w2 w5 := (below1 _ _).trans ((hb3.mono (by simp)).trans (hb35.mono (by omega)))
  have Hb05 := hide (hb1.trans ((hb2.mono hb1.size).trans (hb25.mono (by have := hb1.size; omega))))
  have HG := hide (Ints_below hb25 (Ints_below hb2 hg1))
  have HT := hide (InP_below hb35 (InP_below hb3 (InP_newT (p := fun _ => True) (w := w2) (t := tX2) 27 rfl trivial rfl)))
  have HT2 := hide (InP_below hb5 (InP_newT (p := fun _ => True) (w := w4) (t := zeroT) 27 rfl trivial rfl))
  clear hb1 hb2 hb3 hb4 hb5 hb45 hb35 hb25 hg1 hz2 hz3 hz4 hz5
  go_wp2_with fail
  refine (Unify_begun n1 _ _ _ HG.out HT.out HT2.out).mono ?_
  rintro e w6 ⟨la, lc, rfl, hbs, hb6⟩
  have Hb06 := hide (Hb05.out.trans (hb6.mono Hb05.out.size))
  have Hbs := hide hbs
  clear hb6 hbs HG HT HT2 Hb05
  go_wp2_with fail
  refine (small_any _).mono ?_
  rintro e w7 ⟨n7, rfl, hg7, hb7⟩
  go_wp2_with fail
  refine (va_any 1 _).mono ?_
  rintro e w8 ⟨rfl, hb8⟩
  go_wp2_with fail
  refine (fn_any 1 _ 1 1 _).mono ?_
  rintro e w9 ⟨rfl, hb9⟩
  go_wp2_with fail
  refine (va_any 2 _).mono ?_
  rintro e wa ⟨rfl, hba⟩
  go_wp2_with fail
  refine (fn_any 1 _ 1 1 _).mono ?_
  rintro e wb ⟨rfl, hbb⟩
  have hz8 := hb8.size
  have hz9 := hb9.size
  have hza := hba.size
  have hzb := hbb.size
  simp at hz9 hzb
  have hbab : Below wa.heap.size wa wb := (below1 _ _).trans (hbb.mono (by simp))
  have hb9b : Below w9.heap.size w9 wb := hba.trans (hbab.mono hza)
  have hb8b : Below w8.heap.size w8 wb := (below1 _ _).trans ((hb9.mono (by simp)).trans (hb9b.mono (by omega)))
  have hb6b : Below w6.heap.size w6 wb := hb7.trans ((hb8.mono hb7.size).trans (hb8b.mono (by have := hb7.size; omega)))
  have Hb0b := hide (Hb06.out.trans (hb6b.mono Hb06.out.size))
  have Hbs2 := hide (Binds_below hb6b Hbs.out)
  have HG := hide (Ints_below hb8b (Ints_below hb8 hg7))
  have HT := hide (InP_below hb9b (InP_below hb9 (InP_newT (p := fun _ => True) (w := w8) (t := tX1b) 27 rfl trivial rfl)))
  have HT2 := hide (InP_below hbb (InP_newT (p := fun _ => True) (w := wa) (t := tX2) 27 rfl trivial rfl))
  clear hb7 hb8 hb9 hba hbb hbab hb9b hb8b hb6b hg7 hz8 hz9 hza hzb Hbs Hb06
  go_wp2_with fail
  refine (Match_begun n7 _ _ _ HG.out HT.out HT2.out).mono ?_
  rintro e wc ⟨ma, mc, rfl, hbc⟩
  have Hb0c := hide (Hb0b.out.trans (hbc.mono Hb0b.out.size))
  have Hbs3 := hide (Binds_below hbc Hbs2.out)
  clear hbc HG HT HT2 Hb0b Hbs2
  go_wp2_with fail
  refine (small_any _).mono ?_
  rintro e wd ⟨nd, rfl, hgd, hbd⟩
  go_wp2_with fail
  refine (va_any 2 _).mono ?_
  rintro e we ⟨rfl, hbe⟩
  have hbce : Below wc.heap.size wc we := hbd.trans (hbe.mono hbd.size)
  have Hb0e := hide (Hb0c.out.trans (hbce.mono Hb0c.out.size))
  have Hbs4 := hide (Binds_below hbce Hbs3.out)
  have HG := hide (Ints_below hbe hgd)
  clear hbd hbe hbce hgd Hbs3 Hb0c
  go_wp2_with fail
  refine (Apply_begun nd la lc _ HG.out Hbs4.out).mono ?_
  rintro e wf ⟨a1, cap1, rfl, hbf⟩
  have Hb0f := hide (Hb0e.out.trans (hbf.mono Hb0e.out.size))
  clear hbf HG Hbs4 Hb0e
  have hS := hide (fun (w' : World) (hb : Below (wf.heap.size + 1) (wf.alloc (.cells #[.int .i64 0, .int .i64 0, .slice a1 0 cap1] 27)) w') => (show w'.cell? ⟨wf.heap.size, 0, none⟩ = some (.int .i64 0) ∧ w'.cell? ⟨wf.heap.size, 1, none⟩ = some (.int .i64 0) ∧ w'.cell? ⟨wf.heap.size, 2, none⟩ = some (.slice a1 0 cap1) from
    ⟨((Three.new 27 rfl).same (hb.block _ (by omega))).c0, ((Three.new 27 rfl).same (hb.block _ (by omega))).c1, ((Three.new 27 rfl).same (hb.block _ (by omega))).c2⟩))
  have hB := hide (fun (w' : World) (hb : Below (wf.heap.size + 1) (wf.alloc (.cells #[.int .i64 0, .int .i64 0, .slice a1 0 cap1] 27)) w') => (Hb0f.out.alloc Hb0f.out.size _).trans (hb.mono (by have := Hb0f.out.size; omega)))
  clear Hb0f
  go_wp2_with fail
  go_region_held3 (fun w' => w'.cell? ⟨wf.heap.size, 0, none⟩ = some (.int .i64 0) ∧ w'.cell? ⟨wf.heap.size, 1, none⟩ = some (.int .i64 0) ∧ w'.cell? ⟨wf.heap.size, 2, none⟩ = some (.slice a1 0 cap1)) ((first | go_keep | exact hS.out _ (Hid.out ‹Hid (Below _ _ _)›))) ((first
    | (go_at_call 61
       refine (fn_any 0 _ 0 0 _).mono ?_
       rintro e wg ⟨rfl, hbg⟩
       have Hg : Hid (Below (wf.heap.size + 1) (wf.alloc (.cells #[.int .i64 0, .int .i64 0, .slice a1 0 cap1] 27)) wg) := by
         have := below_undrew hbg
         simpa [Hid] using this)
    | (go_at_call 28
       refine (Same_zero a1 none cap1 0 _).mono ?_
       rintro e wh ⟨rfl, hbh⟩
       have Hh : Hid (Below (wf.heap.size + 1) (wf.alloc (.cells #[.int .i64 0, .int .i64 0, .slice a1 0 cap1] 27)) wh) := Hg.out.trans (hbh.mono (by have := Hg.out.size; simpa using this)))))
  go_wp2_with fail
  go_ret
  exact ⟨rfl, hB.out _ Hh.out⟩

end Go.Proofs.Ytbkedppkdhfpoaa
