/- The program's going through the parts of terms, with whatever it does at each. -/
import Derived.Test.YtppeedpmofimhaaSig
import Derived.Test.YtppeedpmofimhaaSize
import Derived.Outline
namespace Go.Proofs.Ytppeedpmofimhaa
open Go.RowKit

/-- Of the blocks that were there only x, and those that F tells of what x holds, may have been written. -/
structure Keeps (x : Nat) (F : Option Obj → Nat → Prop) (w w' : World) : Prop where
  os : w'.os = w.os
  tape : w'.tape = w.tape
  output : w'.output = w.output
  size : w.heap.size ≤ w'.heap.size
  block : ∀ k, k < w.heap.size → k ≠ x → ¬ F w.heap[x]? k → w'.heap[k]? = w.heap[k]?
  foot : ∀ k, F w'.heap[x]? k → F w.heap[x]? k ∨ (w.heap.size ≤ k ∧ k < w'.heap.size)

/-- x is a block; what F tells lies from B on. -/
structure Foot (x B : Nat) (F : Option Obj → Nat → Prop) (w : World) : Prop where
  hx : x < w.heap.size
  hB : B ≤ w.heap.size
  rng : ∀ k, F w.heap[x]? k → B ≤ k ∧ k < w.heap.size

theorem Keeps.refl (x : Nat) (F : Option Obj → Nat → Prop) (w : World) : Keeps x F w w := ⟨rfl, rfl, rfl, Nat.le_refl _, fun _ _ _ _ => rfl, fun _ h => Or.inl h⟩
theorem Keeps.trans {x : Nat} {F : Option Obj → Nat → Prop} {a b c : World} (h : Keeps x F a b) (k : Keeps x F b c) : Keeps x F a c := by
  refine ⟨k.os.trans h.os, k.tape.trans h.tape, k.output.trans h.output, Nat.le_trans h.size k.size, fun i hi hix hF => ?_, fun i hF => ?_⟩
  · have h1 := h.size
    rw [k.block i (by omega) hix (fun hF' => ?_)]
    · exact h.block i hi hix hF
    · rcases h.foot i hF' with h2 | h2
      · exact hF h2
      · omega
  · have h1 := h.size
    have h3 := k.size
    rcases k.foot i hF with h2 | h2
    · rcases h.foot i h2 with h4 | h4
      · exact Or.inl h4
      · exact Or.inr ⟨h4.1, by omega⟩
    · exact Or.inr ⟨by omega, h2.2⟩
theorem Keeps.alloc {x : Nat} {F : Option Obj → Nat → Prop} {a w : World} (h : Keeps x F a w) (hx : x < a.heap.size) (o : Obj) : Keeps x F a (w.alloc o) := by
  refine h.trans ⟨rfl, rfl, rfl, by simp, fun k hk _ _ => Below.heap_alloc _ _ _ hk, fun k hF => Or.inl ?_⟩
  have := h.size
  rwa [Below.heap_alloc _ _ _ (by omega)] at hF
theorem Foot.keeps {x B : Nat} {F : Option Obj → Nat → Prop} {w w' : World} (hf : Foot x B F w) (h : Keeps x F w w') : Foot x B F w' := by
  have h1 := h.size
  have h2 := hf.hB
  refine ⟨by have := hf.hx; omega, by omega, fun k hk => ?_⟩
  rcases h.foot k hk with h3 | h3
  · have := hf.rng k h3; omega
  · omega
theorem Foot.alloc {x B : Nat} {F : Option Obj → Nat → Prop} {w : World} (hf : Foot x B F w) (o : Obj) : Foot x B F (w.alloc o) :=
  hf.keeps ((Keeps.refl _ _ _).alloc hf.hx o)
theorem InP_keeps {x B : Nat} {F : Option Obj → Nat → Prop} {w w' : World} {ts : List T} {a : Option Addr} (hf : Foot x B F w) (h : Keeps x F w w') (hi : InP (fun k => k < B ∧ k ≠ x) w ts a) : InP (fun k => k < B ∧ k ≠ x) w' ts a :=
  InP_same (fun k hp hk => h.block k hk hp.2 (fun hF => by have := hf.rng k hF; omega)) hi

set_option maxRecDepth 100000 in
set_option maxHeartbeats 400000 in
theorem look_any {S : Type} (step : S → T → S × Bool) (K : Nat) (caps : Array Value) (x B : Nat) (F : Option Obj → Nat → Prop) (Inv : World → S → Prop)
    (eg : ∀ args w, (callFunc K args).run Try.prog w = .ok (.enter K args) w)
    (mu : S → Nat) (L : Nat) (hmu : ∀ s t, mu (step s t).1 ≤ mu s + 1)
    (ha : ∀ w s o, Foot x B F w → Inv w s → Inv (w.alloc o) s)
    (hc : ∀ w s (t : T) a cap, mu s < L → Foot x B F w → Inv w s → Calls Try.prog K (#[.agg #[.int .i64 t.v, .int .i64 t.f, .slice a t.args.length cap]] ++ caps) w fun e w' => e = .returned (.bool (step s t).2) ∧ Inv w' (step s t).1 ∧ Keeps x F w w')
    (N : Nat) : ∀ ts a cap w s, T.sz.szL ts < N → T.sz.szL ts ≤ 1000 → mu s + T.sz.szL ts ≤ L → Foot x B F w → InP (fun k => k < B ∧ k ≠ x) w ts a → Inv w s →
    Calls Try.prog 54 #[.func (.func K) #[] caps, .slice a ts.length cap] w fun e w' => e = .returned (.bool (lookT.lookL step s ts).2) ∧ Inv w' (lookT.lookL step s ts).1 ∧ Keeps x F w w' := by
  induction N with
  | zero => intro ts a cap w s hN; omega
  | succ N ih =>
    intro ts a cap w s hN h1000 hL hf hin hinv
    have Hih := hide ih
    have Hc := hide hc
    have Ha := hide ha
    clear ih hc ha
    go_enter Try.func54, Try.ntmps54
    go_wp2_with fail
    go_loopw [9] (fun i wr => ∃ k : Nat, ∃ sk : S, k ≤ ts.length ∧ i = .int .i64 k ∧ Inv wr sk ∧ Hid (lookT.lookL step s (ts.take k) = (sk, true)) ∧ Keeps x F w wr) (fun i _ => ts.length - (intOf i).toNat)
    case atStart => exact ⟨0, s, Nat.zero_le _, rfl, hinv, rfl, Keeps.refl _ _ _⟩
    case round =>
      obtain ⟨k, sk, hk, rfl, hsk, HL, hkeep⟩ := hrel
      by_cases hlt : k < ts.length
      · have hin' := InP_keeps hf hkeep hin
        have hf' := hf.keeps hkeep
        obtain ⟨b, off, rfl⟩ := InP_some hin (by omega)
        obtain ⟨t, ht⟩ : ∃ t, ts[k]? = some t := ⟨ts[k], List.getElem?_eq_getElem hlt⟩
        obtain ⟨a1, cap1, hpb, c0, c1, c2, hin1⟩ := InP_at hin' ht
        obtain ⟨hs1, hs2⟩ := szL_take ht
        have Hst := hide (fun s2 => lookL_step (step := step) (s := s) (s2 := s2) ht HL.out)
        have HT := hide (lookT_eq step sk t)
        have hfx := hf'.hx
        have hmk : mu sk ≤ mu s + T.sz.szL (ts.take k) := by have := (look_mu hmu _).2 (ts.take k) s (Nat.le_refl _); rw [HL.out] at this; exact this
        have Hm := hide ((look_mu hmu _).2 t.args sk (Nat.le_refl _))
        have hk3 : k ≤ 1000 := by have := T.length_le ts; omega
        clear ht
        go_wp2_with fail
        refine (Hih.out t.args _ _ _ sk (by omega) (by omega) (by omega) (hf'.alloc _) (InP_alloc _ hin1) (Ha.out _ _ _ hf' hsk)).mono ?_
        rintro e w' ⟨rfl, hinv1, hkeep1⟩
        have hf1 := (hf'.alloc _).keeps hkeep1
        have hbl := hkeep1.block wr.heap.size (by simp) (by omega) (fun hF => by rw [Below.heap_alloc _ _ _ hf'.hx] at hF; have := hf'.rng _ hF; omega)
        have hsz1 := hkeep1.size
        have hsz0 := hkeep.size
        have hcell : ∀ j, w'.cell? ⟨wr.heap.size, j, none⟩ = #[Value.int IntKind.i64 t.v, Value.int IntKind.i64 t.f, Value.slice a1 t.args.length cap1][j]? := fun j => by
          rw [World.cell?_of_block (w := wr.alloc _) (a := ⟨wr.heap.size, j, none⟩) hbl]
          exact World.cell?_alloc_mark _ _ _ _ _
        have d0 := hcell 0
        have d1 := hcell 1
        have d2 := hcell 2
        simp only [List.getElem?_toArray, List.getElem?_cons_zero, List.getElem?_cons_succ] at d0 d1 d2
        have hk1 : Keeps x F w w' := ((hkeep.alloc hf.hx _).trans hkeep1)
        clear hbl hcell hkeep1 hkeep hin1 hin' hin c0 c1 c2
        have hm2 : mu (lookT.lookL step sk t.args).1 < L := by have := Hm.out; omega
        clear Hm
        generalize hr : lookT.lookL step sk t.args = r at *
        obtain ⟨s1, b1⟩ := r
        have Hr := hide hr
        clear hr
        simp only at hinv1 hm2
        cases b1 with
        | false =>
          have hT : lookT step sk t = (s1, false) := by rw [HT.out]; rfl
          have hfin := (Hst.out s1).2 hT
          have Hfin := hide hfin
          clear hfin hT HT Hst
          go_wp2_with fail
          go_ret
          rw [Hfin.out]
          exact ⟨rfl, hinv1, hk1⟩
        | true =>
          have hT : lookT step sk t = step s1 t := by rw [HT.out]; rfl
          have HT1 := hide hT
          clear hT HT
          go_wp2_with fail
          refine (Hc.out w' s1 t a1 cap1 hm2 hf1 hinv1).mono ?_
          rintro e w2 ⟨rfl, hinv2, hkeep2⟩
          have hk2 := hk1.trans hkeep2
          clear hkeep2 hk1 hinv1 d0 d1 d2
          generalize hr2 : step s1 t = r2 at *
          obtain ⟨s2, b2⟩ := r2
          have Hst2 := Hst.out s2
          rw [HT1.out] at Hst2
          have Hst2 := hide Hst2
          clear hr2 Hst HT1
          simp only at hinv2
          cases b2 with
          | false =>
            have hfin := hide (Hst2.out.2 rfl)
            go_wp2_with fail
            go_ret
            rw [hfin.out]
            exact ⟨rfl, hinv2, hk2⟩
          | true =>
            have hgo := hide (Hst2.out.1 rfl)
            clear Hst2
            go_wp2_with fail
            go_roundw
            case rel => exact ⟨k + 1, s2, by omega, by go_num, hinv2, hgo, hk2⟩
            case measure => simp [intOf]; omega
      · go_wp2_with fail
        go_ret
        have hk2 : k = ts.length := by omega
        subst hk2
        rw [List.take_length] at HL
        rw [HL.out]
        exact ⟨rfl, hsk, hkeep⟩

end Go.Proofs.Ytppeedpmofimhaa
