/- The table that the program's order keeps: what it holds is right, as far as it is asked. -/
import Derived.Test.YthlcghimjfgedaaGt
import Derived.Test.YthlcghimjfgedaaPart
namespace Go.Proofs.Ythlcghimjfgedaa
open Go.RowKit

/-- A table: the block of its rows, how many, how long; their blocks; the parts that its numbers mean; the signature. All lies below B. -/
structure TB where
  K : Nat
  R : Nat
  C : Nat
  B : Nat
  rb : Nat → Nat
  PS : List T
  PT : List T
  ar : List Int
structure TB.Ok (b : TB) : Prop where
  hK : ∀ i, i < b.R → b.K ≠ b.rb i
  inj : ∀ i j, i < b.R → j < b.R → b.rb i = b.rb j → i = j
  hR : b.R = b.PS.length
  hC : b.C = b.PT.length
  r1 : b.R ≤ 1000
  c1 : b.C ≤ 1000
def TB.q (b : TB) : Nat → Prop := fun k => k < b.B ∧ ∀ i, i < b.R → k ≠ b.rb i

structure Tab (b : TB) (w : World) (M : Nat → Nat → Int) : Prop where
  rows : ∀ i, i < b.R → w.cell? ⟨b.K, i, none⟩ = some (.slice (some ⟨b.rb i, 0, none⟩) b.C b.C)
  ent : ∀ i j, i < b.R → j < b.C → w.cell? ⟨b.rb i, j, none⟩ = some (.int .i8 (M i j))
  fr : ∀ i j, i < b.R → w.frozen? ⟨b.rb i, j, none⟩ = false
  lt : ∀ i, i < b.R → b.rb i < w.heap.size
  ltK : b.K < w.heap.size

theorem Tab.same {b : TB} {w w' : World} {M : Nat → Nat → Int} (h : Tab b w M) (hz : w.heap.size ≤ w'.heap.size) (hK : w'.heap[b.K]? = w.heap[b.K]?) (hr : ∀ i, i < b.R → w'.heap[b.rb i]? = w.heap[b.rb i]?) : Tab b w' M :=
  ⟨fun i hi => by rw [World.cell?_of_block (w := w) (a := ⟨b.K, i, none⟩) hK]; exact h.rows i hi, fun i j hi hj => by rw [World.cell?_of_block (w := w) (a := ⟨b.rb i, j, none⟩) (hr i hi)]; exact h.ent i j hi hj,
   fun i j hi => by rw [World.frozen?_of_block (w := w) (a := ⟨b.rb i, j, none⟩) (hr i hi)]; exact h.fr i j hi, fun i hi => Nat.lt_of_lt_of_le (h.lt i hi) hz, Nat.lt_of_lt_of_le h.ltK hz⟩
theorem Tab.below {b : TB} {w w' : World} {M : Nat → Nat → Int} (h : Tab b w M) (hb : Below w.heap.size w w') : Tab b w' M := h.same hb.size (hb.block _ h.ltK) (fun i hi => hb.block _ (h.lt i hi))
/-- An entry written. -/
theorem Tab.set {b : TB} (hok : b.Ok) {w : World} {M : Nat → Nat → Int} (h : Tab b w M) {i j : Nat} (hi : i < b.R) (hj : j < b.C) (x : Int) : Tab b (w.setCell ⟨b.rb i, j, none⟩ (.int .i8 x)) (fun i' j' => if i' = i ∧ j' = j then x else M i' j') := by
  have hs : (w.setCell ⟨b.rb i, j, none⟩ (.int .i8 x)).heap.size = w.heap.size := by simp [World.setCell]
  refine ⟨fun k hk => ?_, fun i' j' hi' hj' => ?_, fun i' j' hi' => ?_, fun k hk => by rw [hs]; exact h.lt k hk, by rw [hs]; exact h.ltK⟩
  · rw [World.cell?_of_block (w := w) (a := ⟨b.K, k, none⟩) (Below.heap_setCell _ _ _ _ (hok.hK i hi))]; exact h.rows k hk
  · by_cases e : i' = i
    · subst e
      by_cases e2 : j' = j
      · subst e2
        rw [World.cell?_setCell_same _ _ _ (h.ent i' j' hi hj), if_pos ⟨rfl, rfl⟩]
      · rw [World.cell?_setCell_other _ _ _ _ (fun e3 => e2 (by injection e3 with _ e4; exact e4.symm)), if_neg (fun h => e2 h.2)]; exact h.ent _ _ hi' hj'
    · rw [World.cell?_of_block (w := w) (a := ⟨b.rb i', j', none⟩) (Below.heap_setCell _ _ _ _ (fun e3 => e (hok.inj _ _ hi' hi e3))), if_neg (fun h => e h.1)]; exact h.ent _ _ hi' hj'
  · rw [World.frozen?_setCell]; exact h.fr i' j' hi'

/-- Nothing but the table's rows has changed, and what is new. -/
structure KT (b : TB) (w w' : World) : Prop where
  os : w'.os = w.os
  tape : w'.tape = w.tape
  output : w'.output = w.output
  size : w.heap.size ≤ w'.heap.size
  block : ∀ k, k < w.heap.size → (∀ i, i < b.R → k ≠ b.rb i) → w'.heap[k]? = w.heap[k]?
theorem KT.refl (b : TB) (w : World) : KT b w w := ⟨rfl, rfl, rfl, Nat.le_refl _, fun _ _ _ => rfl⟩
theorem KT.trans {b : TB} {w w' w'' : World} (h : KT b w w') (k : KT b w' w'') : KT b w w'' :=
  ⟨k.os.trans h.os, k.tape.trans h.tape, k.output.trans h.output, Nat.le_trans h.size k.size, fun x hx hr => by rw [k.block x (Nat.lt_of_lt_of_le hx h.size) hr, h.block x hx hr]⟩
theorem KT.of_below {b : TB} {w w' : World} (h : Below w.heap.size w w') : KT b w w' := ⟨h.os, h.tape, h.output, h.size, fun k hk _ => h.block k hk⟩
theorem KT.set {b : TB} {w w' : World} (h : KT b w w') {i : Nat} (hi : i < b.R) (j : Nat) (v : Value) : KT b w (w'.setCell ⟨b.rb i, j, none⟩ v) :=
  h.trans ⟨rfl, rfl, rfl, by simp [World.setCell], fun k _ hk => Below.heap_setCell _ _ _ _ (hk i hi)⟩
theorem KT.cell {b : TB} {w w' : World} (h : KT b w w') {k j : Nat} {v : Value} (hk : ∀ i, i < b.R → k ≠ b.rb i) (hv : w.cell? ⟨k, j, none⟩ = some v) : w'.cell? ⟨k, j, none⟩ = some v := by
  rw [World.cell?_of_block (w := w) (a := ⟨k, j, none⟩) (h.block k (lt_of_cell hv) hk)]; exact hv
theorem InP_kt {b : TB} {w w' : World} {ts : List T} {a : Option Addr} (h : KT b w w') (hi : InP b.q w ts a) : InP b.q w' ts a := InP_same (fun k hk hlt => h.block k hlt hk.2) hi
theorem PL_kt {b : TB} {w w' : World} {ts : List T} {n : Nat} {a : Option Addr} (h : KT b w w') (hi : PL b.q b.q w ts n a) : PL b.q b.q w' ts n a := PL_same (fun k hk hlt => h.block k hlt (hk.elim (fun h => h.2) (fun h => h.2))) hi

/-- As far as size n, each entry is unasked or right. -/
def Corr (b : TB) (M : Nat → Nat → Int) (n : Nat) : Prop := ∀ i j s t, b.PS[i]? = some s → b.PT[j]? = some t → s.sz + t.sz ≤ n → M i j = 0 ∨ M i j = (if gt s t then 1 else 2)
/-- What is right as far as n stays so, and beyond it nothing changes. -/
def Step (b : TB) (n : Nat) (w w' : World) : Prop := ∀ M, Tab b w M → Corr b M n → ∃ M', Tab b w' M' ∧ Corr b M' n ∧ ∀ i j s t, b.PS[i]? = some s → b.PT[j]? = some t → n < s.sz + t.sz → M' i j = M i j
theorem Corr.mono {b : TB} {M : Nat → Nat → Int} {m n : Nat} (h : Corr b M n) (hm : m ≤ n) : Corr b M m := fun i j s t hi hj hs => h i j s t hi hj (Nat.le_trans hs hm)
theorem Step.refl (b : TB) (n : Nat) (w : World) : Step b n w w := fun M h1 h2 => ⟨M, h1, h2, fun _ _ _ _ _ _ _ => rfl⟩
theorem Step.trans {b : TB} {n : Nat} {w w' w'' : World} (h : Step b n w w') (k : Step b n w' w'') : Step b n w w'' := fun M h1 h2 => by
  obtain ⟨M', g1, g2, g3⟩ := h M h1 h2
  obtain ⟨M'', k1, k2, k3⟩ := k M' g1 g2
  exact ⟨M'', k1, k2, fun i j s t hi hj hs => (k3 i j s t hi hj hs).trans (g3 i j s t hi hj hs)⟩
theorem Step.mono {b : TB} {m n : Nat} {w w' : World} (h : Step b m w w') (hm : m ≤ n) : Step b n w w' := fun M h1 h2 => by
  obtain ⟨M', g1, g2, g3⟩ := h M h1 (h2.mono hm)
  refine ⟨M', g1, fun i j s t hi hj hs => ?_, fun i j s t hi hj hs => g3 i j s t hi hj (by omega)⟩
  rcases Nat.lt_or_ge m (s.sz + t.sz) with h3 | h3
  · rw [g3 i j s t hi hj h3]; exact h2 i j s t hi hj hs
  · exact g2 i j s t hi hj h3
theorem Step.of_below {b : TB} {n : Nat} {w w' : World} (h : Below w.heap.size w w') : Step b n w w' := fun M h1 h2 => ⟨M, h1.below h, h2, fun _ _ _ _ _ _ _ => rfl⟩

/-- The table is there, and right as far as n. -/
def TabOK (b : TB) (n : Nat) (w : World) : Prop := ∃ M, Tab b w M ∧ Corr b M n
/-- Both: what has changed, and that the table is right. -/
structure GS (b : TB) (n : Nat) (w w' : World) : Prop where
  kt : KT b w w'
  st : Step b n w w'
theorem GS.refl (b : TB) (n : Nat) (w : World) : GS b n w w := ⟨KT.refl _ _, Step.refl _ _ _⟩
theorem GS.trans {b : TB} {n : Nat} {w w' w'' : World} (h : GS b n w w') (k : GS b n w' w'') : GS b n w w'' := ⟨h.kt.trans k.kt, h.st.trans k.st⟩
theorem GS.of_below {b : TB} {n : Nat} {w w' : World} (h : Below w.heap.size w w') : GS b n w w' := ⟨KT.of_below h, Step.of_below h⟩
theorem GS.mono {b : TB} {m n : Nat} {w w' : World} (h : GS b m w w') (hm : m ≤ n) : GS b n w w' := ⟨h.kt, h.st.mono hm⟩
theorem TabOK.gs {b : TB} {n : Nat} {w w' : World} (h : TabOK b n w) (hg : GS b n w w') : TabOK b n w' := by
  obtain ⟨M, h1, h2⟩ := h
  obtain ⟨M', g1, g2, _⟩ := hg.st M h1 h2
  exact ⟨M', g1, g2⟩
theorem TabOK.mono {b : TB} {m n : Nat} {w : World} (h : TabOK b n w) (hm : m ≤ n) : TabOK b m w := by
  obtain ⟨M, h1, h2⟩ := h
  exact ⟨M, h1, h2.mono hm⟩

theorem any_step {f : T → Bool} {ts : List T} {k : Nat} {t : T} (ht : ts[k]? = some t) (h : (ts.take k).any f = false) : (f t = false → (ts.take (k + 1)).any f = false) ∧ (f t = true → ts.any f = true) := by
  constructor
  · intro h2
    rw [List.take_add_one, ht, List.any_append, h]
    simp [h2]
  · intro h2
    exact List.any_eq_true.2 ⟨t, List.mem_of_getElem? ht, h2⟩

set_option maxRecDepth 100000 in
set_option maxHeartbeats 400000 in
theorem partIdx_any (b : TB) (n : Nat) (L : List T) (Kf : Nat) (caps : Array Value) (f : T → Bool) (Inv : World → Prop) (eg : ∀ args w, (callFunc Kf args).run Try.prog w = .ok (.enter Kf args) w) (hinv : ∀ w w', GS b n w w' → Inv w → Inv w') (ts : List T)
    (hc : ∀ w x m ta tc pa pc, Inv w → x ∈ ts → L[m]? = some x → Subs L (m + 1) x.args → InP b.q w x.args ta → PL b.q b.q w x.args (m + 1) pa →
      Calls Try.prog Kf (#[.agg #[.int .i64 x.v, .int .i64 x.f, .slice ta x.args.length tc, .int .i64 (m : Int), .slice pa x.args.length pc]] ++ caps) w fun e w' => e = .returned (.bool (f x)) ∧ GS b n w w')
    (m0 : Nat) (a : Option Addr) (cap : Nat) (w : World) (h1000 : ts.length ≤ 1000) (hin : PL b.q b.q w ts m0 a) (hsub : Subs L m0 ts) (hi : Inv w) :
    Calls Try.prog 135 #[.slice a ts.length cap, .func (.func Kf) #[] caps] w fun e w' => ∃ r : Int, e = .returned (.int .i64 r) ∧ decide (0 ≤ r) = ts.any f ∧ GS b n w w' := by
  have Hc := hide hc
  have Hinv := hide hinv
  clear hc hinv
  go_enter Try.func135, Try.ntmps135
  go_wp2_with fail
  go_loopw [8] (fun i wr => ∃ k : Nat, k ≤ ts.length ∧ i = .int .i64 k ∧ Hid ((ts.take k).any f = false) ∧ GS b n w wr) (fun i _ => ts.length - (intOf i).toNat)
  case atStart => exact ⟨0, Nat.zero_le _, rfl, rfl, GS.refl _ _ _⟩
  case round =>
    obtain ⟨k, hk, rfl, HL, hg⟩ := hrel
    by_cases hlt : k < ts.length
    · obtain ⟨b1, off, rfl⟩ := PL_some hin (by omega)
      obtain ⟨y, hy⟩ : ∃ y, ts[k]? = some y := ⟨ts[k], List.getElem?_eq_getElem hlt⟩
      obtain ⟨ta, tc, pa, pc, _, k0, k1, k2, k3, k4, hiny, hply⟩ := PL_at (PL_kt hg.kt hin) hy
      obtain ⟨s1, s2, _⟩ := hsub.at hy
      obtain ⟨m, hm⟩ : ∃ m, m = m0 + T.sz.szL (ts.take k) := ⟨_, rfl⟩
      rw [← hm] at k3 hply s1 s2
      have Hst := hide (any_step hy HL.out)
      have hk3 : k ≤ 1000 := by omega
      have hkI : (k : Int) < ts.length := by omega
      have hk0 : (0 : Int) ≤ k := by omega
      have HC := hide (Hc.out wr y m ta tc pa pc (Hinv.out _ _ hg hi) (List.mem_of_getElem? hy) s1 s2 hiny hply)
      have Hg := hide hg
      clear hy hiny hply hg s1 s2 hm
      go_wp2_with fail
      refine HC.out.mono ?_
      rintro e w3 ⟨rfl, hg3⟩
      have Hg3 := hide (Hg.out.trans hg3)
      clear hg3
      rcases Bool.eq_false_or_eq_true (f y) with hxy | hxy
      · have Hfin2 := hide (Hst.out.2 hxy)
        rw [hxy]
        clear Hst hxy
        go_wp2_with fail
        go_ret
        exact ⟨k, rfl, by rw [Hfin2.out]; exact decide_eq_true (by omega), Hg3.out⟩
      · have Hgo := hide (Hst.out.1 hxy)
        rw [hxy]
        clear Hst hxy
        go_wp2_with fail
        go_roundw
        case rel => exact ⟨k + 1, by omega, by go_num, Hgo.out, Hg3.out⟩
        case measure => simp [intOf]; omega
    · have hk2 : k = ts.length := by omega
      subst hk2
      have Hfin2 : Hid (ts.any f = false) := by
        have h5 := HL.out
        rw [List.take_length] at h5
        exact h5
      go_wp2_with fail
      go_ret
      exact ⟨-1, rfl, by rw [Hfin2.out]; rfl, hg⟩

set_option maxRecDepth 100000 in
set_option maxHeartbeats 400000 in
theorem partHas_any (b : TB) (n : Nat) (L : List T) (Kf : Nat) (caps : Array Value) (f : T → Bool) (Inv : World → Prop) (eg : ∀ args w, (callFunc Kf args).run Try.prog w = .ok (.enter Kf args) w) (hinv : ∀ w w', GS b n w w' → Inv w → Inv w') (ts : List T)
    (hc : ∀ w x m ta tc pa pc, Inv w → x ∈ ts → L[m]? = some x → Subs L (m + 1) x.args → InP b.q w x.args ta → PL b.q b.q w x.args (m + 1) pa →
      Calls Try.prog Kf (#[.agg #[.int .i64 x.v, .int .i64 x.f, .slice ta x.args.length tc, .int .i64 (m : Int), .slice pa x.args.length pc]] ++ caps) w fun e w' => e = .returned (.bool (f x)) ∧ GS b n w w')
    (m0 : Nat) (a : Option Addr) (cap : Nat) (w : World) (h1000 : ts.length ≤ 1000) (hin : PL b.q b.q w ts m0 a) (hsub : Subs L m0 ts) (hi : Inv w) :
    Calls Try.prog 128 #[.slice a ts.length cap, .func (.func Kf) #[] caps] w fun e w' => e = .returned (.bool (ts.any f)) ∧ GS b n w w' := by
  have H := hide (partIdx_any b n L Kf caps f Inv eg hinv ts hc m0 a cap w h1000 hin hsub hi)
  clear hc hinv
  go_enter Try.func128, Try.ntmps128
  go_wp2_with fail
  refine H.out.mono ?_
  rintro e w1 ⟨r, rfl, hr, hb1⟩
  have Hr := hide hr
  have Hb := hide hb1
  clear hr hb1
  go_wp2_with fail
  go_ret
  exact ⟨ret_bool Hr.out, Hb.out⟩

end Go.Proofs.Ythlcghimjfgedaa
