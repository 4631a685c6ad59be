/- The table that the program's order keeps: what it holds is right, as far as it is asked. What the program's order asks of arguments, by way of its table. Two parts of one function: what their arguments tell. What the program's order asks of two parts, and keeps in its table. -/
import Derived.BigQuiet
import Derived.Deep.DrawnRows
import Derived.Deep.RegionHeld3
import Derived.Test.YtbkedppkdhfpoabGreatJoined9
namespace Go.Proofs.YtbkedppkdhfpoabGreat
open Go.RowKit
structure TB where
  K : Nat
  R : Nat
  C : Nat
  PS : List T
  PT : List T
  ar : List Int
structure TB.Ok (b : TB) : Prop where
  hR : b.R = b.PS.length
  hC : b.C = b.PT.length
  r1 : b.R ≤ 1000
  c1 : b.C ≤ 1000
def TB.q (b : TB) : Nat → Prop := fun k => k ≠ b.K
structure Tab (b : TB) (w : World) (M : Nat → Nat → Int) : Prop where
  ent : ∀ i j, i < b.R → j < b.C → w.cell? ⟨b.K, i * b.C + j, none⟩ = some (.int .i8 (M i j))
  fr : ∀ k, w.frozen? ⟨b.K, k, none⟩ = false
  lt : b.K < w.heap.size
theorem idx_inj {C i j i' j' : Nat} (hj : j < C) (hj' : j' < C) (h : i * C + j = i' * C + j') : i = i' ∧ j = j' := by
  have hC : 0 < C := by omega
  have e1 : (i * C + j) / C = i := by rw [Nat.mul_comm, Nat.mul_add_div hC, Nat.div_eq_of_lt hj]; omega
  have e2 : (i' * C + j') / C = i' := by rw [Nat.mul_comm, Nat.mul_add_div hC, Nat.div_eq_of_lt hj']; omega
  have e3 : i = i' := by rw [← e1, h, e2]
  subst e3
  exact ⟨rfl, by omega⟩
theorem idx_lt {R C i j : Nat} (hi : i < R) (hj : j < C) : i * C + j < R * C := by
  have h : (i + 1) * C ≤ R * C := Nat.mul_le_mul_right C hi
  rw [Nat.add_mul] at h
  omega
theorem Tab.same {b : TB} {w w' : World} {M : Nat → Nat → Int} (h : Tab b w M) (hz : w.heap.size ≤ w'.heap.size) (hK : w'.heap[b.K]? = w.heap[b.K]?) : Tab b w' M :=
  ⟨fun i j hi hj => by rw [World.cell?_of_block (w := w) (a := ⟨b.K, i * b.C + j, none⟩) hK]; exact h.ent i j hi hj,
   fun k => by rw [World.frozen?_of_block (w := w) (a := ⟨b.K, k, none⟩) hK]; exact h.fr k, Nat.lt_of_lt_of_le h.lt hz⟩
theorem Tab.below {b : TB} {w w' : World} {M : Nat → Nat → Int} (h : Tab b w M) (hb : Below w.heap.size w w') : Tab b w' M := h.same hb.size (hb.block _ h.lt)
theorem Tab.set {b : TB} {w : World} {M : Nat → Nat → Int} (h : Tab b w M) {i j : Nat} (hi : i < b.R) (hj : j < b.C) (x : Int) : Tab b (w.setCell ⟨b.K, i * b.C + j, none⟩ (.int .i8 x)) (fun i' j' => if i' = i ∧ j' = j then x else M i' j') := by
  have hs : (w.setCell ⟨b.K, i * b.C + j, none⟩ (.int .i8 x)).heap.size = w.heap.size := by simp [World.setCell]
  refine ⟨fun i' j' hi' hj' => ?_, fun k => ?_, by rw [hs]; exact h.lt⟩
  · by_cases e : i' = i ∧ j' = j
    · obtain ⟨rfl, rfl⟩ := e
      rw [World.cell?_setCell_same _ _ _ (h.ent i' j' hi hj), if_pos ⟨rfl, rfl⟩]
    · rw [World.cell?_setCell_other _ _ _ _ (fun e3 => e (by
        have h4 : i * b.C + j = i' * b.C + j' := by injection e3
        have := idx_inj hj hj' h4
        exact ⟨this.1.symm, this.2.symm⟩)), if_neg e]
      exact h.ent _ _ hi' hj'
  · rw [World.frozen?_setCell]; exact h.fr k
structure KT (b : TB) (w w' : World) : Prop where
  os : w'.os = w.os
  tape : w'.tape = w.tape
  output : w'.output = w.output
  size : w.heap.size ≤ w'.heap.size
  block : ∀ k, k < w.heap.size → k ≠ b.K → w'.heap[k]? = w.heap[k]?
theorem KT.refl (b : TB) (w : World) : KT b w w := ⟨rfl, rfl, rfl, Nat.le_refl _, fun _ _ _ => rfl⟩
theorem KT.trans {b : TB} {w w' w'' : World} (h : KT b w w') (k : KT b w' w'') : KT b w w'' :=
  ⟨k.os.trans h.os, k.tape.trans h.tape, k.output.trans h.output, Nat.le_trans h.size k.size, fun x hx hr => by rw [k.block x (Nat.lt_of_lt_of_le hx h.size) hr, h.block x hx hr]⟩
theorem KT.of_below {b : TB} {w w' : World} (h : Below w.heap.size w w') : KT b w w' := ⟨h.os, h.tape, h.output, h.size, fun k hk _ => h.block k hk⟩
theorem KT.set {b : TB} {w w' : World} (h : KT b w w') (j : Nat) (v : Value) : KT b w (w'.setCell ⟨b.K, j, none⟩ v) :=
  h.trans ⟨rfl, rfl, rfl, by simp [World.setCell], fun k _ hk => Below.heap_setCell _ _ _ _ hk⟩
theorem InP_kt {b : TB} {w w' : World} {ts : List T} {a : Option Addr} (h : KT b w w') (hi : InP b.q w ts a) : InP b.q w' ts a := InP_same (fun k hk hlt => h.block k hlt hk) hi
theorem PL_kt {b : TB} {w w' : World} {ts : List T} {n : Nat} {a : Option Addr} (h : KT b w w') (hi : PL b.q b.q w ts n a) : PL b.q b.q w' ts n a := PL_same (fun k hk hlt => h.block k hlt (hk.elim id id)) hi
def Corr (b : TB) (M : Nat → Nat → Int) (n : Nat) : Prop := ∀ i j s t, b.PS[i]? = some s → b.PT[j]? = some t → s.sz + t.sz ≤ n → M i j = 0 ∨ M i j = cmpS s t
def Step (b : TB) (n : Nat) (w w' : World) : Prop := ∀ M, Tab b w M → Corr b M n → ∃ M', Tab b w' M' ∧ Corr b M' n ∧ ∀ i j s t, b.PS[i]? = some s → b.PT[j]? = some t → n < s.sz + t.sz → M' i j = M i j
theorem Corr.mono {b : TB} {M : Nat → Nat → Int} {m n : Nat} (h : Corr b M n) (hm : m ≤ n) : Corr b M m := fun i j s t hi hj hs => h i j s t hi hj (Nat.le_trans hs hm)
theorem Step.refl (b : TB) (n : Nat) (w : World) : Step b n w w := fun M h1 h2 => ⟨M, h1, h2, fun _ _ _ _ _ _ _ => rfl⟩
theorem Step.trans {b : TB} {n : Nat} {w w' w'' : World} (h : Step b n w w') (k : Step b n w' w'') : Step b n w w'' := fun M h1 h2 => by
  obtain ⟨M', g1, g2, g3⟩ := h M h1 h2
  obtain ⟨M'', k1, k2, k3⟩ := k M' g1 g2
  exact ⟨M'', k1, k2, fun i j s t hi hj hs => (k3 i j s t hi hj hs).trans (g3 i j s t hi hj hs)⟩
theorem Step.mono {b : TB} {m n : Nat} {w w' : World} (h : Step b m w w') (hm : m ≤ n) : Step b n w w' := fun M h1 h2 => by
  obtain ⟨M', g1, g2, g3⟩ := h M h1 (h2.mono hm)
  refine ⟨M', g1, fun i j s t hi hj hs => ?_, fun i j s t hi hj hs => g3 i j s t hi hj (by omega)⟩
  rcases Nat.lt_or_ge m (s.sz + t.sz) with h3 | h3
  · rw [g3 i j s t hi hj h3]; exact h2 i j s t hi hj hs
  · exact g2 i j s t hi hj h3
theorem Step.of_below {b : TB} {n : Nat} {w w' : World} (h : Below w.heap.size w w') : Step b n w w' := fun M h1 h2 => ⟨M, h1.below h, h2, fun _ _ _ _ _ _ _ => rfl⟩
def TabOK (b : TB) (n : Nat) (w : World) : Prop := ∃ M, Tab b w M ∧ Corr b M n
structure GS (b : TB) (n : Nat) (w w' : World) : Prop where
  kt : KT b w w'
  st : Step b n w w'
theorem GS.refl (b : TB) (n : Nat) (w : World) : GS b n w w := ⟨KT.refl _ _, Step.refl _ _ _⟩
theorem GS.trans {b : TB} {n : Nat} {w w' w'' : World} (h : GS b n w w') (k : GS b n w' w'') : GS b n w w'' := ⟨h.kt.trans k.kt, h.st.trans k.st⟩
theorem GS.of_below {b : TB} {n : Nat} {w w' : World} (h : Below w.heap.size w w') : GS b n w w' := ⟨KT.of_below h, Step.of_below h⟩
theorem GS.mono {b : TB} {m n : Nat} {w w' : World} (h : GS b m w w') (hm : m ≤ n) : GS b n w w' := ⟨h.kt, h.st.mono hm⟩
theorem TabOK.gs {b : TB} {n : Nat} {w w' : World} (h : TabOK b n w) (hg : GS b n w w') : TabOK b n w' := by
  obtain ⟨M, h1, h2⟩ := h
  obtain ⟨M', g1, g2, _⟩ := hg.st M h1 h2
  exact ⟨M', g1, g2⟩
theorem TabOK.mono {b : TB} {m n : Nat} {w : World} (h : TabOK b n w) (hm : m ≤ n) : TabOK b m w := by
  obtain ⟨M, h1, h2⟩ := h
  exact ⟨M, h1, h2.mono hm⟩
theorem any_step {f : T → Bool} {ts : List T} {k : Nat} {t : T} (ht : ts[k]? = some t) (h : (ts.take k).any f = false) : (f t = false → (ts.take (k + 1)).any f = false) ∧ (f t = true → ts.any f = true) := by
  constructor
  · intro h2
    rw [List.take_add_one, ht, List.any_append, h]
    simp [h2]
  · intro h2
    exact List.any_eq_true.2 ⟨t, List.mem_of_getElem? ht, h2⟩
set_option maxRecDepth 100000 in
set_option maxHeartbeats 400000 in
theorem partIdx_any (b : TB) (n : Nat) (L : List T) (Kf : Nat) (caps : Array Value) (f : T → Bool) (Inv : World → Prop) (eg : ∀ args w, (callFunc Kf args).run Tryz.prog w = .ok (.enter Kf args) w) (hinv : ∀ w w', GS b n w w' → Inv w → Inv w') (ts : List T)
    (hc : ∀ w x m ta tc pa pc, Inv w → x ∈ ts → x.args.length ≤ pc → L[m]? = some x → Subs L (m + 1) x.args → InP b.q w x.args ta → PL b.q b.q w x.args (m + 1) pa →
      Calls Tryz.prog Kf (#[.agg #[.int .i64 x.v, .int .i64 x.f, .slice ta x.args.length tc, .int .i64 (m : Int), .slice pa x.args.length pc]] ++ caps) w fun e w' => e = .returned (.bool (f x)) ∧ GS b n w w')
    (m0 : Nat) (a : Option Addr) (cap : Nat) (w : World) (h1000 : ts.length ≤ 1000) (hin : PL b.q b.q w ts m0 a) (hsub : Subs L m0 ts) (hi : Inv w) :
    Calls Tryz.prog 319 #[.slice a ts.length cap, .func (.func Kf) #[] caps] w fun e w' => ∃ r : Int, e = .returned (.int .i64 r) ∧ decide (0 ≤ r) = ts.any f ∧ GS b n w w' := by
  have Hc := hide hc
  have Hinv := hide hinv
  clear hc hinv
  go_enter Tryz.func319, Tryz.ntmps319
  go_wp2_with fail
  go_loopw [8] (fun i wr => ∃ k : Nat, k ≤ ts.length ∧ i = .int .i64 k ∧ Hid ((ts.take k).any f = false) ∧ GS b n w wr) (fun i _ => ts.length - (intOf i).toNat)
  case atStart => exact ⟨0, Nat.zero_le _, rfl, rfl, GS.refl _ _ _⟩
  case round =>
    obtain ⟨k, hk, rfl, HL, hg⟩ := hrel
    by_cases hlt : k < ts.length
    · obtain ⟨b1, off, rfl⟩ := PL_some hin (by omega)
      obtain ⟨y, hy⟩ : ∃ y, ts[k]? = some y := ⟨ts[k], List.getElem?_eq_getElem hlt⟩
      obtain ⟨ta, tc, pa, pc, _, k0, k1, k2, k3, k4, hpcy, hiny, hply⟩ := PL_at (PL_kt hg.kt hin) hy
      obtain ⟨s1, s2, _⟩ := hsub.at hy
      obtain ⟨m, hm⟩ : ∃ m, m = m0 + T.sz.szL (ts.take k) := ⟨_, rfl⟩
      rw [← hm] at k3 hply s1 s2
      have Hst := hide (any_step hy HL.out)
      have hk3 : k ≤ 1000 := by omega
      have hkI : (k : Int) < ts.length := by omega
      have hk0 : (0 : Int) ≤ k := by omega
      have HC := hide (Hc.out wr y m ta tc pa pc (Hinv.out _ _ hg hi) (List.mem_of_getElem? hy) hpcy s1 s2 hiny hply)
      have Hg := hide hg
      clear hy hiny hply hg s1 s2 hm hpcy
      go_wp2_with fail
      refine HC.out.mono ?_
      rintro e w3 ⟨rfl, hg3⟩
      have Hg3 := hide (Hg.out.trans hg3)
      clear hg3
      rcases Bool.eq_false_or_eq_true (f y) with hxy | hxy
      · have Hfin2 := hide (Hst.out.2 hxy)
        rw [hxy]
        clear Hst hxy
        go_wp2_with fail
        go_ret
        exact ⟨k, rfl, by rw [Hfin2.out]; exact decide_eq_true (by omega), Hg3.out⟩
      · have Hgo := hide (Hst.out.1 hxy)
        rw [hxy]
        clear Hst hxy
        go_wp2_with fail
        go_roundw
        case rel => exact ⟨k + 1, by omega, by go_num, Hgo.out, Hg3.out⟩
        case measure => simp [intOf]; omega
    · have hk2 : k = ts.length := by omega
      subst hk2
      have Hfin2 : Hid (ts.any f = false) := by
        have h5 := HL.out
        rw [List.take_length] at h5
        exact h5
      go_wp2_with fail
      go_ret
      exact ⟨-1, rfl, by rw [Hfin2.out]; rfl, hg⟩
set_option maxRecDepth 100000 in
set_option maxHeartbeats 400000 in
theorem partHas_any (b : TB) (n : Nat) (L : List T) (Kf : Nat) (caps : Array Value) (f : T → Bool) (Inv : World → Prop) (eg : ∀ args w, (callFunc Kf args).run Tryz.prog w = .ok (.enter Kf args) w) (hinv : ∀ w w', GS b n w w' → Inv w → Inv w') (ts : List T)
    (hc : ∀ w x m ta tc pa pc, Inv w → x ∈ ts → x.args.length ≤ pc → L[m]? = some x → Subs L (m + 1) x.args → InP b.q w x.args ta → PL b.q b.q w x.args (m + 1) pa →
      Calls Tryz.prog Kf (#[.agg #[.int .i64 x.v, .int .i64 x.f, .slice ta x.args.length tc, .int .i64 (m : Int), .slice pa x.args.length pc]] ++ caps) w fun e w' => e = .returned (.bool (f x)) ∧ GS b n w w')
    (m0 : Nat) (a : Option Addr) (cap : Nat) (w : World) (h1000 : ts.length ≤ 1000) (hin : PL b.q b.q w ts m0 a) (hsub : Subs L m0 ts) (hi : Inv w) :
    Calls Tryz.prog 316 #[.slice a ts.length cap, .func (.func Kf) #[] caps] w fun e w' => e = .returned (.bool (ts.any f)) ∧ GS b n w w' := by
  have H := hide (partIdx_any b n L Kf caps f Inv eg hinv ts hc m0 a cap w h1000 hin hsub hi)
  clear hc hinv
  go_enter Tryz.func316, Tryz.ntmps316
  go_wp2_with fail
  refine H.out.mono ?_
  rintro e w1 ⟨r, rfl, hr, hb1⟩
  have Hr := hide hr
  have Hb := hide hb1
  clear hr hb1
  go_wp2_with fail
  go_ret
  exact ⟨ret_bool Hr.out, Hb.out⟩
end Go.Proofs.YtbkedppkdhfpoabGreat

namespace Go.Proofs.YtbkedppkdhfpoabGreat
open Go.RowKit
structure PA (b : TB) (L : List T) (w : World) (s : T) (i : Nat) (sa spa : Option Addr) (spc : Nat) : Prop where
  ok : okP b.ar s
  num : L[i]? = some s
  sub : Subs L (i + 1) s.args
  inn : InP b.q w s.args sa
  pl : PL b.q b.q w s.args (i + 1) spa
  sz : s.sz ≤ 1000
  cap : s.args.length ≤ spc
theorem PA.kt {b : TB} {L : List T} {w w' : World} {s : T} {i : Nat} {sa spa : Option Addr} {spc : Nat} (h : PA b L w s i sa spa spc) (hk : KT b w w') : PA b L w' s i sa spa spc := ⟨h.ok, h.num, h.sub, InP_kt hk h.inn, PL_kt hk h.pl, h.sz, h.cap⟩
abbrev pv (s : T) (i : Nat) (sa : Option Addr) (sc : Nat) (spa : Option Addr) (spc : Nat) : Value := .agg #[.int .i64 s.v, .int .i64 s.f, .slice sa s.args.length sc, .int .i64 (i : Int), .slice spa s.args.length spc]
abbrev tv (b : TB) : Value := .agg #[.slice (some ⟨b.K, 0, none⟩) (b.R * b.C) (b.R * b.C), .int .i64 (b.C : Int)]
def IsUp (b : TB) (n : Nat) : Prop := ∀ (s : T) (i : Nat) (t : T) (j : Nat) (sa : Option Addr) (sc : Nat) (spa : Option Addr) (spc : Nat) (ta : Option Addr) (tc : Nat) (tpa : Option Addr) (tpc : Nat) (w : World), s.sz + t.sz ≤ n → PA b b.PS w s i sa spa spc → PA b b.PT w t j ta tpa tpc → TabOK b (s.sz + t.sz) w →
    Calls Tryz.prog 266 #[tv b, pv s i sa sc spa spc, pv t j ta tc tpa tpc] w fun e w' => e = .returned (.int .i8 (cmpS s t)) ∧ GS b (s.sz + t.sz) w w'
theorem TabOK.lt {b : TB} {n : Nat} {w : World} (h : TabOK b n w) : b.K < w.heap.size := by
  obtain ⟨M, h1, _⟩ := h
  exact h1.lt
structure Boxes (b : TB) (n x y : Nat) (L : List T) (t : T) (j : Nat) (ta : Option Addr) (tc : Nat) (tpa : Option Addr) (tpc : Nat) (w : World) : Prop where
  k0 : w.cell? ⟨x, 0, none⟩ = some (.slice (some ⟨b.K, 0, none⟩) (b.R * b.C) (b.R * b.C))
  k1 : w.cell? ⟨x, 1, none⟩ = some (.int .i64 (b.C : Int))
  t5 : Five w y 0 (.int .i64 t.v) (.int .i64 t.f) (.slice ta t.args.length tc) (.int .i64 (j : Int)) (.slice tpa t.args.length tpc)
  pat : PA b L w t j ta tpa tpc
  tab : TabOK b n w
  hx : x ≠ b.K
  hy : y ≠ b.K
theorem Boxes.gs {b : TB} {n x y : Nat} {L : List T} {t : T} {j : Nat} {ta : Option Addr} {tc : Nat} {tpa : Option Addr} {tpc : Nat} {w w' : World} (h : Boxes b n x y L t j ta tc tpa tpc w) (hg : GS b n w w') : Boxes b n x y L t j ta tc tpa tpc w' := by
  have hbx := hg.kt.block x (lt_of_cell h.k0) h.hx
  exact ⟨(World.cell?_of_block (w := w) (a := ⟨x, 0, none⟩) hbx).trans h.k0, (World.cell?_of_block (w := w) (a := ⟨x, 1, none⟩) hbx).trans h.k1, h.t5.same (hg.kt.block y h.t5.lt h.hy), h.pat.kt hg.kt, h.tab.gs hg, h.hx, h.hy⟩
set_option maxRecDepth 100000 in
set_option maxHeartbeats 1000000 in
theorem isC1_any (b : TB) (n : Nat) (hup : IsUp b n) (a : T) (m : Nat) (t : T) (j : Nat) (aa : Option Addr) (ac : Nat) (apa : Option Addr) (apc : Nat) (ta : Option Addr) (tc : Nat) (tpa : Option Addr) (tpc : Nat) (x y : Nat) (w : World) (hn : a.sz + t.sz ≤ n) (ha : PA b b.PS w a m aa apa apc) (hB : Boxes b n x y b.PT t j ta tc tpa tpc w) :
    Calls Tryz.prog 317 #[pv a m aa ac apa apc, .pointer (some ⟨x, 0, none⟩), .pointer (some ⟨y, 0, none⟩)] w fun e w' => e = .returned (.bool (cmpS a t != 3)) ∧ GS b n w w' := by
  obtain ⟨k0, k1, ⟨y0, y1, y2, y3, y4⟩, hpt, htab, _, _⟩ := hB
  have hxl := lt_of_cell k0
  have hyl := lt_of_cell y0
  have HG := hide (fun o1 => hup a m t j aa ac apa apc ta tc tpa tpc (w.alloc o1) hn (ha.kt (KT.of_below (below1 w o1))) (hpt.kt (KT.of_below (below1 w o1))) ((htab.mono hn).gs (GS.of_below (below1 w o1))))
  obtain ⟨z, hz⟩ : ∃ z, z = cmpS a t := ⟨_, rfl⟩
  rw [← hz] at HG ⊢
  clear hup hz htab hpt ha
  go_enter Tryz.func317, Tryz.ntmps317
  go_wp2_with fail
  refine (HG.out _).mono ?_
  rintro e w2 ⟨rfl, hg2⟩
  have Hg2 := hide ((GS.of_below (below1 w _)).trans (hg2.mono hn))
  clear hg2
  go_wp2_with fail
  go_ret
  exact ⟨rfl, Hg2.out⟩
set_option maxRecDepth 100000 in
set_option maxHeartbeats 1000000 in
theorem isC2_any (b : TB) (n : Nat) (hup : IsUp b n) (a : T) (m : Nat) (s : T) (i : Nat) (aa : Option Addr) (ac : Nat) (apa : Option Addr) (apc : Nat) (sa : Option Addr) (sc : Nat) (spa : Option Addr) (spc : Nat) (x y : Nat) (w : World) (hn : s.sz + a.sz ≤ n) (ha : PA b b.PT w a m aa apa apc) (hB : Boxes b n x y b.PS s i sa sc spa spc w) :
    Calls Tryz.prog 318 #[pv a m aa ac apa apc, .pointer (some ⟨x, 0, none⟩), .pointer (some ⟨y, 0, none⟩)] w fun e w' => e = .returned (.bool (cmpS s a != 1)) ∧ GS b n w w' := by
  obtain ⟨k0, k1, ⟨y0, y1, y2, y3, y4⟩, hps, htab, _, _⟩ := hB
  have hxl := lt_of_cell k0
  have hyl := lt_of_cell y0
  have HG := hide (fun o1 => hup s i a m sa sc spa spc aa ac apa apc (w.alloc o1) hn (hps.kt (KT.of_below (below1 w o1))) (ha.kt (KT.of_below (below1 w o1))) ((htab.mono hn).gs (GS.of_below (below1 w o1))))
  obtain ⟨z, hz⟩ : ∃ z, z = cmpS s a := ⟨_, rfl⟩
  rw [← hz] at HG ⊢
  clear hup hz htab hps ha
  go_enter Tryz.func318, Tryz.ntmps318
  go_wp2_with fail
  refine (HG.out _).mono ?_
  rintro e w2 ⟨rfl, hg2⟩
  have Hg2 := hide ((GS.of_below (below1 w _)).trans (hg2.mono hn))
  clear hg2
  go_wp2_with fail
  go_ret
  exact ⟨rfl, Hg2.out⟩
theorem eg317 (args : Array Value) (w : World) : (callFunc 317 args).run Tryz.prog w = .ok (.enter 317 args) w := by kernel_rfl
theorem eg318 (args : Array Value) (w : World) : (callFunc 318 args).run Tryz.prog w = .ok (.enter 318 args) w := by kernel_rfl
theorem Boxes.new {b : TB} {n : Nat} {L : List T} {t : T} {j : Nat} {ta : Option Addr} {tc : Nat} {tpa : Option Addr} {tpc : Nat} {w : World} (ht : PA b L w t j ta tpa tpc) (htab : TabOK b n w) :
    Boxes b n w.heap.size (w.heap.size + 1) L t j ta tc tpa tpc ((w.alloc (.cells #[.slice (some ⟨b.K, 0, none⟩) (b.R * b.C) (b.R * b.C), .int .i64 (b.C : Int)] 309)).alloc (.cells #[.int .i64 t.v, .int .i64 t.f, .slice ta t.args.length tc, .int .i64 (j : Int), .slice tpa t.args.length tpc] 304)) := by
  have s1 : ∀ o, (w.alloc o).heap.size = w.heap.size + 1 := fun o => World.size_alloc _ _
  have hl := htab.lt
  have hb := fun o1 o2 => below2 w o1 o2
  refine ⟨?_, ?_, ?_, ht.kt (KT.of_below (hb _ _)), htab.gs (GS.of_below (hb _ _)), by omega, by omega⟩
  · rw [cell_alloc_lt (by rw [s1]; omega), cell_new 0 rfl]; rfl
  · rw [cell_alloc_lt (by rw [s1]; omega), cell_new 1 rfl]; rfl
  · refine Five.of_heap (e := 304) (fr := (0, 0)) ?_
    have h9 := heap_alloc_new (w.alloc (.cells #[.slice (some ⟨b.K, 0, none⟩) (b.R * b.C) (b.R * b.C), .int .i64 (b.C : Int)] 309)) (.cells #[.int .i64 t.v, .int .i64 t.f, .slice ta t.args.length tc, .int .i64 (j : Int), .slice tpa t.args.length tpc] 304)
    rw [s1] at h9
    exact h9
set_option maxRecDepth 100000 in
set_option maxHeartbeats 1000000 in
theorem byArg_any (b : TB) (n : Nat) (hup : IsUp b n) (ts : List T) (m0 : Nat) (pa : Option Addr) (pc : Nat) (t : T) (j : Nat) (ta : Option Addr) (tc : Nat) (tpa : Option Addr) (tpc : Nat) (w : World) (hts : ∀ x, x ∈ ts → okP b.ar x ∧ x.sz + t.sz ≤ n ∧ x.sz ≤ 1000) (hl : ts.length ≤ 1000) (hpl : PL b.q b.q w ts m0 pa) (hsub : Subs b.PS m0 ts) (ht : PA b b.PT w t j ta tpa tpc) (htab : TabOK b n w) :
    Calls Tryz.prog 310 #[tv b, .slice pa ts.length pc, pv t j ta tc tpa tpc] w fun e w' => e = .returned (.int .i8 (if ts.any (fun a => cmpS a t != 3) then 1 else 3)) ∧ GS b n w w' := by
  have hmf : ∀ (fn : Fn) (first cap : Array Value) (w : World), (Instr.makeFunc fn first cap).run Tryz.prog w = .ok (.func fn first cap) w := fun _ _ _ _ => rfl
  have hB := Boxes.new (tc := tc) ht htab
  obtain ⟨W2, hW2⟩ : ∃ W2, W2 = (w.alloc (.cells #[.slice (some ⟨b.K, 0, none⟩) (b.R * b.C) (b.R * b.C), .int .i64 (b.C : Int)] 309)).alloc (.cells #[.int .i64 t.v, .int .i64 t.f, .slice ta t.args.length tc, .int .i64 (j : Int), .slice tpa t.args.length tpc] 304) := ⟨_, rfl⟩
  have hb2 : Below w.heap.size w W2 := by rw [hW2]; exact below2 _ _ _
  rw [← hW2] at hB
  have HC := hide (partHas_any b n b.PS 317 #[.pointer (some ⟨w.heap.size, 0, none⟩), .pointer (some ⟨w.heap.size + 1, 0, none⟩)] (fun a => cmpS a t != 3) (Boxes b n w.heap.size (w.heap.size + 1) b.PT t j ta tc tpa tpc) eg317 (fun _ _ hg h => h.gs hg) ts
    (fun w' x m xa xc xpa xpc hI hx hcx hnum hsub hin hpl => isC1_any b n hup x m t j xa xc xpa xpc ta tc tpa tpc w.heap.size (w.heap.size + 1) w' (hts x hx).2.1 ⟨(hts x hx).1, hnum, hsub, hin, hpl, (hts x hx).2.2, hcx⟩ hI)
    m0 pa pc W2 hl (PL_below hb2 hpl) hsub hB)
  have HW2 := hide hW2
  have Hb2 := hide hb2
  clear hup hB hW2 hb2 hts hpl hsub ht htab
  obtain ⟨Z, hZ⟩ : ∃ Z : Int, Z = if ts.any (fun a => cmpS a t != 3) then 1 else 3 := ⟨_, rfl⟩
  rw [← hZ]
  have HZ := hide hZ
  clear hZ
  go_enter Tryz.func310, Tryz.ntmps310
  go_wp2_with fail
  rw [← HW2.out]
  refine HC.out.mono ?_
  rintro e w4 ⟨rfl, hg4⟩
  have H4 := hide ((GS.of_below Hb2.out).trans hg4)
  clear hg4 HC
  cases hany : ts.any (fun a => cmpS a t != 3) with
  | true =>
    obtain rfl : Z = 1 := by rw [HZ.out, hany]; rfl
    clear HZ hany
    go_wp2_with fail
    go_ret
    exact ⟨rfl, H4.out⟩
  | false =>
    obtain rfl : Z = 3 := by rw [HZ.out, hany]; rfl
    clear HZ hany
    go_wp2_with fail
    go_ret
    exact ⟨rfl, H4.out⟩
set_option maxRecDepth 100000 in
set_option maxHeartbeats 1000000 in
theorem above_any (b : TB) (n : Nat) (hup : IsUp b n) (s : T) (i : Nat) (sa : Option Addr) (sc : Nat) (spa : Option Addr) (spc : Nat) (ts : List T) (m0 : Nat) (pa : Option Addr) (pc : Nat) (w : World) (hts : ∀ x, x ∈ ts → okP b.ar x ∧ s.sz + x.sz ≤ n ∧ x.sz ≤ 1000) (hl : ts.length ≤ 1000) (hpl : PL b.q b.q w ts m0 pa) (hsub : Subs b.PT m0 ts) (hs : PA b b.PS w s i sa spa spc) (htab : TabOK b n w) :
    Calls Tryz.prog 311 #[tv b, pv s i sa sc spa spc, .slice pa ts.length pc] w fun e w' => e = .returned (.int .i8 (if ts.any (fun c => cmpS s c != 1) then 3 else 1)) ∧ GS b n w w' := by
  have hmf : ∀ (fn : Fn) (first cap : Array Value) (w : World), (Instr.makeFunc fn first cap).run Tryz.prog w = .ok (.func fn first cap) w := fun _ _ _ _ => rfl
  have hB := Boxes.new (tc := sc) hs htab
  obtain ⟨W2, hW2⟩ : ∃ W2, W2 = (w.alloc (.cells #[.slice (some ⟨b.K, 0, none⟩) (b.R * b.C) (b.R * b.C), .int .i64 (b.C : Int)] 309)).alloc (.cells #[.int .i64 s.v, .int .i64 s.f, .slice sa s.args.length sc, .int .i64 (i : Int), .slice spa s.args.length spc] 304) := ⟨_, rfl⟩
  have hb2 : Below w.heap.size w W2 := by rw [hW2]; exact below2 _ _ _
  rw [← hW2] at hB
  have HC := hide (partHas_any b n b.PT 318 #[.pointer (some ⟨w.heap.size, 0, none⟩), .pointer (some ⟨w.heap.size + 1, 0, none⟩)] (fun c => cmpS s c != 1) (Boxes b n w.heap.size (w.heap.size + 1) b.PS s i sa sc spa spc) eg318 (fun _ _ hg h => h.gs hg) ts
    (fun w' x m xa xc xpa xpc hI hx hcx hnum hsub hin hpl => isC2_any b n hup x m s i xa xc xpa xpc sa sc spa spc w.heap.size (w.heap.size + 1) w' (hts x hx).2.1 ⟨(hts x hx).1, hnum, hsub, hin, hpl, (hts x hx).2.2, hcx⟩ hI)
    m0 pa pc W2 hl (PL_below hb2 hpl) hsub hB)
  have HW2 := hide hW2
  have Hb2 := hide hb2
  clear hup hB hW2 hb2 hts hpl hsub hs htab
  obtain ⟨Z, hZ⟩ : ∃ Z : Int, Z = if ts.any (fun c => cmpS s c != 1) then 3 else 1 := ⟨_, rfl⟩
  rw [← hZ]
  have HZ := hide hZ
  clear hZ
  go_enter Tryz.func311, Tryz.ntmps311
  go_wp2_with fail
  rw [← HW2.out]
  refine HC.out.mono ?_
  rintro e w4 ⟨rfl, hg4⟩
  have H4 := hide ((GS.of_below Hb2.out).trans hg4)
  clear hg4 HC
  cases hany : ts.any (fun c => cmpS s c != 1) with
  | true =>
    obtain rfl : Z = 3 := by rw [HZ.out, hany]; rfl
    clear HZ hany
    go_wp2_with fail
    go_ret
    exact ⟨rfl, H4.out⟩
  | false =>
    obtain rfl : Z = 1 := by rw [HZ.out, hany]; rfl
    clear HZ hany
    go_wp2_with fail
    go_ret
    exact ⟨rfl, H4.out⟩
theorem PA.arg {b : TB} {L : List T} {w : World} {s a : T} {i k : Nat} {sa spa : Option Addr} {spc : Nat} (h : PA b L w s i sa spa spc) (hk : s.args[k]? = some a) : a.sz < s.sz ∧ ∃ bb off, spa = some ⟨bb, off, none⟩ ∧ b.q bb ∧
    ∃ m aa ac apa apc, Five w bb (off + k * 5) (.int .i64 a.v) (.int .i64 a.f) (.slice aa a.args.length ac) (.int .i64 ((m : Nat) : Int)) (.slice apa a.args.length apc) ∧ PA b L w a m aa apa apc := by
  have hlt : k < s.args.length := by
    rcases Nat.lt_or_ge k s.args.length with h | h
    · exact h
    · rw [List.getElem?_eq_none h] at hk; cases hk
  obtain ⟨bb, off, rfl⟩ := PL_some h.pl (by omega)
  obtain ⟨ta, tc, pa, pc, hq, k0, k1, k2, k3, k4, hc, hi, hp⟩ := PL_at h.pl hk
  obtain ⟨s1, s2, _⟩ := h.sub.at hk
  have hm := List.mem_of_getElem? hk
  have hsz := arg_sz hm
  have := h.sz
  exact ⟨hsz, bb, off, rfl, hq, _, ta, tc, pa, pc, ⟨k0, k1, k2, k3, k4⟩, ⟨okL_mem.1 (okP_iff.1 h.ok).2 a hm, s1, s2, hi, hp, by omega, hc⟩⟩
theorem preL_append : ∀ a b : List T, pre.preL (a ++ b) = pre.preL a ++ pre.preL b := by
  intro a b
  induction a with
  | nil => rfl
  | cons x xs ih => rw [List.cons_append, preL_cons, preL_cons, ih, List.append_assoc]
theorem Subs.drop {L : List T} {n : Nat} {ts : List T} (h : Subs L n ts) (k : Nat) : Subs L (n + T.sz.szL (ts.take k)) (ts.drop k) := by
  obtain ⟨rest, hr⟩ := h
  refine ⟨rest, ?_⟩
  have hl := (pre_length _).2 (ts.take k) (Nat.le_refl _)
  have e : pre.preL ts = pre.preL (ts.take k) ++ pre.preL (ts.drop k) := by rw [← preL_append, List.take_append_drop]
  rw [← List.drop_drop, hr, e, List.append_assoc, ← hl, List.drop_left]
end Go.Proofs.YtbkedppkdhfpoabGreat

namespace Go.Proofs.YtbkedppkdhfpoabGreat
open Go.RowKit
theorem tailP {b : TB} {w : World} {ts : List T} {n bb off cap k : Nat} (h : PL b.q b.q w ts n (some ⟨bb, off, none⟩)) (hc : ts.length ≤ cap) (hk : k < ts.length) :
    ∃ pa, (∀ w' : World, (Instr.slice 302 (.slice (some ⟨bb, off, none⟩) ts.length cap) (some (.int .i64 ((k : Int) + 1))) none none).run Tryz.prog w' = .ok (.slice pa (ts.drop (k + 1)).length (cap - (k + 1))) w') ∧ PL b.q b.q w (ts.drop (k + 1)) (n + T.sz.szL (ts.take (k + 1))) pa := by
  have ht : Tryz.prog.underlying 302 = some (.slice (Tryz.prog.elem 302)) := by kernel_rfl
  have hsz : ∀ w : World, (sizeOf (Tryz.prog.elem 302)).run Tryz.prog w = .ok 5 w := fun w => by kernel_rfl
  have hrun := fun w' : World => run_slice_l (P := Tryz.prog) w' 302 (some ⟨bb, off, none⟩) ts.length cap ht .i64 ((k : Int) + 1) (by omega) (by omega)
  have hN : ((k : Int) + 1).toNat = k + 1 := by omega
  by_cases h1 : cap = k + 1
  · have hl : ts.length = k + 1 := by omega
    have hd : ts.drop (k + 1) = [] := by rw [← hl, List.drop_length]
    refine ⟨some ⟨bb, off, none⟩, fun w' => ?_, by rw [hd]; exact PL_nil⟩
    rw [hrun w', hsz, hN, hd]
    simp [sliced, h1, hl]
  · refine ⟨some ⟨bb, off + (k + 1) * 5, none⟩, fun w' => ?_, PL_drop h⟩
    rw [hrun w', hsz, hN, List.length_drop]
    simp [sliced, h1, Addr.add]
theorem kt_drew (b : TB) (w : World) : KT b w w.drew := ⟨rfl, rfl, rfl, Nat.le_refl _, fun _ _ _ => rfl⟩
theorem gs_drew (b : TB) (n : Nat) (w : World) : GS b n w w.drew := GS.of_below ⟨rfl, rfl, rfl, Nat.le_refl _, fun _ _ => rfl⟩
theorem KT.cell {b : TB} {w w' : World} (h : KT b w w') {k j : Nat} {v : Value} (hk : k ≠ b.K) (hv : w.cell? ⟨k, j, none⟩ = some v) : w'.cell? ⟨k, j, none⟩ = some v := by
  rw [World.cell?_of_block (w := w) (a := ⟨k, j, none⟩) (h.block k (lt_of_cell hv) hk)]; exact hv
theorem KT.five {b : TB} {w w' : World} (h : KT b w w') {k o : Nat} {v0 v1 v2 v3 v4 : Value} (hk : k ≠ b.K) (hv : Five w k o v0 v1 v2 v3 v4) : Five w' k o v0 v1 v2 v3 v4 := hv.same (h.block k hv.lt hk)
attribute [local go_sem ↓] Go.wp_at_zero Go.wp_at_succ
set_option maxRecDepth 100000 in
set_option maxHeartbeats 4000000 in
theorem askArgs_any (b : TB) (n : Nat) (hup : IsUp b n) (s : T) (i : Nat) (t : T) (j : Nat) (sa : Option Addr) (sc : Nat) (spa : Option Addr) (spc : Nat) (ta : Option Addr) (tc : Nat) (tpa : Option Addr) (tpc : Nat) (w : World) (hn : s.sz + t.sz ≤ n + 1) (h0 : s.v = 0) (h1 : t.v = 0) (hf : s.f = t.f) (hs : PA b b.PS w s i sa spa spc) (ht : PA b b.PT w t j ta tpa tpc) (htab : TabOK b n w) :
    Calls Tryz.prog 312 #[tv b, pv s i sa sc spa spc, pv t j ta tc tpa tpc] w fun e w' => e = .returned (.int .i8 (cmpS s t)) ∧ GS b n w w' := by
  have hKl := htab.lt
  have Hup := hide hup
  have h1000 : s.args.length ≤ 1000 := by have := T.length_le s.args; have := T.sz_eq s; have := hs.sz; omega
  have Hlen := hide (same_arity hs.ok ht.ok h0 h1 hf)
  have HC := hide (fun (k : Nat) (a c : T) (ha : s.args[k]? = some a) (hc : t.args[k]? = some c) (hp : ∀ i, i < k → s.args[i]? = t.args[i]?) (h : gt a c = true) => cmp_more hs.ok ht.ok h0 h1 hf ha hc hp h)
  have HD := hide (fun (k : Nat) (a c : T) (ha : s.args[k]? = some a) (hc : t.args[k]? = some c) (hp : ∀ i, i < k → s.args[i]? = t.args[i]?) (hne : a ≠ c) (h : gt a c = false) => cmp_less hs.ok ht.ok h0 hf ha hc hp hne h)
  have HE := hide (fun (h : s.args = t.args) => cmp_same hs.ok h0 h1 hf h)
  obtain ⟨Z, hZ⟩ : ∃ Z, Z = cmpS s t := ⟨_, rfl⟩
  rw [← hZ] at HC HD HE ⊢
  obtain ⟨W3, hW3⟩ : ∃ W3, W3 = ((w.alloc (.cells #[.slice (some ⟨b.K, 0, none⟩) (b.R * b.C) (b.R * b.C), .int .i64 (b.C : Int)] 309)).alloc (.cells #[.int .i64 s.v, .int .i64 s.f, .slice sa s.args.length sc, .int .i64 (i : Int), .slice spa s.args.length spc] 304)).alloc (.cells #[.int .i64 t.v, .int .i64 t.f, .slice ta t.args.length tc, .int .i64 (j : Int), .slice tpa t.args.length tpc] 304) := ⟨_, rfl⟩
  have hb3 : Below w.heap.size w W3 := by rw [hW3]; exact ((below1 _ _).alloc (by simp) _).alloc (by simp; omega) _
  have hz3 : W3.heap.size = w.heap.size + 3 := by rw [hW3]; simp
  have s1 : ∀ o, (w.alloc o).heap.size = w.heap.size + 1 := fun o => World.size_alloc _ _
  have s2 : ∀ o o', ((w.alloc o).alloc o').heap.size = w.heap.size + 1 + 1 := fun o o' => by rw [World.size_alloc, s1]
  have hk0 : W3.cell? ⟨w.heap.size, 0, none⟩ = some (.slice (some ⟨b.K, 0, none⟩) (b.R * b.C) (b.R * b.C)) := by rw [hW3, cell_alloc_lt (by rw [s2]; omega), cell_alloc_lt (by rw [s1]; omega), cell_new 0 rfl]; rfl
  have hk1 : W3.cell? ⟨w.heap.size, 1, none⟩ = some (.int .i64 (b.C : Int)) := by rw [hW3, cell_alloc_lt (by rw [s2]; omega), cell_alloc_lt (by rw [s1]; omega), cell_new 1 rfl]; rfl
  have h5s : Five W3 (w.heap.size + 1) 0 (.int .i64 s.v) (.int .i64 s.f) (.slice sa s.args.length sc) (.int .i64 (i : Int)) (.slice spa s.args.length spc) := by
    rw [hW3]
    refine (Five.of_heap (e := 304) (fr := (0, 0)) ?_).same (Below.heap_alloc _ _ _ (by rw [s2]; omega))
    have h9 := heap_alloc_new (w.alloc (.cells #[.slice (some ⟨b.K, 0, none⟩) (b.R * b.C) (b.R * b.C), .int .i64 (b.C : Int)] 309)) (.cells #[.int .i64 s.v, .int .i64 s.f, .slice sa s.args.length sc, .int .i64 (i : Int), .slice spa s.args.length spc] 304)
    rw [s1] at h9
    exact h9
  have h5t : Five W3 (w.heap.size + 1 + 1) 0 (.int .i64 t.v) (.int .i64 t.f) (.slice ta t.args.length tc) (.int .i64 (j : Int)) (.slice tpa t.args.length tpc) := by
    rw [hW3]
    refine Five.of_heap (e := 304) (fr := (0, 0)) ?_
    have h9 := heap_alloc_new ((w.alloc (.cells #[.slice (some ⟨b.K, 0, none⟩) (b.R * b.C) (b.R * b.C), .int .i64 (b.C : Int)] 309)).alloc (.cells #[.int .i64 s.v, .int .i64 s.f, .slice sa s.args.length sc, .int .i64 (i : Int), .slice spa s.args.length spc] 304)) (.cells #[.int .i64 t.v, .int .i64 t.f, .slice ta t.args.length tc, .int .i64 (j : Int), .slice tpa t.args.length tpc] 304)
    rw [s2] at h9
    exact h9
  have hF := hide (fun (w' : World) (hk : KT b W3 w') => (show w'.cell? ⟨w.heap.size, 0, none⟩ = some (.slice (some ⟨b.K, 0, none⟩) (b.R * b.C) (b.R * b.C)) ∧ w'.cell? ⟨w.heap.size, 1, none⟩ = some (.int .i64 (b.C : Int)) ∧ Five w' (w.heap.size + 1) 0 (.int .i64 s.v) (.int .i64 s.f) (.slice sa s.args.length sc) (.int .i64 (i : Int)) (.slice spa s.args.length spc) ∧ Five w' (w.heap.size + 1 + 1) 0 (.int .i64 t.v) (.int .i64 t.f) (.slice ta t.args.length tc) (.int .i64 (j : Int)) (.slice tpa t.args.length tpc) from
    ⟨hk.cell (by omega) hk0, hk.cell (by omega) hk1, hk.five (by omega) h5s, hk.five (by omega) h5t⟩))
  have HW3 := hide hW3
  have Hb3 := hide hb3
  have Hz3 := hide hz3
  have hq4 : W3.cell? ⟨w.heap.size + 1, 4, none⟩ = some (.slice spa s.args.length spc) := h5s.2.2.2.2
  clear hup hW3 hk0 hk1 h5s h5t hZ s1 s2 h0 h1 hf hb3 hz3
  go_enter Tryz.func312, Tryz.ntmps312
  go_wp2_with fail
  rw [← HW3.out]
  go_loopw [12] (fun iv wr => ∃ k : Nat, k ≤ s.args.length ∧ iv = .int .i64 k ∧ Hid (∀ i', i' < k → s.args[i']? = t.args[i']?) ∧ GS b n W3 wr) (fun iv _ => s.args.length - (intOf iv).toNat)
  case atStart => exact ⟨0, Nat.zero_le _, rfl, fun i' hi => by omega, GS.refl _ _ _⟩
  case round =>
    obtain ⟨k, hk, rfl, HL, hg⟩ := hrel
    have hgw : GS b n w wr := (GS.of_below Hb3.out).trans hg
    have hzr : w.heap.size + 3 ≤ wr.heap.size := by have := hg.kt.size; have := Hz3.out; omega
    by_cases hlt : k < s.args.length
    · have hlt2 : k < t.args.length := by have := Hlen.out; omega
      obtain ⟨a, ha⟩ : ∃ a, s.args[k]? = some a := ⟨s.args[k], List.getElem?_eq_getElem hlt⟩
      obtain ⟨c, hc⟩ : ∃ c, t.args[k]? = some c := ⟨t.args[k], List.getElem?_eq_getElem hlt2⟩
      obtain ⟨hasz, bb, off, rfl, hqa, m, aa, ac, apa, apc, h5a, hpa⟩ := (hs.kt hgw.kt).arg ha
      obtain ⟨hcsz, bc, offc, rfl, hqc, mc, ca, cc, cpa, cpc, h5c, hpc⟩ := (ht.kt hgw.kt).arg hc
      obtain ⟨a0, a1, a2, a3, a4⟩ := h5a
      have hba := lt_of_cell a0
      have hkI : (k : Int) < s.args.length := by omega
      have hkJ : (k : Int) < t.args.length := by omega
      have hkN : (0 : Int) ≤ k := by omega
      have hk3 : k ≤ 1000 := by omega
      have hkA : KT b wr (wr.alloc (.cells #[.int .i64 a.v, .int .i64 a.f, .slice aa a.args.length ac, .int .i64 (m : Int), .slice apa a.args.length apc] 304)) := KT.of_below (below1 wr (.cells #[.int .i64 a.v, .int .i64 a.f, .slice aa a.args.length ac, .int .i64 (m : Int), .slice apa a.args.length apc] 304))
      have hG := hide (fun (w' : World) (hk' : KT b (wr.alloc (.cells #[.int .i64 a.v, .int .i64 a.f, .slice aa a.args.length ac, .int .i64 (m : Int), .slice apa a.args.length apc] 304)) w') => (show w'.cell? ⟨w.heap.size, 0, none⟩ = some (.slice (some ⟨b.K, 0, none⟩) (b.R * b.C) (b.R * b.C)) ∧ w'.cell? ⟨w.heap.size, 1, none⟩ = some (.int .i64 (b.C : Int)) ∧
          w'.cell? ⟨wr.heap.size, 0, none⟩ = some (.int .i64 a.v) ∧ w'.cell? ⟨wr.heap.size, 1, none⟩ = some (.int .i64 a.f) ∧ w'.cell? ⟨wr.heap.size, 2, none⟩ = some (.slice aa a.args.length ac) ∧ w'.cell? ⟨wr.heap.size, 3, none⟩ = some (.int .i64 (m : Int)) ∧ w'.cell? ⟨wr.heap.size, 4, none⟩ = some (.slice apa a.args.length apc) ∧ w'.cell? ⟨w.heap.size + 1 + 1, 4, none⟩ = some (.slice (some ⟨bc, offc, none⟩) t.args.length tpc) ∧
          w'.cell? ⟨bc, offc + k * 5, none⟩ = some (.int .i64 c.v) ∧ w'.cell? ⟨bc, offc + k * 5 + 1, none⟩ = some (.int .i64 c.f) ∧ w'.cell? ⟨bc, offc + k * 5 + 2, none⟩ = some (.slice ca c.args.length cc) ∧ w'.cell? ⟨bc, offc + k * 5 + 3, none⟩ = some (.int .i64 (mc : Int)) ∧ w'.cell? ⟨bc, offc + k * 5 + 4, none⟩ = some (.slice cpa c.args.length cpc) from by
        obtain ⟨f1, f2, _, ft⟩ := hF.out w' ((hg.kt.trans hkA).trans hk')
        have h5n : Five (wr.alloc (.cells #[.int .i64 a.v, .int .i64 a.f, .slice aa a.args.length ac, .int .i64 (m : Int), .slice apa a.args.length apc] 304)) wr.heap.size 0 (.int .i64 a.v) (.int .i64 a.f) (.slice aa a.args.length ac) (.int .i64 (m : Int)) (.slice apa a.args.length apc) := Five.of_heap (heap_alloc_new wr _)
        obtain ⟨z0, z1, z2, z3, z4⟩ := hk'.five (by omega) h5n
        obtain ⟨y0, y1, y2, y3, y4⟩ := (hkA.trans hk').five hqc h5c
        exact ⟨f1, f2, z0, z1, z2, z3, z4, ft.2.2.2.2, y0, y1, y2, y3, y4⟩))
      have hnn : a.sz + c.sz ≤ n := by omega
      have HI := hide (fun (w' : World) (hk' : KT b (wr.alloc (.cells #[.int .i64 a.v, .int .i64 a.f, .slice aa a.args.length ac, .int .i64 (m : Int), .slice apa a.args.length apc] 304)) w') (ht' : TabOK b n w') => Hup.out a m c mc aa ac apa apc ca cc cpa cpc w' hnn (hpa.kt (hkA.trans hk')) (hpc.kt (hkA.trans hk')) (ht'.mono hnn))
      have HT : Hid (TabOK b n (wr.alloc (.cells #[.int .i64 a.v, .int .i64 a.f, .slice aa a.args.length ac, .int .i64 (m : Int), .slice apa a.args.length apc] 304))) := (htab.gs hgw).gs (GS.of_below (below1 wr (.cells #[.int .i64 a.v, .int .i64 a.f, .slice aa a.args.length ac, .int .i64 (m : Int), .slice apa a.args.length apc] 304)))
      have Ha := hide ha
      have Hc := hide hc
      have Hg := hide (hg.trans (GS.of_below (below1 wr (.cells #[.int .i64 a.v, .int .i64 a.f, .slice aa a.args.length ac, .int .i64 (m : Int), .slice apa a.args.length apc] 304))))
      have Hgw := hide hgw
      have Hca := hide (show cmpS a c = 1 → gt a c = true from fun h => cmpS_one.1 h)
      have Hcb := hide (show cmpS a c = 2 → a = c from fun h => (cmpS_two hpa.ok).1 h)
      have Hcc := hide (show cmpS a c = 3 → a ≠ c ∧ gt a c = false from fun h => cmpS_is3 hpa.ok h)
      have Hcr := hide (cmpS_range a c)
      obtain ⟨z, hz⟩ : ∃ z, z = cmpS a c := ⟨_, rfl⟩
      rw [← hz] at HI Hca Hcb Hcc Hcr
      have hG1 := hide (hG.out (wr.alloc (.cells #[.int .i64 a.v, .int .i64 a.f, .slice aa a.args.length ac, .int .i64 (m : Int), .slice apa a.args.length apc] 304)).drew (kt_drew b _))
      have hG0 := hide (hG.out (wr.alloc (.cells #[.int .i64 a.v, .int .i64 a.f, .slice aa a.args.length ac, .int .i64 (m : Int), .slice apa a.args.length apc] 304)) (KT.refl _ _))
      have HI1 := hide (HI.out (wr.alloc (.cells #[.int .i64 a.v, .int .i64 a.f, .slice aa a.args.length ac, .int .i64 (m : Int), .slice apa a.args.length apc] 304)).drew (kt_drew b _) (HT.out.gs (gs_drew b n _)))
      have hbal : bb < wr.heap.size := hba
      clear hpa hpc h5c ha hc hg hgw hz hkA
      go_wp2_with fail
      go_region_held3 (fun w' => w'.cell? ⟨w.heap.size, 0, none⟩ = some (.slice (some ⟨b.K, 0, none⟩) (b.R * b.C) (b.R * b.C)) ∧ w'.cell? ⟨w.heap.size, 1, none⟩ = some (.int .i64 (b.C : Int)) ∧
          w'.cell? ⟨wr.heap.size, 0, none⟩ = some (.int .i64 a.v) ∧ w'.cell? ⟨wr.heap.size, 1, none⟩ = some (.int .i64 a.f) ∧ w'.cell? ⟨wr.heap.size, 2, none⟩ = some (.slice aa a.args.length ac) ∧ w'.cell? ⟨wr.heap.size, 3, none⟩ = some (.int .i64 (m : Int)) ∧ w'.cell? ⟨wr.heap.size, 4, none⟩ = some (.slice apa a.args.length apc) ∧ w'.cell? ⟨w.heap.size + 1 + 1, 4, none⟩ = some (.slice (some ⟨bc, offc, none⟩) t.args.length tpc) ∧
          w'.cell? ⟨bc, offc + k * 5, none⟩ = some (.int .i64 c.v) ∧ w'.cell? ⟨bc, offc + k * 5 + 1, none⟩ = some (.int .i64 c.f) ∧ w'.cell? ⟨bc, offc + k * 5 + 2, none⟩ = some (.slice ca c.args.length cc) ∧ w'.cell? ⟨bc, offc + k * 5 + 3, none⟩ = some (.int .i64 (mc : Int)) ∧ w'.cell? ⟨bc, offc + k * 5 + 4, none⟩ = some (.slice cpa c.args.length cpc)) ((first | with_reducible exact hG.out _ (Hid.out Hk4) | with_reducible exact hG1.out | with_reducible exact hG0.out | go_keep)) ((
        go_at_call 266
        refine HI1.out.mono ?_
        rintro e w4 ⟨rfl, hg4⟩
        have Hg4 : Hid (GS b n (wr.alloc (.cells #[.int .i64 a.v, .int .i64 a.f, .slice aa a.args.length ac, .int .i64 (m : Int), .slice apa a.args.length apc] 304)) w4) := (gs_drew b n _).trans (hg4.mono hnn)
        have Hk4 : Hid (KT b (wr.alloc (.cells #[.int .i64 a.v, .int .i64 a.f, .slice aa a.args.length ac, .int .i64 (m : Int), .slice apa a.args.length apc] 304)) w4) := Hg4.out.kt))
      have HgA := hide (Hg.out.trans Hg4.out)
      have HT4 : Hid (TabOK b n w4) := (htab.gs (GS.of_below Hb3.out)).gs HgA.out
      have Hkw := hide ((KT.of_below (b := b) Hb3.out).trans HgA.out.kt)
      have hsl0 : True := trivial
      have hwr : IntKind.i64.wrap ((k : Int) + 1) = (k : Int) + 1 := wrap_ok _ (by omega) (by omega)
      rcases Hcr.out with hz | hz | hz
      · have Hgt := hide (Hca.out hz)
        subst hz
        obtain ⟨pa', hsl, hpl'⟩ := tailP ht.pl ht.cap hlt2
        have Hfin := hide (HC.out k a c Ha.out Hc.out HL.out Hgt.out)
        have hsbT := ht.sub.drop (k + 1)
        have HA := hide (fun (w' : World) (hk' : KT b w4 w') (ht' : TabOK b n w') => above_any b n Hup.out s i sa sc (some ⟨bb, off, none⟩) spc (t.args.drop (k + 1)) _ pa' (tpc - (k + 1)) w' (fun x hx => by
          have hx' := List.mem_of_mem_drop hx
          have h9 := arg_sz hx'
          have h8 := ht.sz
          exact ⟨okArg ht.ok hx', by omega, by omega⟩) (by rw [List.length_drop]; have := Hlen.out; omega) (PL_kt (Hkw.out.trans hk') hpl') hsbT (hs.kt (Hkw.out.trans hk')) ht')
        have hG6 := hide (fun (w' : World) (hk' : KT b w4 w') => (show w'.cell? ⟨w.heap.size, 0, none⟩ = some (.slice (some ⟨b.K, 0, none⟩) (b.R * b.C) (b.R * b.C)) ∧ w'.cell? ⟨w.heap.size, 1, none⟩ = some (.int .i64 (b.C : Int)) ∧ w'.cell? ⟨w.heap.size + 1, 0, none⟩ = some (.int .i64 s.v) ∧ w'.cell? ⟨w.heap.size + 1, 1, none⟩ = some (.int .i64 s.f) ∧ w'.cell? ⟨w.heap.size + 1, 2, none⟩ = some (.slice sa s.args.length sc) ∧ w'.cell? ⟨w.heap.size + 1, 3, none⟩ = some (.int .i64 (i : Int)) ∧ w'.cell? ⟨w.heap.size + 1, 4, none⟩ = some (.slice (some ⟨bb, off, none⟩) s.args.length spc) ∧ w'.cell? ⟨w.heap.size + 1 + 1, 4, none⟩ = some (.slice (some ⟨bc, offc, none⟩) t.args.length tpc) from by
          obtain ⟨f1, f2, ⟨s0, s1, s2, s3, s4⟩, ⟨t0, t1, t2, t3, t4⟩⟩ := hF.out w' (HgA.out.kt.trans hk')
          exact ⟨f1, f2, s0, s1, s2, s3, s4, t4⟩))
        obtain ⟨R, hR⟩ : ∃ R : Int, R = Z := ⟨_, rfl⟩
        have HR := hide hR
        rw [Hfin.out] at hR
        rw [← hR] at HA
        have HA1 := hide (HA.out w4.drew (kt_drew b _) (HT4.out.gs (gs_drew b n _)))
        rw [List.length_drop] at HA1
        have hG7 := hide (hG6.out w4.drew (kt_drew b _))
        have hG8 := hide (hG6.out w4 (KT.refl _ _))
        clear hR hG hG0 hG1 Hcr HI HI1 HT hsl0 HA
        go_wp2_with fail
        go_region_held3 (fun w' => w'.cell? ⟨w.heap.size, 0, none⟩ = some (.slice (some ⟨b.K, 0, none⟩) (b.R * b.C) (b.R * b.C)) ∧ w'.cell? ⟨w.heap.size, 1, none⟩ = some (.int .i64 (b.C : Int)) ∧ w'.cell? ⟨w.heap.size + 1, 0, none⟩ = some (.int .i64 s.v) ∧ w'.cell? ⟨w.heap.size + 1, 1, none⟩ = some (.int .i64 s.f) ∧ w'.cell? ⟨w.heap.size + 1, 2, none⟩ = some (.slice sa s.args.length sc) ∧ w'.cell? ⟨w.heap.size + 1, 3, none⟩ = some (.int .i64 (i : Int)) ∧ w'.cell? ⟨w.heap.size + 1, 4, none⟩ = some (.slice (some ⟨bb, off, none⟩) s.args.length spc) ∧ w'.cell? ⟨w.heap.size + 1 + 1, 4, none⟩ = some (.slice (some ⟨bc, offc, none⟩) t.args.length tpc)) ((first | with_reducible exact hG6.out _ (Hid.out Hk5) | with_reducible exact hG7.out | with_reducible exact hG8.out | go_keep)) ((
          go_at_call 311
          refine HA1.out.mono ?_
          rintro e w5 ⟨rfl, hg5⟩
          have Hg5 : Hid (GS b n w4 w5) := (gs_drew b n _).trans hg5
          have Hk5 : Hid (KT b w4 w5) := Hg5.out.kt))
        go_wp2_with fail
        go_ret
        exact ⟨ret_int HR.out, (GS.of_below Hb3.out).trans (HgA.out.trans Hg5.out)⟩
      · have Heq := hide (Hcb.out hz)
        subst hz
        clear hG hG0 hG1 Hcr HI HI1 HT hsl0
        go_wp2_with fail
        go_roundw
        case rel => exact ⟨k + 1, by omega, by go_num, fun i' hi => by
            rcases Nat.lt_or_ge i' k with h9 | h9
            · exact HL.out i' h9
            · have : i' = k := by omega
              subst this
              rw [Ha.out, Hc.out, Heq.out], HgA.out⟩
        case measure => simp [intOf]; omega
      · have Hgt := hide (Hcc.out hz)
        subst hz
        obtain ⟨pa', hsl, hpl'⟩ := tailP hs.pl hs.cap hlt
        have Hfin := hide (HD.out k a c Ha.out Hc.out HL.out Hgt.out.1 Hgt.out.2)
        have hsbS := hs.sub.drop (k + 1)
        have HA := hide (fun (w' : World) (hk' : KT b w4 w') (ht' : TabOK b n w') => byArg_any b n Hup.out (s.args.drop (k + 1)) _ pa' (spc - (k + 1)) t j ta tc (some ⟨bc, offc, none⟩) tpc w' (fun x hx => by
          have hx' := List.mem_of_mem_drop hx
          have h9 := arg_sz hx'
          have h8 := hs.sz
          exact ⟨okArg hs.ok hx', by omega, by omega⟩) (by rw [List.length_drop]; omega) (PL_kt (Hkw.out.trans hk') hpl') hsbS (ht.kt (Hkw.out.trans hk')) ht')
        have hG6 := hide (fun (w' : World) (hk' : KT b w4 w') => (show w'.cell? ⟨w.heap.size, 0, none⟩ = some (.slice (some ⟨b.K, 0, none⟩) (b.R * b.C) (b.R * b.C)) ∧ w'.cell? ⟨w.heap.size, 1, none⟩ = some (.int .i64 (b.C : Int)) ∧ w'.cell? ⟨w.heap.size + 1, 4, none⟩ = some (.slice (some ⟨bb, off, none⟩) s.args.length spc) ∧ w'.cell? ⟨w.heap.size + 1 + 1, 0, none⟩ = some (.int .i64 t.v) ∧ w'.cell? ⟨w.heap.size + 1 + 1, 1, none⟩ = some (.int .i64 t.f) ∧ w'.cell? ⟨w.heap.size + 1 + 1, 2, none⟩ = some (.slice ta t.args.length tc) ∧ w'.cell? ⟨w.heap.size + 1 + 1, 3, none⟩ = some (.int .i64 (j : Int)) ∧ w'.cell? ⟨w.heap.size + 1 + 1, 4, none⟩ = some (.slice (some ⟨bc, offc, none⟩) t.args.length tpc) from by
          obtain ⟨f1, f2, ⟨s0, s1, s2, s3, s4⟩, ⟨t0, t1, t2, t3, t4⟩⟩ := hF.out w' (HgA.out.kt.trans hk')
          exact ⟨f1, f2, s4, t0, t1, t2, t3, t4⟩))
        obtain ⟨R, hR⟩ : ∃ R : Int, R = Z := ⟨_, rfl⟩
        have HR := hide hR
        rw [Hfin.out] at hR
        rw [← hR] at HA
        have HA1 := hide (HA.out w4.drew (kt_drew b _) (HT4.out.gs (gs_drew b n _)))
        rw [List.length_drop] at HA1
        have hG7 := hide (hG6.out w4.drew (kt_drew b _))
        have hG8 := hide (hG6.out w4 (KT.refl _ _))
        clear hR hG hG0 hG1 Hcr HI HI1 HT hsl0 HA
        go_wp2_with fail
        go_region_held3 (fun w' => w'.cell? ⟨w.heap.size, 0, none⟩ = some (.slice (some ⟨b.K, 0, none⟩) (b.R * b.C) (b.R * b.C)) ∧ w'.cell? ⟨w.heap.size, 1, none⟩ = some (.int .i64 (b.C : Int)) ∧ w'.cell? ⟨w.heap.size + 1, 4, none⟩ = some (.slice (some ⟨bb, off, none⟩) s.args.length spc) ∧ w'.cell? ⟨w.heap.size + 1 + 1, 0, none⟩ = some (.int .i64 t.v) ∧ w'.cell? ⟨w.heap.size + 1 + 1, 1, none⟩ = some (.int .i64 t.f) ∧ w'.cell? ⟨w.heap.size + 1 + 1, 2, none⟩ = some (.slice ta t.args.length tc) ∧ w'.cell? ⟨w.heap.size + 1 + 1, 3, none⟩ = some (.int .i64 (j : Int)) ∧ w'.cell? ⟨w.heap.size + 1 + 1, 4, none⟩ = some (.slice (some ⟨bc, offc, none⟩) t.args.length tpc)) ((first | with_reducible exact hG6.out _ (Hid.out Hk5) | with_reducible exact hG7.out | with_reducible exact hG8.out | go_keep)) ((
          go_at_call 310
          refine HA1.out.mono ?_
          rintro e w5 ⟨rfl, hg5⟩
          have Hg5 : Hid (GS b n w4 w5) := (gs_drew b n _).trans hg5
          have Hk5 : Hid (KT b w4 w5) := Hg5.out.kt))
        go_wp2_with fail
        go_ret
        exact ⟨ret_int HR.out, (GS.of_below Hb3.out).trans (HgA.out.trans Hg5.out)⟩
    · have hk2 : k = s.args.length := by omega
      subst hk2
      have Hfin : Hid (Z = 2) := HE.out (List.ext_getElem? (fun i' => by
        rcases Nat.lt_or_ge i' s.args.length with h | h
        · exact HL.out i' h
        · rw [List.getElem?_eq_none h, List.getElem?_eq_none (by have := Hlen.out; omega)]))
      have Hgw := hide hgw
      clear hg hgw
      have hZ2 := Hfin.out
      subst hZ2
      go_wp2_with fail
      go_ret
      exact ⟨rfl, Hgw.out⟩
end Go.Proofs.YtbkedppkdhfpoabGreat

namespace Go.Proofs.YtbkedppkdhfpoabGreat
open Go.RowKit
theorem belowT (w : World) (o1 o2 o3 : Obj) : Below w.heap.size w (((w.alloc o1).alloc o2).alloc o3) := (below2 w o1 o2).alloc (by simp; omega) o3
set_option maxRecDepth 100000 in
set_option maxHeartbeats 2000000 in
theorem ask_any (b : TB) (n : Nat) (hup : IsUp b n) (s : T) (i : Nat) (t : T) (j : Nat) (sa : Option Addr) (sc : Nat) (spa : Option Addr) (spc : Nat) (ta : Option Addr) (tc : Nat) (tpa : Option Addr) (tpc : Nat) (w : World) (hn : s.sz + t.sz ≤ n + 1) (hs : PA b b.PS w s i sa spa spc) (ht : PA b b.PT w t j ta tpa tpc) (htab : TabOK b n w) :
    Calls Tryz.prog 297 #[tv b, pv s i sa sc spa spc, pv t j ta tc tpa tpc] w fun e w' => e = .returned (.int .i8 (cmpS s t)) ∧ GS b n w w' := by
  have hsl : s.args.length ≤ 1000 := by have := T.length_le s.args; have := T.sz_eq s; have := hs.sz; omega
  have htl : t.args.length ≤ 1000 := by have := T.length_le t.args; have := T.sz_eq t; have := ht.sz; omega
  have hb := fun o1 o2 o3 => belowT w o1 o2 o3
  have hk := fun o1 o2 o3 => KT.of_below (b := b) (belowT w o1 o2 o3)
  by_cases h0 : s.v = 0
  · have e0 : (s.v != 0) = false := by simpa using h0
    by_cases hA : t.v ≠ 0 ∨ s.f < t.f
    · have Hfin := hide (cmp_byArg hs.ok ht.ok h0 hA)
      have HA := hide (fun o1 o2 o3 => byArg_any b n hup s.args (i + 1) spa spc t j ta tc tpa tpc (((w.alloc o1).alloc o2).alloc o3) (fun x hx => by
        have h9 := arg_sz hx
        have h8 := hs.sz
        exact ⟨okArg hs.ok hx, by omega, by omega⟩) hsl (PL_kt (hk o1 o2 o3) hs.pl) hs.sub (ht.kt (hk o1 o2 o3)) (htab.gs (GS.of_below (hb o1 o2 o3))))
      have HB := hide (fun o1 o2 o3 => GS.of_below (b := b) (n := n) (hb o1 o2 o3))
      obtain ⟨Z, hZ⟩ : ∃ Z, Z = cmpS s t := ⟨_, rfl⟩
      rw [← Hfin.out, ← hZ] at HA
      rw [← hZ]
      clear Hfin hZ hb hk hup hs ht htab h0
      by_cases h1 : t.v = 0
      · have e1 : (t.v != 0) = false := by simpa using h1
        have hlt : s.f < t.f := hA.resolve_left (fun h => h h1)
        clear hA h1
        go_enter Tryz.func297, Tryz.ntmps297
        go_wp2_with fail
        refine (HA.out _ _ _).mono ?_
        rintro e w4 ⟨rfl, hg4⟩
        have H4 := hide ((HB.out _ _ _).trans hg4)
        clear hg4
        go_wp2_with fail
        go_ret
        exact ⟨rfl, H4.out⟩
      · have e1 : (t.v != 0) = true := by simpa using h1
        clear hA h1
        go_enter Tryz.func297, Tryz.ntmps297
        go_wp2_with fail
        refine (HA.out _ _ _).mono ?_
        rintro e w4 ⟨rfl, hg4⟩
        have H4 := hide ((HB.out _ _ _).trans hg4)
        clear hg4
        go_wp2_with fail
        go_ret
        exact ⟨rfl, H4.out⟩
    · have h1 : t.v = 0 := by
        rcases Classical.em (t.v = 0) with h | h
        · exact h
        · exact absurd (Or.inl h) hA
      have hnl : ¬ s.f < t.f := fun h => hA (Or.inr h)
      have e1 : (t.v != 0) = false := by simpa using h1
      by_cases hgt : t.f < s.f
      · have Hfin := hide (cmp_above hs.ok ht.ok h0 h1 hgt)
        have HA := hide (fun o1 o2 o3 => above_any b n hup s i sa sc spa spc t.args (j + 1) tpa tpc (((w.alloc o1).alloc o2).alloc o3) (fun x hx => by
          have h9 := arg_sz hx
          have h8 := ht.sz
          exact ⟨okArg ht.ok hx, by omega, by omega⟩) htl (PL_kt (hk o1 o2 o3) ht.pl) ht.sub (hs.kt (hk o1 o2 o3)) (htab.gs (GS.of_below (hb o1 o2 o3))))
        have HB := hide (fun o1 o2 o3 => GS.of_below (b := b) (n := n) (hb o1 o2 o3))
        obtain ⟨Z, hZ⟩ : ∃ Z, Z = cmpS s t := ⟨_, rfl⟩
        rw [← Hfin.out, ← hZ] at HA
        rw [← hZ]
        clear Hfin hZ hb hk hup hs ht htab h0 h1 hA
        go_enter Tryz.func297, Tryz.ntmps297
        go_wp2_with fail
        refine (HA.out _ _ _).mono ?_
        rintro e w4 ⟨rfl, hg4⟩
        have H4 := hide ((HB.out _ _ _).trans hg4)
        clear hg4
        go_wp2_with fail
        go_ret
        exact ⟨rfl, H4.out⟩
      · have hf : s.f = t.f := by omega
        have HA := hide (fun o1 o2 o3 => askArgs_any b n hup s i t j sa sc spa spc ta tc tpa tpc (((w.alloc o1).alloc o2).alloc o3) hn h0 h1 hf (hs.kt (hk o1 o2 o3)) (ht.kt (hk o1 o2 o3)) (htab.gs (GS.of_below (hb o1 o2 o3))))
        have HB := hide (fun o1 o2 o3 => GS.of_below (b := b) (n := n) (hb o1 o2 o3))
        obtain ⟨Z, hZ⟩ : ∃ Z, Z = cmpS s t := ⟨_, rfl⟩
        rw [← hZ] at HA ⊢
        clear hZ hb hk hup hs ht htab h0 h1 hA hf
        go_enter Tryz.func297, Tryz.ntmps297
        go_wp2_with fail
        refine (HA.out _ _ _).mono ?_
        rintro e w4 ⟨rfl, hg4⟩
        have H4 := hide ((HB.out _ _ _).trans hg4)
        clear hg4
        go_wp2_with fail
        go_ret
        exact ⟨rfl, H4.out⟩
  · have e0 : (s.v != 0) = true := by simpa using h0
    have Hfin := hide (cmp_var hs.ok ht.ok h0)
    obtain ⟨Z, hZ⟩ : ∃ Z, Z = cmpS s t := ⟨_, rfl⟩
    rw [← hZ] at Hfin ⊢
    have HB := hide (fun o1 o2 o3 => GS.of_below (b := b) (n := n) (hb o1 o2 o3))
    by_cases h1 : s.v = t.v
    · have e1 : (s.v == t.v) = true := by simpa using h1
      obtain rfl : Z = 2 := by rw [Hfin.out, if_pos h1]
      clear hZ hb hk hup hs ht htab h0 h1 Hfin
      go_enter Tryz.func297, Tryz.ntmps297
      go_wp2_with fail
      go_ret
      exact ⟨rfl, HB.out _ _ _⟩
    · have e1 : (s.v == t.v) = false := by simpa using h1
      obtain rfl : Z = 3 := by rw [Hfin.out, if_neg h1]
      clear hZ hb hk hup hs ht htab h0 h1 Hfin
      go_enter Tryz.func297, Tryz.ntmps297
      go_wp2_with fail
      go_ret
      exact ⟨rfl, HB.out _ _ _⟩
theorem cellT {w w' : World} {b o : Nat} {v : Value} (hb : Below w.heap.size w w') (h : w.cell? ⟨b, o, none⟩ = some v) : w'.cell? ⟨b, o, none⟩ = some v := by
  rw [hb.cell (p := ⟨b, o, none⟩) (lt_of_cell h)]; exact h
theorem memo_step {b : TB} {n : Nat} {w w4 : World} {i j : Nat} {s t : T} (hi : i < b.R) (hj : j < b.C) (hs : b.PS[i]? = some s) (ht : b.PT[j]? = some t) (hn1 : s.sz + t.sz = n + 1) (hg : GS b n w w4) : GS b (n + 1) w (w4.setCell ⟨b.K, i * b.C + j, none⟩ (.int .i8 (cmpS s t))) := by
  refine ⟨hg.kt.set _ _, fun M hM hC => ?_⟩
  obtain ⟨M', g1, g2, g3⟩ := hg.st M hM (hC.mono (by omega))
  refine ⟨_, g1.set hi hj (cmpS s t), fun i' j' s' t' hs' ht' hz => ?_, fun i' j' s' t' hs' ht' hz => ?_⟩
  · by_cases e : i' = i ∧ j' = j
    · obtain ⟨rfl, rfl⟩ := e
      rw [hs] at hs'; rw [ht] at ht'
      obtain rfl : s = s' := Option.some.inj hs'
      obtain rfl : t = t' := Option.some.inj ht'
      simp
    · simp only [if_neg e]
      rcases Nat.lt_or_ge n (s'.sz + t'.sz) with h | h
      · rw [g3 i' j' s' t' hs' ht' h]; exact hC i' j' s' t' hs' ht' hz
      · exact g2 i' j' s' t' hs' ht' h
  · have e : ¬ (i' = i ∧ j' = j) := fun e => by
      obtain ⟨rfl, rfl⟩ := e
      rw [hs] at hs'; rw [ht] at ht'
      obtain rfl : s = s' := Option.some.inj hs'
      obtain rfl : t = t' := Option.some.inj ht'
      omega
    simp only [if_neg e]
    exact g3 i' j' s' t' hs' ht' (by omega)
set_option maxRecDepth 100000 in
set_option maxHeartbeats 2000000 in
theorem isUp (b : TB) (hok : b.Ok) : ∀ n, IsUp b n := by
  intro n
  induction n with
  | zero => intro s i t j sa sc spa spc ta tc tpa tpc w hn; have := s.sz_pos; omega
  | succ n ih =>
    intro s i t j sa sc spa spc ta tc tpa tpc w hn hs ht htab
    rcases Nat.lt_or_ge n (s.sz + t.sz) with hlt | hlt
    · have hn1 : s.sz + t.sz = n + 1 := by omega
      rw [hn1] at htab ⊢
      have hi : i < b.R := by
        rw [hok.hR]
        rcases Nat.lt_or_ge i b.PS.length with h | h
        · exact h
        · have := hs.num; rw [List.getElem?_eq_none h] at this; cases this
      have hj : j < b.C := by
        rw [hok.hC]
        rcases Nat.lt_or_ge j b.PT.length with h | h
        · exact h
        · have := ht.num; rw [List.getElem?_eq_none h] at this; cases this
      have htab0 := htab
      obtain ⟨M, hM, hC⟩ := htab
      have hr1 := hok.r1
      have hc1 := hok.c1
      have hNb : b.R * b.C ≤ 1000000 := Nat.mul_le_mul hr1 hc1
      have hql := idx_lt hi hj
      obtain ⟨p, hp⟩ : ∃ p, p = i * b.C := ⟨_, rfl⟩
      obtain ⟨q, hq⟩ : ∃ q, q = p + j := ⟨_, rfl⟩
      have hqe : i * b.C + j = q := by rw [hq, hp]
      have hw1 : IntKind.i64.wrap ((i : Int) * (b.C : Int)) = (p : Int) := by
        have e : ((i : Int) * (b.C : Int)) = (p : Int) := by rw [hp, Int.natCast_mul]
        rw [e]; exact wrap_ok _ (by omega) (by omega)
      have hw2 : IntKind.i64.wrap ((p : Int) + (j : Int)) = (q : Int) := by
        have e : ((p : Int) + (j : Int)) = (q : Int) := by rw [hq]; omega
        rw [e]; exact wrap_ok _ (by omega) (by omega)
      have cE := hM.ent i j hi hj
      have fE := hM.fr q
      have lK := hM.lt
      rw [hqe] at cE hql
      have Hqe := hide hqe
      obtain ⟨NN, hNN⟩ : ∃ NN, NN = b.R * b.C := ⟨_, rfl⟩
      have HNN := hide hNN
      have hq0 : (0 : Int) ≤ (q : Int) := by omega
      have hq1 : (q : Int) < (NN : Int) := by omega
      show Calls Tryz.prog 266 #[.agg #[.slice (some ⟨b.K, 0, none⟩) (b.R * b.C) (b.R * b.C), .int .i64 (b.C : Int)], pv s i sa sc spa spc, pv t j ta tc tpa tpc] w _
      rw [← hNN]
      have hb := fun o1 o2 o3 => belowT w o1 o2 o3
      have HB := hide (fun o1 o2 o3 => GS.of_below (b := b) (n := n + 1) (hb o1 o2 o3))
      have HZ0 := hide (show cmpS s t ≠ 0 from by rcases cmpS_range s t with h | h | h <;> rw [h] <;> decide)
      by_cases h0 : M i j = 0
      · rw [h0] at cE
        have HA := hide (fun o1 o2 o3 => (show Calls Tryz.prog 297 #[.agg #[.slice (some ⟨b.K, 0, none⟩) NN NN, .int .i64 (b.C : Int)], pv s i sa sc spa spc, pv t j ta tc tpa tpc] (((w.alloc o1).alloc o2).alloc o3) (fun e w' => e = .returned (.int .i8 (cmpS s t)) ∧ GS b n (((w.alloc o1).alloc o2).alloc o3) w') from by rw [hNN]; exact ask_any b n ih s i t j sa sc spa spc ta tc tpa tpc (((w.alloc o1).alloc o2).alloc o3) (by omega) (hs.kt (KT.of_below (hb o1 o2 o3))) (ht.kt (KT.of_below (hb o1 o2 o3))) ((htab0.mono (by omega)).gs (GS.of_below (hb o1 o2 o3)))))
        have HM := hide (fun (w4 : World) (hg : GS b n w w4) => memo_step hi hj hs.num ht.num hn1 hg)
        have HC4 := hide (fun (w4 : World) (hg : GS b n w w4) => (show (∃ v, w4.cell? ⟨b.K, q, none⟩ = some (.int .i8 v)) ∧ w4.frozen? ⟨b.K, q, none⟩ = false from by
          obtain ⟨M', g1, _, _⟩ := hg.st M hM (hC.mono (by omega))
          have h9 := g1.ent i j hi hj
          rw [hqe] at h9
          exact ⟨⟨_, h9⟩, g1.fr q⟩))
        have HB2 := hide (fun o1 o2 o3 => GS.of_below (b := b) (n := n) (hb o1 o2 o3))
        obtain ⟨Z, hZ⟩ : ∃ Z, Z = cmpS s t := ⟨_, rfl⟩
        rw [← hZ] at HA HM ⊢
        have cE3 := fun o1 o2 o3 => cellT (belowT w o1 o2 o3) cE
        clear hZ HZ0 HB hb hM hC htab0 hs ht ih h0 hNN hqe hp hq hNb hql hn1 hlt hn hok cE
        go_enter Tryz.func266, Tryz.ntmps266
        go_wp2_with fail
        with_reducible refine (HA.out _ _ _).mono ?_
        rintro e w4 ⟨rfl, hg4⟩
        have Hg4 := hide ((HB2.out _ _ _).trans hg4)
        obtain ⟨⟨v4, c4⟩, f4⟩ := HC4.out _ Hg4.out
        have HF := hide (HM.out _ Hg4.out)
        rw [Hqe.out] at HF
        clear hg4 HM HC4 HA
        go_wp2_with fail
        go_ret
        exact ⟨rfl, HF.out⟩
      · have hv : M i j = cmpS s t := (hC i j s t hs.num ht.num (by omega)).resolve_left h0
        rw [hv] at cE
        obtain ⟨Z, hZ⟩ : ∃ Z, Z = cmpS s t := ⟨_, rfl⟩
        rw [← hZ] at cE HZ0 ⊢
        have hz0 : (Z == 0) = false := by simpa using HZ0.out
        have cE3 := fun o1 o2 o3 => cellT (belowT w o1 o2 o3) cE
        clear hZ HZ0 hb hM hC htab0 hs ht ih h0 hNN hqe hp hq hNb hql hn1 hlt hn hok hv cE
        go_enter Tryz.func266, Tryz.ntmps266
        go_wp2_with fail
        go_ret
        exact ⟨rfl, HB.out _ _ _⟩
    · exact ih s i t j sa sc spa spc ta tc tpa tpc w hlt hs ht htab
end Go.Proofs.YtbkedppkdhfpoabGreat
