/- Does a variable that is bound stand in a term? What is applied where it does. A list of literals of the call's own; literals appended to it. Literals that are needed: without those that can't be so, and those that one ahead is, too. Inferences: sides, parts, what is unified, applied, and falls. -/
import Derived.Deep.AppendLies
import Derived.Deep.DeepCutAuto
import Derived.Deep.RegionHeld3
import Derived.Laws.AppendOwnNone
import Derived.Maps.AppendAt
import Derived.Test.YtbkedppkdhfpoabGreatJoined11
namespace Go.Proofs.YtbkedppkdhfpoabGreat
open Go.RowKit
theorem any_tS {p : T → Bool} {c : List T} {k : Nat} {x : T} (hx : c[k]? = some x) (h : (c.take k).any p = false) : (p x = false → (c.take (k + 1)).any p = false) ∧ (p x = true → c.any p = true) := by
  constructor
  · intro h1
    rw [List.take_add_one, hx, List.any_append, h]
    simpa using h1
  · intro h1
    rw [List.any_eq_true]
    exact ⟨x, List.mem_of_getElem? hx, h1⟩
theorem any_bS {p : Int × T → Bool} {c : List (Int × T)} {k : Nat} {x : Int × T} (hx : c[k]? = some x) (h : (c.take k).any p = false) : (p x = false → (c.take (k + 1)).any p = false) ∧ (p x = true → c.any p = true) := by
  constructor
  · intro h1
    rw [List.take_add_one, hx, List.any_append, h]
    simpa using h1
  · intro h1
    rw [List.any_eq_true]
    exact ⟨x, List.mem_of_getElem? hx, h1⟩
attribute [local go_sem ↓] Go.wp_at_zero Go.wp_at_succ
set_option maxRecDepth 100000 in
set_option maxHeartbeats 400000 in
theorem indexTm_any {F : Nat} {P : Value} {p : T → Bool} (c : List T) (ca : Option Addr) (cc : Nat) (w : World) (hl : c.length ≤ 100000) (heg : ∀ (args : Array Value) (w : World), (callFunc F args).run Tryz.prog w = .ok (.enter F args) w)
    (hF : ∀ (w' : World) (x : T) (a1 : Option Addr) (c1 : Nat), Below w.heap.size w w' → x ∈ c → InL w' x.args a1 → Calls Tryz.prog F #[.agg #[.int .i64 x.v, .int .i64 x.f, .slice a1 x.args.length c1], P] w' fun e w'' => e = .returned (.bool (p x)) ∧ Below w'.heap.size w' w'') (hc : InL w c ca) :
    Calls Tryz.prog 309 #[.slice ca c.length cc, .func (.func F) #[] #[P]] w fun e w' => (∃ i : Int, e = .returned (.int .i64 i) ∧ decide (0 ≤ i) = c.any p) ∧ Below w.heap.size w w' := by
  have Hc := hide hc
  have HFF := hide hF
  clear hc hF
  go_enter Tryz.func309, Tryz.ntmps309
  go_wp2_with fail
  go_loopw [8] (fun i wr => ∃ k : Nat, k ≤ c.length ∧ i = .int .i64 k ∧ Hid ((c.take k).any p = false) ∧ Hid (Below w.heap.size w wr)) (fun i _ => c.length - (intOf i).toNat)
  case atStart => exact ⟨0, Nat.zero_le _, rfl, rfl, Below.refl _ _⟩
  case round =>
    obtain ⟨k, hk, rfl, Hk, Hbr⟩ := hrel
    by_cases hlt : k < c.length
    · obtain ⟨cb, coff, rfl⟩ := InP_some Hc.out (by omega)
      obtain ⟨x, hx⟩ : ∃ x, c[k]? = some x := ⟨c[k], List.getElem?_eq_getElem hlt⟩
      obtain ⟨a1, c1, _, k0, k1, k2, hi1⟩ := InP_at (InP_below Hbr.out Hc.out) hx
      have Hst := hide (any_tS (p := p) hx Hk.out)
      have HC := hide (HFF.out wr x a1 c1 Hbr.out (List.mem_of_getElem? hx) hi1)
      have hI : (k : Int) < c.length := by omega
      have hk0 : (0 : Int) ≤ k := by omega
      clear hx hi1 Hk
      go_wp2_with fail
      refine HC.out.mono ?_
      rintro e w' ⟨rfl, hb'⟩
      have Hb' := hide (Hbr.out.trans (hb'.mono Hbr.out.size))
      clear hb' HC k0 k1 k2
      cases hd : p x with
      | false =>
        have Hn := hide (Hst.out.1 hd)
        clear Hst hd
        go_wp2_with fail
        go_roundw
        case rel => exact ⟨k + 1, by omega, by go_num, Hn, Hb'⟩
        case measure => simp [intOf]; omega
      | true =>
        have Hn := hide (Hst.out.2 hd)
        clear Hst hd
        go_wp2_with fail
        go_ret
        exact ⟨⟨k, rfl, by rw [Hn.out]; simp⟩, Hb'.out⟩
    · have hk2 : k = c.length := by omega
      subst hk2
      rw [List.take_length] at Hk
      go_wp2_with fail
      go_ret
      exact ⟨⟨-1, rfl, by rw [Hk.out]; rfl⟩, Hbr.out⟩
set_option maxRecDepth 100000 in
set_option maxHeartbeats 400000 in
theorem containsTm_any {F : Nat} {P : Value} {p : T → Bool} (c : List T) (ca : Option Addr) (cc : Nat) (w : World) (hl : c.length ≤ 100000) (heg : ∀ (args : Array Value) (w : World), (callFunc F args).run Tryz.prog w = .ok (.enter F args) w)
    (hF : ∀ (w' : World) (x : T) (a1 : Option Addr) (c1 : Nat), Below w.heap.size w w' → x ∈ c → InL w' x.args a1 → Calls Tryz.prog F #[.agg #[.int .i64 x.v, .int .i64 x.f, .slice a1 x.args.length c1], P] w' fun e w'' => e = .returned (.bool (p x)) ∧ Below w'.heap.size w' w'') (hc : InL w c ca) :
    Calls Tryz.prog 292 #[.slice ca c.length cc, .func (.func F) #[] #[P]] w fun e w' => e = .returned (.bool (c.any p)) ∧ Below w.heap.size w w' := by
  have HX := hide (indexTm_any c ca cc w hl heg hF hc)
  clear hF hc heg
  go_enter Tryz.func292, Tryz.ntmps292
  go_wp2_with fail
  refine HX.out.mono ?_
  rintro e w' ⟨⟨i, rfl, hi⟩, hb'⟩
  have Hi := hide hi
  have Hb := hide hb'
  clear hi hb'
  go_wp2_with fail
  go_ret
  exact ⟨ret_bool Hi.out, Hb.out⟩
set_option maxRecDepth 100000 in
set_option maxHeartbeats 400000 in
theorem indexBd_any {F : Nat} {P : Value} {p : Int × T → Bool} (c : List (Int × T)) (ca : Option Addr) (cc : Nat) (w : World) (hl : c.length ≤ 100000) (heg : ∀ (args : Array Value) (w : World), (callFunc F args).run Tryz.prog w = .ok (.enter F args) w)
    (hF : ∀ (w' : World) (x : Int × T) (a1 : Option Addr) (c1 : Nat), Below w.heap.size w w' → x ∈ c → Calls Tryz.prog F #[.agg #[.int .i64 x.1, .int .i64 x.2.v, .int .i64 x.2.f, .slice a1 x.2.args.length c1], P] w' fun e w'' => e = .returned (.bool (p x)) ∧ Below w'.heap.size w' w'') (hc : Binds (fun _ => True) w c ca) :
    Calls Tryz.prog 308 #[.slice ca c.length cc, .func (.func F) #[] #[P]] w fun e w' => (∃ i : Int, e = .returned (.int .i64 i) ∧ decide (0 ≤ i) = c.any p) ∧ Below w.heap.size w w' := by
  have Hc := hide hc
  have HFF := hide hF
  clear hc hF
  go_enter Tryz.func308, Tryz.ntmps308
  go_wp2_with fail
  go_loopw [8] (fun i wr => ∃ k : Nat, k ≤ c.length ∧ i = .int .i64 k ∧ Hid ((c.take k).any p = false) ∧ Hid (Below w.heap.size w wr)) (fun i _ => c.length - (intOf i).toNat)
  case atStart => exact ⟨0, Nat.zero_le _, rfl, rfl, Below.refl _ _⟩
  case round =>
    obtain ⟨k, hk, rfl, Hk, Hbr⟩ := hrel
    by_cases hlt : k < c.length
    · obtain ⟨cb, coff, rfl⟩ := Binds_some Hc.out (by omega)
      obtain ⟨x, hx⟩ : ∃ x, c[k]? = some x := ⟨c[k], List.getElem?_eq_getElem hlt⟩
      obtain ⟨a1, c1, _, k0, k1, k2, k3, _⟩ := Binds_at (Binds_below Hbr.out Hc.out) hx
      have Hst := hide (any_bS (p := p) hx Hk.out)
      have HC := hide (HFF.out wr x a1 c1 Hbr.out (List.mem_of_getElem? hx))
      have hI : (k : Int) < c.length := by omega
      have hk0 : (0 : Int) ≤ k := by omega
      clear hx Hk
      go_wp2_with fail
      refine HC.out.mono ?_
      rintro e w' ⟨rfl, hb'⟩
      have Hb' := hide (Hbr.out.trans (hb'.mono Hbr.out.size))
      clear hb' HC k0 k1 k2 k3
      cases hd : p x with
      | false =>
        have Hn := hide (Hst.out.1 hd)
        clear Hst hd
        go_wp2_with fail
        go_roundw
        case rel => exact ⟨k + 1, by omega, by go_num, Hn, Hb'⟩
        case measure => simp [intOf]; omega
      | true =>
        have Hn := hide (Hst.out.2 hd)
        clear Hst hd
        go_wp2_with fail
        go_ret
        exact ⟨⟨k, rfl, by rw [Hn.out]; simp⟩, Hb'.out⟩
    · have hk2 : k = c.length := by omega
      subst hk2
      rw [List.take_length] at Hk
      go_wp2_with fail
      go_ret
      exact ⟨⟨-1, rfl, by rw [Hk.out]; rfl⟩, Hbr.out⟩
set_option maxRecDepth 100000 in
set_option maxHeartbeats 400000 in
theorem containsBd_any {F : Nat} {P : Value} {p : Int × T → Bool} (c : List (Int × T)) (ca : Option Addr) (cc : Nat) (w : World) (hl : c.length ≤ 100000) (heg : ∀ (args : Array Value) (w : World), (callFunc F args).run Tryz.prog w = .ok (.enter F args) w)
    (hF : ∀ (w' : World) (x : Int × T) (a1 : Option Addr) (c1 : Nat), Below w.heap.size w w' → x ∈ c → Calls Tryz.prog F #[.agg #[.int .i64 x.1, .int .i64 x.2.v, .int .i64 x.2.f, .slice a1 x.2.args.length c1], P] w' fun e w'' => e = .returned (.bool (p x)) ∧ Below w'.heap.size w' w'') (hc : Binds (fun _ => True) w c ca) :
    Calls Tryz.prog 290 #[.slice ca c.length cc, .func (.func F) #[] #[P]] w fun e w' => e = .returned (.bool (c.any p)) ∧ Below w.heap.size w w' := by
  have HX := hide (indexBd_any c ca cc w hl heg hF hc)
  clear hF hc heg
  go_enter Tryz.func290, Tryz.ntmps290
  go_wp2_with fail
  refine HX.out.mono ?_
  rintro e w' ⟨⟨i, rfl, hi⟩, hb'⟩
  have Hi := hide hi
  have Hb := hide hb'
  clear hi hb'
  go_wp2_with fail
  go_ret
  exact ⟨ret_bool Hi.out, Hb.out⟩
def touchedS (bs : List (Int × T)) : T → Bool
  | ⟨v, _, args⟩ => if v = 0 then touchedL args else bs.any (fun b => b.1 == v)
  where
  touchedL : List T → Bool
    | [] => false
    | t :: ts => touchedS bs t || touchedL ts
theorem touchedL_any (bs : List (Int × T)) (ts : List T) : touchedS.touchedL bs ts = ts.any (touchedS bs) := by
  induction ts with
  | nil => rfl
  | cons t ts ih => rw [touchedS.touchedL, ih, List.any_cons]
theorem touchedS_fn {bs : List (Int × T)} {t : T} (h : t.v = 0) : touchedS bs t = t.args.any (touchedS bs) := by cases t; rw [touchedS, if_pos h, touchedL_any]
theorem touchedS_var {bs : List (Int × T)} {t : T} (h : t.v ≠ 0) : touchedS bs t = bs.any (fun b => b.1 == t.v) := by cases t; rw [touchedS, if_neg h]
theorem eg291 (args : Array Value) (w : World) : (callFunc 291 args).run Tryz.prog w = .ok (.enter 291 args) w := by kernel_rfl
theorem eg293 (args : Array Value) (w : World) : (callFunc 293 args).run Tryz.prog w = .ok (.enter 293 args) w := by kernel_rfl
set_option maxRecDepth 100000 in
set_option maxHeartbeats 400000 in
theorem touched1_any (x : Int × T) (a1 : Option Addr) (c1 : Nat) (v : Int) (bt : Nat) (w : World) (hc : w.cell? ⟨bt, 0, none⟩ = some (.int .i64 v)) :
    Calls Tryz.prog 291 #[.agg #[.int .i64 x.1, .int .i64 x.2.v, .int .i64 x.2.f, .slice a1 x.2.args.length c1], .pointer (some ⟨bt, 0, none⟩)] w fun e w' => e = .returned (.bool (x.1 == v)) ∧ Below w.heap.size w w' := by
  have hlt := lt_of_cell hc
  have Hb := hide (fun o => below1 w o)
  have hc' := fun o => cell_below (below1 w o) hc
  clear hc
  go_enter Tryz.func291, Tryz.ntmps291
  go_wp2_with fail
  go_ret
  exact ⟨rfl, Hb.out _⟩
set_option maxRecDepth 100000 in
set_option maxHeartbeats 1000000 in
theorem touched_any (bs : List (Int × T)) (hbl : bs.length ≤ 1000) (N : Nat) : ∀ (t : T) (a : Option Addr) (cap : Nat) (ba : Option Addr) (bc : Nat) (w : World), t.sz ≤ N → t.sz ≤ 1000 → Binds (fun _ => True) w bs ba → InL w t.args a →
    Calls Tryz.prog 263 #[.slice ba bs.length bc, .agg #[.int .i64 t.v, .int .i64 t.f, .slice a t.args.length cap]] w fun e w' => e = .returned (.bool (touchedS bs t)) ∧ Below w.heap.size w w' := by
  induction N with
  | zero => intro t a cap ba bc w h; have := t.sz_pos; omega
  | succ N ih =>
    intro t a cap ba bc w hN h1000 hbs hin
    obtain ⟨W1, hW1⟩ : ∃ W1, W1 = (w.alloc (.cells #[.slice ba bs.length bc] 91)).alloc (.cells #[.int .i64 t.v, .int .i64 t.f, .slice a t.args.length cap] 77) := ⟨_, rfl⟩
    have hbW : Below w.heap.size w W1 := by rw [hW1]; exact below2 _ _ _
    have hcb : W1.cell? ⟨w.heap.size, 0, none⟩ = some (.slice ba bs.length bc) := by rw [hW1, cell_alloc_lt (by simp)]; exact cell_new 0 rfl
    have h3 : Three W1 (w.heap.size + 1) (.int .i64 t.v) (.int .i64 t.f) (.slice a t.args.length cap) := by rw [hW1]; exact Three.new _ (by simp)
    have hts := T.sz_eq t
    have hal : t.args.length ≤ 1000 := by have := T.length_le t.args; omega
    have HW1 := hide hW1
    have HbW := hide hbW
    obtain ⟨p0, p1, p2, _, _, _⟩ := h3
    by_cases hv : t.v = 0
    · have HC := hide (containsTm_any (F := 293) (P := .pointer (some ⟨w.heap.size, 0, none⟩)) (p := touchedS bs) t.args a cap W1 (by omega) eg293 (fun w' x a1 c1 hb' hx hi => by
          have hxs := arg_sz hx
          have hcb' := cell_below hb' hcb
          have HR := hide (fun o => ih x a1 c1 ba bc (w'.alloc o) (by omega) (by omega) (Binds_below (below1 w' o) (Binds_below (hbW.trans (hb'.mono hbW.size)) hbs)) (InP_alloc o hi))
          have hlt := lt_of_cell hcb'
          have hcb2 := fun o => cell_below (below1 w' o) hcb'
          clear hcb' ih
          go_enter Tryz.func293, Tryz.ntmps293
          go_wp2_with fail
          refine (HR.out _).mono ?_
          rintro e w2 ⟨rfl, hb2⟩
          have Hf := hide ((below1 w' _).trans (hb2.mono (by simp)))
          clear hb2 HR
          go_wp2_with fail
          go_ret
          exact ⟨rfl, Hf.out⟩) (InP_below hbW hin))
      have HZ := hide (touchedS_fn (bs := bs) hv)
      have e1 : (t.v != 0) = false := by simpa using hv
      rw [hW1] at hcb p0 p1 p2
      clear hW1 hbW hbs hin ih hts hv
      go_enter Tryz.func263, Tryz.ntmps263
      go_wp2_with fail
      rw [← HW1.out]
      refine HC.out.mono ?_
      rintro e w1 ⟨rfl, hb1⟩
      have Hf := hide (HbW.out.trans (hb1.mono HbW.out.size))
      clear hb1 HC
      go_wp2_with fail
      go_ret
      exact ⟨ret_bool HZ.out.symm, Hf.out⟩
    · have HC := hide (containsBd_any (F := 291) (P := .pointer (some ⟨w.heap.size + 1, 0, none⟩)) (p := fun b => b.1 == t.v) bs ba bc W1 (by omega) eg291 (fun w' x a1 c1 hb' _ => touched1_any x a1 c1 t.v (w.heap.size + 1) w' (cell_below hb' p0)) (Binds_below hbW hbs))
      have HZ := hide (touchedS_var (bs := bs) hv)
      have e1 : (t.v != 0) = true := by simpa using hv
      rw [hW1] at hcb p0 p1 p2
      clear hW1 hbW hbs hin ih hts
      go_enter Tryz.func263, Tryz.ntmps263
      go_wp2_with fail
      rw [← HW1.out]
      refine HC.out.mono ?_
      rintro e w1 ⟨rfl, hb1⟩
      have Hf := hide (HbW.out.trans (hb1.mono HbW.out.size))
      clear hb1 HC
      go_wp2_with fail
      go_ret
      exact ⟨ret_bool HZ.out.symm, Hf.out⟩
end Go.Proofs.YtbkedppkdhfpoabGreat

namespace Go.Proofs.YtbkedppkdhfpoabGreat
open Go.RowKit
def LitsQ (p : Nat → Prop) (w : World) : List Lit → Option Addr → Prop
  | [], _ => True
  | x :: c, a => ∃ b off a1 c1 a2 c2, a = some ⟨b, off, none⟩ ∧ p b ∧ w.cell? ⟨b, off, none⟩ = some (.bool x.1) ∧ w.cell? ⟨b, off + 1, none⟩ = some (.int .i64 x.2.1.v) ∧ w.cell? ⟨b, off + 2, none⟩ = some (.int .i64 x.2.1.f) ∧ w.cell? ⟨b, off + 3, none⟩ = some (.slice a1 x.2.1.args.length c1) ∧
      w.cell? ⟨b, off + 4, none⟩ = some (.int .i64 x.2.2.v) ∧ w.cell? ⟨b, off + 5, none⟩ = some (.int .i64 x.2.2.f) ∧ w.cell? ⟨b, off + 6, none⟩ = some (.slice a2 x.2.2.args.length c2) ∧ InP p w x.2.1.args a1 ∧ InP p w x.2.2.args a2 ∧ LitsQ p w c (some ⟨b, off + 7, none⟩)
theorem LitsQ_lits {p : Nat → Prop} {w : World} : ∀ {c : List Lit} {a : Option Addr}, LitsQ p w c a → LitsP w c a := by
  intro c
  induction c with
  | nil => intro a _; trivial
  | cons x c ih =>
    intro a h
    obtain ⟨b, off, a1, c1, a2, c2, rfl, _, h0, h1, h2, h3, h4, h5, h6, i1, i2, hr⟩ := h
    exact ⟨b, off, a1, c1, a2, c2, rfl, h0, h1, h2, h3, h4, h5, h6, InP_imp (fun _ _ => trivial) i1, InP_imp (fun _ _ => trivial) i2, ih hr⟩
theorem LitsQ_mono {p q : Nat → Prop} {w w' : World} (hs : ∀ k, p k → k < w.heap.size → q k ∧ w'.heap[k]? = w.heap[k]?) : ∀ {c : List Lit} {a : Option Addr}, LitsQ p w c a → LitsQ q w' c a := by
  intro c
  induction c with
  | nil => intro a _; trivial
  | cons x c ih =>
    intro a h
    obtain ⟨b, off, a1, c1, a2, c2, rfl, hp, h0, h1, h2, h3, h4, h5, h6, i1, i2, hr⟩ := h
    have hI : ∀ {ts : List T} {y : Option Addr}, InP p w ts y → InP q w' ts y := fun hi => InP_mono (fun b o v hp hv => ⟨(hs b hp (lt_of_cell hv)).1, by rw [World.cell?_of_block (w := w) (a := ⟨b, o, none⟩) (hs b hp (lt_of_cell hv)).2]; exact hv⟩) _ _ _ (Nat.le_refl _) hi
    have hC : ∀ {o : Nat} {v : Value}, w.cell? ⟨b, o, none⟩ = some v → w'.cell? ⟨b, o, none⟩ = some v := fun {o v} hv => by rw [World.cell?_of_block (w := w) (a := ⟨b, o, none⟩) (hs b hp (lt_of_cell hv)).2]; exact hv
    exact ⟨b, off, a1, c1, a2, c2, rfl, (hs b hp (lt_of_cell h0)).1, hC h0, hC h1, hC h2, hC h3, hC h4, hC h5, hC h6, hI i1, hI i2, ih hr⟩
theorem LitsQ_below {p : Nat → Prop} {w w' : World} (hb : Below w.heap.size w w') {c : List Lit} {a : Option Addr} (h : LitsQ p w c a) : LitsQ p w' c a := LitsQ_mono (fun k hp hk => ⟨hp, hb.block k hk⟩) h
theorem LitsQ_imp {p q : Nat → Prop} {w : World} (hpq : ∀ k, p k → q k) {c : List Lit} {a : Option Addr} (h : LitsQ p w c a) : LitsQ q w c a := LitsQ_mono (fun k hp _ => ⟨hpq k hp, rfl⟩) h
theorem LitsP_lt {w : World} : ∀ {c : List Lit} {a : Option Addr}, LitsP w c a → LitsQ (fun k => k < w.heap.size) w c a := by
  intro c
  induction c with
  | nil => intro a _; trivial
  | cons x c ih =>
    intro a h
    obtain ⟨b, off, a1, c1, a2, c2, rfl, h0, h1, h2, h3, h4, h5, h6, i1, i2, hr⟩ := h
    exact ⟨b, off, a1, c1, a2, c2, rfl, lt_of_cell h0, h0, h1, h2, h3, h4, h5, h6, InP_imp (fun _ h => h.2) (InP_lt i1), InP_imp (fun _ h => h.2) (InP_lt i2), ih hr⟩
theorem LitsQ_at {p : Nat → Prop} {w : World} : ∀ {c : List Lit} {b off k : Nat} {x : Lit}, LitsQ p w c (some ⟨b, off, none⟩) → c[k]? = some x →
    ∃ a1 c1 a2 c2, p b ∧ w.cell? ⟨b, off + k * 7, none⟩ = some (.bool x.1) ∧ w.cell? ⟨b, off + k * 7 + 1, none⟩ = some (.int .i64 x.2.1.v) ∧ w.cell? ⟨b, off + k * 7 + 2, none⟩ = some (.int .i64 x.2.1.f) ∧ w.cell? ⟨b, off + k * 7 + 3, none⟩ = some (.slice a1 x.2.1.args.length c1) ∧
      w.cell? ⟨b, off + k * 7 + 4, none⟩ = some (.int .i64 x.2.2.v) ∧ w.cell? ⟨b, off + k * 7 + 5, none⟩ = some (.int .i64 x.2.2.f) ∧ w.cell? ⟨b, off + k * 7 + 6, none⟩ = some (.slice a2 x.2.2.args.length c2) ∧ InP p w x.2.1.args a1 ∧ InP p w x.2.2.args a2 := by
  intro c
  induction c with
  | nil => intro b off k x _ h; simp at h
  | cons y c ih =>
    intro b off k x h hk
    obtain ⟨b', off', a1, c1, a2, c2, hb, hp, h0, h1, h2, h3, h4, h5, h6, i1, i2, hr⟩ := h
    simp only [Option.some.injEq, Addr.mk.injEq] at hb
    obtain ⟨rfl, rfl, _⟩ := hb
    cases k with
    | zero =>
      simp at hk; subst hk
      exact ⟨a1, c1, a2, c2, hp, by simpa using h0, by simpa using h1, by simpa using h2, by simpa using h3, by simpa using h4, by simpa using h5, by simpa using h6, i1, i2⟩
    | succ k =>
      have h9 := ih hr (by simpa using hk)
      rw [show off + (k + 1) * 7 = off + 7 + k * 7 by omega]
      exact h9
def KidsL (p : Nat → Prop) (w : World) : List Lit → List Value → Prop
  | [], cs => cs = []
  | x :: c, cs => ∃ a1 c1 a2 c2 rest, cs = .bool x.1 :: .int .i64 x.2.1.v :: .int .i64 x.2.1.f :: .slice a1 x.2.1.args.length c1 :: .int .i64 x.2.2.v :: .int .i64 x.2.2.f :: .slice a2 x.2.2.args.length c2 :: rest ∧ InP p w x.2.1.args a1 ∧ InP p w x.2.2.args a2 ∧ KidsL p w c rest
theorem KidsL_append {p : Nat → Prop} {w : World} {c d : List Lit} : ∀ {cs ds : List Value}, KidsL p w c cs → KidsL p w d ds → KidsL p w (c ++ d) (cs ++ ds) := by
  induction c with
  | nil => intro cs ds h1 h2; rw [show cs = [] from h1]; exact h2
  | cons x c ih =>
    intro cs ds h1 h2
    obtain ⟨a1, c1, a2, c2, rest, rfl, h0, h0', h⟩ := h1
    exact ⟨a1, c1, a2, c2, rest ++ ds, rfl, h0, h0', ih h h2⟩
theorem KidsL_mono {p q : Nat → Prop} {w w' : World} {c : List Lit} (hs : ∀ k, p k → k < w.heap.size → q k ∧ w'.heap[k]? = w.heap[k]?) : ∀ {cs : List Value}, KidsL p w c cs → KidsL q w' c cs := by
  induction c with
  | nil => intro cs h; exact h
  | cons x c ih =>
    intro cs h
    obtain ⟨a1, c1, a2, c2, rest, rfl, h0, h0', h⟩ := h
    have hI : ∀ {ts : List T} {y : Option Addr}, InP p w ts y → InP q w' ts y := fun hi => InP_mono (fun b o v hp hv => ⟨(hs b hp (lt_of_cell hv)).1, by rw [World.cell?_of_block (w := w) (a := ⟨b, o, none⟩) (hs b hp (lt_of_cell hv)).2]; exact hv⟩) _ _ _ (Nat.le_refl _) hi
    exact ⟨a1, c1, a2, c2, rest, rfl, hI h0, hI h0', ih h⟩
theorem KidsL_in {p : Nat → Prop} {w : World} {g : Nat} (hpg : p g) {c : List Lit} : ∀ {off : Nat} {cs : List Value}, KidsL p w c cs → (∀ j u, cs[j]? = some u → w.cell? ⟨g, off + j, none⟩ = some u) → LitsQ p w c (some ⟨g, off, none⟩) := by
  induction c with
  | nil => intro off cs _ _; trivial
  | cons x c ih =>
    intro off cs h hc
    obtain ⟨a1, c1, a2, c2, rest, rfl, h0, h0', h⟩ := h
    refine ⟨g, off, a1, c1, a2, c2, rfl, hpg, hc 0 _ rfl, hc 1 _ rfl, hc 2 _ rfl, hc 3 _ rfl, hc 4 _ rfl, hc 5 _ rfl, hc 6 _ rfl, h0, h0', ih h fun j u hu => ?_⟩
    rw [show off + 7 + j = off + (j + 7) from by omega]
    exact hc (j + 7) u (by simpa using hu)
def OutsL (q : Nat → Prop) (base : Nat) (w : World) (l : Value) (c : List Lit) : Prop :=
  ∃ xs, w.ownsRow base 79 7 l c.length xs ∧ KidsL (fun k => (q k ∨ base ≤ k) ∧ l.ownBlock ≠ some k) w c xs
theorem OutsL_nil {q : Nat → Prop} {base : Nat} {w : World} : OutsL q base w (.slice none 0 0) [] := ⟨[], ⟨rfl, Or.inl ⟨rfl, rfl⟩⟩, rfl⟩
theorem OutsL_same {q : Nat → Prop} {base : Nat} {w w' : World} {l : Value} {c : List Lit} (h : OutsL q base w l c) (hs : ∀ k, (q k ∨ base ≤ k) → k < w.heap.size → w'.heap[k]? = w.heap[k]?) : OutsL q base w' l c := by
  obtain ⟨xs, h1, h2⟩ := h
  exact ⟨xs, own_same h1 (fun g hg => hs g (Or.inr (own_lt h1 g hg).1) (own_lt h1 g hg).2), KidsL_mono (fun k hk hlt => ⟨hk, hs k hk.1 hlt⟩) h2⟩
theorem OutsL_below {q : Nat → Prop} {base : Nat} {w w' : World} {l : Value} {c : List Lit} (h : OutsL q base w l c) (hb : Below w.heap.size w w') : OutsL q base w' l c := OutsL_same h (fun k _ hk => hb.block k hk)
theorem OutsL_step {q : Nat → Prop} {base : Nat} {w w' : World} {l : Value} {c : List Lit} {x : Lit} {xs : List Value} {a1 : Option Addr} {c1 : Nat} {a2 : Option Addr} {c2 g cap2 : Nat} (hk : KidsL (fun k => (q k ∨ base ≤ k) ∧ l.ownBlock ≠ some k) w c xs)
    (hc : InP (fun k => (q k ∨ base ≤ k) ∧ l.ownBlock ≠ some k) w x.2.1.args a1) (hc2 : InP (fun k => (q k ∨ base ≤ k) ∧ l.ownBlock ≠ some k) w x.2.2.args a2)
    (hown : w'.ownsRow base 79 7 (.slice (some ⟨g, 0, none⟩) (c.length + 1) cap2) (c.length + 1) (xs ++ [.bool x.1, .int .i64 x.2.1.v, .int .i64 x.2.1.f, .slice a1 x.2.1.args.length c1, .int .i64 x.2.2.v, .int .i64 x.2.2.f, .slice a2 x.2.2.args.length c2])) (hg : w.grownBy w' l.ownBlock) (hat : l.ownBlock = some g ∨ g = w.heap.size) :
    OutsL q base w' (.slice (some ⟨g, 0, none⟩) (c.length + 1) cap2) (c ++ [x]) := by
  refine ⟨_, by rw [List.length_append]; exact hown, KidsL_mono (p := fun k => (q k ∨ base ≤ k) ∧ l.ownBlock ≠ some k) (w := w) (fun k hp hlt => ⟨⟨hp.1, ?_⟩, hg.block k hlt (fun e => hp.2 e.symm)⟩) (KidsL_append hk ⟨a1, c1, a2, c2, [], rfl, hc, hc2, rfl⟩)⟩
  rcases hat with hat | hat
  · rw [show (Value.slice (some ⟨g, 0, none⟩) (c.length + 1) cap2).ownBlock = some g from rfl, ← hat]; exact hp.2
  · show some g ≠ some k
    intro e; cases e; omega
theorem OutsL_end {q : Nat → Prop} {base : Nat} {w : World} {l : Value} {c : List Lit} (h : OutsL q base w l c) : ∃ a cap, l = .slice a c.length cap ∧ LitsQ (fun k => q k ∨ base ≤ k) w c a := by
  obtain ⟨xs, h1, h2⟩ := h
  by_cases h0 : 0 < c.length
  · obtain ⟨g, cap, rfl, hb, hlt, hcell⟩ := own_cellsN h1 h0
    exact ⟨_, cap, rfl, KidsL_in (Or.inr hb) (KidsL_mono (fun k hk _ => ⟨hk.1, rfl⟩) h2) (fun j u hu => by rw [Nat.zero_add]; exact hcell j u hu)⟩
  · obtain ⟨a, c', rfl⟩ := own_shape h1
    have : c = [] := List.length_eq_zero_iff.1 (by omega)
    subst this
    exact ⟨a, c', rfl, trivial⟩
theorem Tryz.info79 : (Tryz.prog.info? 79).map (fun i => (i.zero, i.size, i.bytes)) = some (some (.agg #[.bool false, .int .i64 0, .int .i64 0, .slice none 0 0, .int .i64 0, .int .i64 0, .slice none 0 0]), 7, 88) := by kernel_rfl
def SrcL (w : World) (x : Value) (m : Nat) (news : List Value) : Prop :=
  (x = .slice none 0 0 ∧ m = 0 ∧ news = []) ∨ ∃ b off c, x = .slice (some ⟨b, off, none⟩) m c ∧ news.length = m * 7 ∧ (∀ j u, news[j]? = some u → w.cell? ⟨b, off + j, none⟩ = some u) ∧ ∀ u, u ∈ news → u.oneCell' = true
theorem run_append_l {w : World} {base n m : Nat} {v x : Value} {xs news : List Value} (ty : TypeId) (hown : w.ownsRow base 79 7 v n xs) (hx : SrcL w x m news) (hl : n + m ≤ 200000) (hbase : base ≤ w.heap.size) :
    ∃ v' w', (Builtin.append_ #[26, 26] ty #[v, x]).run Tryz.prog w = .ok v' w' ∧ w'.ownsRow base 79 7 v' (n + m) (xs ++ news) ∧ w.grownBy w' v.ownBlock ∧ (v'.ownBlock = v.ownBlock ∨ v'.ownBlock = some w.heap.size) := by
  obtain ⟨i, hi, hzz⟩ := Option.map_eq_some_iff.1 Tryz.info79
  simp only [Prod.mk.injEq] at hzz
  obtain ⟨hz0, hz1, hz2⟩ := hzz
  rcases hx with ⟨rfl, rfl, rfl⟩ | ⟨b, off, c, rfl, hl2, hc, h1⟩
  · rw [List.append_nil]
    exact ⟨v, w, run_append_owned_none (P := Tryz.prog) w base 26 ty 79 i 7 Go.Proofs.Tryz.underlying26 hi _ _ _ hown, hown, ⟨rfl, rfl, rfl, Nat.le_refl _, fun _ _ _ => rfl⟩, Or.inl rfl⟩
  · obtain ⟨v', w', hr, h2, h3, _, h5⟩ := run_append_own_at (P := Tryz.prog) w base 26 ty 79 i (.agg #[.bool false, .int .i64 0, .int .i64 0, .slice none 0 0, .int .i64 0, .int .i64 0, .slice none 0 0]) 7 88 Go.Proofs.Tryz.underlying26 hi hz0 hz1 hz2 rfl (by decide) v n xs hown ⟨b, off, none⟩ m c news hl2 (fun j u hu => by
        have e : (⟨b, off, none⟩ : Addr).add j = ⟨b, off + j, none⟩ := by simp [Addr.add]
        rw [e]; exact hc j u hu) h1 (by unfold maxLen; omega) (by omega) hbase
    exact ⟨v', w', hr, h2, h3, h5⟩
theorem wp_append_l {w : World} {o : Oper} {a : Act} {K : Act → World → Prop} {Q : Exit → Act → World → Prop} (s x : Operand) (ho : o.op = .call { callee := .builtin .append, args := #[s, x], argTypes := #[26, 26] })
    (base n m : Nat) (v : Value) (xs news : List Value) (hs : a.eval s = v) (hown : w.ownsRow base 79 7 v n xs) (xv : Value) (hx : a.eval x = xv) (hsrc : SrcL w xv m news) (hl : n + m ≤ 200000) (hbase : base ≤ w.heap.size)
    (h : ∀ v' w', w'.ownsRow base 79 7 v' (n + m) (xs ++ news) → w.grownBy w' v.ownBlock → (v'.ownBlock = v.ownBlock ∨ v'.ownBlock = some w.heap.size) → K (a.put o.dst v') w') : o.wp Tryz.prog a w K Q := by
  obtain ⟨v', w', hr, h2, h3, h4⟩ := run_append_l o.type hown hsrc hl hbase
  unfold Oper.wp execOp
  simp only [ho, resolve, invoke, builtin, Sem.run_bind, Sem.run_pure, Result.andThen_ok, List.map_toArray, List.map_cons, List.map_nil, hs, hx, hr]
  exact h v' w' h2 h3 h4
theorem wpList_append_l {w : World} {ops : Array Oper} {rest : List Oper} {o : Oper} {a : Act} {Q : Exit → Act → World → Prop} (hgd : o.guard = none) (s x : Operand) (ho : o.op = .call { callee := .builtin .append, args := #[s, x], argTypes := #[26, 26] })
    (base n m : Nat) (v : Value) (xs news : List Value) (hs : a.eval s = v) (hown : w.ownsRow base 79 7 v n xs) (xv : Value) (hx : a.eval x = xv) (hsrc : SrcL w xv m news) (hl : n + m ≤ 200000) (hbase : base ≤ w.heap.size)
    (h : ∀ v' w', w'.ownsRow base 79 7 v' (n + m) (xs ++ news) → w.grownBy w' v.ownBlock → (v'.ownBlock = v.ownBlock ∨ v'.ownBlock = some w.heap.size) → wpList Tryz.prog ops Q rest (a.put o.dst v') w') : wpList Tryz.prog ops Q (o :: rest) a w :=
  wpList_plain hgd fun _ hK => wp_append_l s x ho base n m v xs news hs hown xv hx hsrc hl hbase fun v' w' h2 h3 h4 => hK _ _ (h v' w' h2 h3 h4)
theorem step_append_l {w : World} {ops : Array Oper} {o : Oper} {a : Act} {K : Act → World → Prop} {Q : Exit → Act → World → Prop} {E : Prop} (hgd : o.guard = none) (s x : Operand) (ho : o.op = .call { callee := .builtin .append, args := #[s, x], argTypes := #[26, 26] })
    (base n m : Nat) (v : Value) (xs news : List Value) (hs : a.eval s = v) (hown : w.ownsRow base 79 7 v n xs) (xv : Value) (hx : a.eval x = xv) (hsrc : SrcL w xv m news) (hl : n + m ≤ 200000) (hbase : base ≤ w.heap.size)
    (h : ∀ v' w', w'.ownsRow base 79 7 v' (n + m) (xs ++ news) → w.grownBy w' v.ownBlock → (v'.ownBlock = v.ownBlock ∨ v'.ownBlock = some w.heap.size) → K (a.put o.dst v') w') :
    if Region.wanted o (yielded ops a.tmps) = true then Oper.wp Tryz.prog o a w K Q else E := by
  have hw : Region.wanted o (yielded ops a.tmps) = true := by simp [Region.wanted, hgd]
  rw [if_pos hw]
  exact wp_append_l s x ho base n m v xs news hs hown xv hx hsrc hl hbase h
end Go.Proofs.YtbkedppkdhfpoabGreat

namespace Go.Proofs.YtbkedppkdhfpoabGreat
open Go.RowKit
def sameS (k l : Lit) : Bool := sameT k.2.1 l.2.1 && sameT k.2.2 l.2.2 || sameT k.2.1 l.2.2 && sameT k.2.2 l.2.1
def sameLit (k l : Lit) : Bool := k.1 == l.1 && sameS k l
structure L7 (w : World) (b o : Nat) (x : Lit) (a1 : Option Addr) (c1 : Nat) (a2 : Option Addr) (c2 : Nat) : Prop where
  e0 : w.cell? ⟨b, o, none⟩ = some (.bool x.1)
  e1 : w.cell? ⟨b, o + 1, none⟩ = some (.int .i64 x.2.1.v)
  e2 : w.cell? ⟨b, o + 2, none⟩ = some (.int .i64 x.2.1.f)
  e3 : w.cell? ⟨b, o + 3, none⟩ = some (.slice a1 x.2.1.args.length c1)
  e4 : w.cell? ⟨b, o + 4, none⟩ = some (.int .i64 x.2.2.v)
  e5 : w.cell? ⟨b, o + 5, none⟩ = some (.int .i64 x.2.2.f)
  e6 : w.cell? ⟨b, o + 6, none⟩ = some (.slice a2 x.2.2.args.length c2)
theorem L7.below {w w' : World} {b o : Nat} {x : Lit} {a1 : Option Addr} {c1 : Nat} {a2 : Option Addr} {c2 : Nat} (h : L7 w b o x a1 c1 a2 c2) (hb : Below w.heap.size w w') : L7 w' b o x a1 c1 a2 c2 :=
  ⟨cellB hb h.e0, cellB hb h.e1, cellB hb h.e2, cellB hb h.e3, cellB hb h.e4, cellB hb h.e5, cellB hb h.e6⟩
theorem L7.new {w : World} {x : Lit} {a1 : Option Addr} {c1 : Nat} {a2 : Option Addr} {c2 n : Nat} (e : TypeId) (hn : n = w.heap.size) : L7 (w.alloc (.cells #[.bool x.1, .int .i64 x.2.1.v, .int .i64 x.2.1.f, .slice a1 x.2.1.args.length c1, .int .i64 x.2.2.v, .int .i64 x.2.2.f, .slice a2 x.2.2.args.length c2] e)) n 0 x a1 c1 a2 c2 :=
  ⟨cell_new 0 hn, cell_new 1 hn, cell_new 2 hn, cell_new 3 hn, cell_new 4 hn, cell_new 5 hn, cell_new 6 hn⟩
abbrev litV (x : Lit) (a1 : Option Addr) (c1 : Nat) (a2 : Option Addr) (c2 : Nat) : Value := .agg #[.bool x.1, .int .i64 x.2.1.v, .int .i64 x.2.1.f, .slice a1 x.2.1.args.length c1, .int .i64 x.2.2.v, .int .i64 x.2.2.f, .slice a2 x.2.2.args.length c2]
def LitSz (x : Lit) : Prop := x.2.1.sz ≤ 1000 ∧ x.2.2.sz ≤ 1000
theorem any_litS {p : Lit → Bool} {c : List Lit} {k : Nat} {x : Lit} (hx : c[k]? = some x) (h : (c.take k).any p = false) : (p x = false → (c.take (k + 1)).any p = false) ∧ (p x = true → c.any p = true) := by
  have hlt := (List.getElem?_eq_some_iff.1 hx).1
  constructor
  · intro h1
    rw [List.take_add_one, hx, List.any_append, h]
    simpa using h1
  · intro h1
    rw [List.any_eq_true]
    exact ⟨x, List.mem_of_getElem? hx, h1⟩
attribute [local go_sem ↓] Go.wp_at_zero Go.wp_at_succ
set_option maxRecDepth 100000 in
set_option maxHeartbeats 1000000 in
theorem sameSides_any (k l : Lit) (a1 : Option Addr) (c1 : Nat) (a2 : Option Addr) (c2 : Nat) (b1 : Option Addr) (d1 : Nat) (b2 : Option Addr) (d2 : Nat) (w : World) (hk : LitSz k) (i1 : InL w k.2.1.args a1) (i2 : InL w k.2.2.args a2) (j1 : InL w l.2.1.args b1) (j2 : InL w l.2.2.args b2) :
    Calls Tryz.prog 105 #[litV k a1 c1 a2 c2, litV l b1 d1 b2 d2] w fun e w' => e = .returned (.bool (sameS k l)) ∧ Below w.heap.size w w' := by
  obtain ⟨W1, hW1⟩ : ∃ W1, W1 = (w.alloc (.cells #[.bool k.1, .int .i64 k.2.1.v, .int .i64 k.2.1.f, .slice a1 k.2.1.args.length c1, .int .i64 k.2.2.v, .int .i64 k.2.2.f, .slice a2 k.2.2.args.length c2] 79)).alloc (.cells #[.bool l.1, .int .i64 l.2.1.v, .int .i64 l.2.1.f, .slice b1 l.2.1.args.length d1, .int .i64 l.2.2.v, .int .i64 l.2.2.f, .slice b2 l.2.2.args.length d2] 79) := ⟨_, rfl⟩
  have hbW : Below w.heap.size w W1 := by rw [hW1]; exact below2 _ _ _
  have hzW : W1.heap.size = w.heap.size + 2 := by rw [hW1]; simp
  have hk7 : L7 W1 w.heap.size 0 k a1 c1 a2 c2 := by rw [hW1]; exact (L7.new _ rfl).below (below1 _ _)
  have hl7 : L7 W1 (w.heap.size + 1) 0 l b1 d1 b2 d2 := by rw [hW1]; exact L7.new _ (by simp)
  have hBx := hide (fun (w' : World) (hb : Below W1.heap.size W1 w') => And.intro (hk7.below hb) (hl7.below hb))
  have HS := hide (fun (w' : World) (hb : Below W1.heap.size W1 w') => (show Calls Tryz.prog _ _ w' _ ∧ Calls Tryz.prog _ _ w' _ ∧ Calls Tryz.prog _ _ w' _ ∧ Calls Tryz.prog _ _ w' _ from
    have hh := hbW.trans (hb.mono (by omega))
    ⟨treeSame_any k.2.1.sz k.2.1 l.2.1 a1 c1 b1 d1 w' (Nat.le_refl _) hk.1 (InP_below hh i1) (InP_below hh j1), treeSame_any k.2.2.sz k.2.2 l.2.2 a2 c2 b2 d2 w' (Nat.le_refl _) hk.2 (InP_below hh i2) (InP_below hh j2),
      treeSame_any k.2.1.sz k.2.1 l.2.2 a1 c1 b2 d2 w' (Nat.le_refl _) hk.1 (InP_below hh i1) (InP_below hh j2), treeSame_any k.2.2.sz k.2.2 l.2.1 a2 c2 b1 d1 w' (Nat.le_refl _) hk.2 (InP_below hh i2) (InP_below hh j1)⟩))
  have HF := hide (fun (w' : World) (hb : Below W1.heap.size W1 w') => hbW.trans (hb.mono (by omega)))
  obtain ⟨A, hA⟩ : ∃ A, A = sameT k.2.1 l.2.1 := ⟨_, rfl⟩
  obtain ⟨B, hB⟩ : ∃ B, B = sameT k.2.2 l.2.2 := ⟨_, rfl⟩
  obtain ⟨C, hC⟩ : ∃ C, C = sameT k.2.1 l.2.2 := ⟨_, rfl⟩
  obtain ⟨D, hD⟩ : ∃ D, D = sameT k.2.2 l.2.1 := ⟨_, rfl⟩
  have hZ : sameS k l = (A && B || C && D) := by rw [sameS, ← hA, ← hB, ← hC, ← hD]
  rw [← hA, ← hB, ← hC, ← hD] at HS
  rw [hZ]
  have HW1 := hide hW1
  have HR := hide (Below.refl W1.heap.size W1)
  obtain ⟨⟨p0, p1, p2, p3, p4, p5, p6⟩, ⟨q0, q1, q2, q3, q4, q5, q6⟩⟩ := hBx.out W1 HR.out
  have HSR := hide (HS.out W1 HR.out)
  clear hbW hzW hk7 hl7 hW1 hA hB hC hD hZ hk i1 i2 j1 j2
  go_enter Tryz.func105, Tryz.ntmps105
  go_wp2_with fail
  rw [← HW1.out]
  refine HSR.out.1.mono ?_
  rintro e w1 ⟨rfl, hb1⟩
  have Hb1 := hide hb1
  clear hb1 HW1 p0 p1 p2 p3 p4 p5 p6 q0 q1 q2 q3 q4 q5 q6 HSR HR
  obtain ⟨⟨p0, p1, p2, p3, p4, p5, p6⟩, ⟨q0, q1, q2, q3, q4, q5, q6⟩⟩ := hBx.out w1 Hb1.out
  have HS1 := hide (HS.out w1 Hb1.out)
  cases A with
  | true =>
    go_wp2_with fail
    refine HS1.out.2.1.mono ?_
    rintro e w2 ⟨rfl, hb2⟩
    have Hb2 := hide (Hb1.out.trans (hb2.mono Hb1.out.size))
    clear hb2 HS1 p0 p1 p2 p3 p4 p5 p6 q0 q1 q2 q3 q4 q5 q6
    obtain ⟨⟨p0, p1, p2, p3, p4, p5, p6⟩, ⟨q0, q1, q2, q3, q4, q5, q6⟩⟩ := hBx.out w2 Hb2.out
    have HS2 := hide (HS.out w2 Hb2.out)
    cases B with
    | true =>
      have Hf := hide (HF.out _ Hb2.out)
      go_wp2_with fail
      go_ret
      exact ⟨rfl, Hf.out⟩
    | false =>
      go_wp2_with fail
      refine HS2.out.2.2.1.mono ?_
      rintro e w8 ⟨rfl, hb8⟩
      have Hb8 := hide (Hb2.out.trans (hb8.mono Hb2.out.size))
      clear hb8 HS2 p0 p1 p2 p3 p4 p5 p6 q0 q1 q2 q3 q4 q5 q6
      obtain ⟨⟨p0, p1, p2, p3, p4, p5, p6⟩, ⟨q0, q1, q2, q3, q4, q5, q6⟩⟩ := hBx.out w8 Hb8.out
      have HS8 := hide (HS.out w8 Hb8.out)
      cases C with
      | false =>
        have Hf := hide (HF.out _ Hb8.out)
        go_wp2_with fail
        go_ret
        exact ⟨rfl, Hf.out⟩
      | true =>
        go_wp2_with fail
        refine HS8.out.2.2.2.mono ?_
        rintro e w9 ⟨rfl, hb9⟩
        have Hf := hide (HF.out _ (Hb8.out.trans (hb9.mono Hb8.out.size)))
        clear hb9 HS8
        go_wp2_with fail
        go_ret
        exact ⟨by simp, Hf.out⟩
  | false =>
    go_wp2_with fail
    refine HS1.out.2.2.1.mono ?_
    rintro e w8 ⟨rfl, hb8⟩
    have Hb8 := hide (Hb1.out.trans (hb8.mono Hb1.out.size))
    clear hb8 HS1 p0 p1 p2 p3 p4 p5 p6 q0 q1 q2 q3 q4 q5 q6
    obtain ⟨⟨p0, p1, p2, p3, p4, p5, p6⟩, ⟨q0, q1, q2, q3, q4, q5, q6⟩⟩ := hBx.out w8 Hb8.out
    have HS8 := hide (HS.out w8 Hb8.out)
    cases C with
    | false =>
      have Hf := hide (HF.out _ Hb8.out)
      go_wp2_with fail
      go_ret
      exact ⟨rfl, Hf.out⟩
    | true =>
      go_wp2_with fail
      refine HS8.out.2.2.2.mono ?_
      rintro e w9 ⟨rfl, hb9⟩
      have Hf := hide (HF.out _ (Hb8.out.trans (hb9.mono Hb8.out.size)))
      clear hb9 HS8
      go_wp2_with fail
      go_ret
      exact ⟨by simp, Hf.out⟩
set_option maxRecDepth 100000 in
set_option maxHeartbeats 400000 in
theorem indexF_any {F : Nat} {P : Value} {p : Lit → Bool} (c : List Lit) (ca : Option Addr) (cc : Nat) (w : World) (hl : c.length ≤ 100000) (heg : ∀ (args : Array Value) (w : World), (callFunc F args).run Tryz.prog w = .ok (.enter F args) w)
    (hF : ∀ (w' : World) (x : Lit) (a1 : Option Addr) (c1 : Nat) (a2 : Option Addr) (c2 : Nat), Below w.heap.size w w' → x ∈ c → InL w' x.2.1.args a1 → InL w' x.2.2.args a2 → Calls Tryz.prog F #[litV x a1 c1 a2 c2, P] w' fun e w'' => e = .returned (.bool (p x)) ∧ Below w'.heap.size w' w'') (hc : LitsP w c ca) :
    Calls Tryz.prog 106 #[.slice ca c.length cc, .func (.func F) #[] #[P]] w fun e w' => (∃ i : Int, e = .returned (.int .i64 i) ∧ decide (0 ≤ i) = c.any p) ∧ Below w.heap.size w w' := by
  have Hc := hide hc
  have HFF := hide hF
  clear hc hF
  go_enter Tryz.func106, Tryz.ntmps106
  go_wp2_with fail
  go_loopw [8] (fun i wr => ∃ k : Nat, k ≤ c.length ∧ i = .int .i64 k ∧ Hid ((c.take k).any p = false) ∧ Hid (Below w.heap.size w wr)) (fun i _ => c.length - (intOf i).toNat)
  case atStart => exact ⟨0, Nat.zero_le _, rfl, rfl, Below.refl _ _⟩
  case round =>
    obtain ⟨k, hk, rfl, Hk, Hbr⟩ := hrel
    by_cases hlt : k < c.length
    · obtain ⟨cb, coff, rfl⟩ := LitsP_some Hc.out (by omega)
      obtain ⟨x, hx⟩ : ∃ x, c[k]? = some x := ⟨c[k], List.getElem?_eq_getElem hlt⟩
      obtain ⟨a1, c1, a2, c2, k0, k1, k2, k3, k4, k5, k6, hi1, hi2⟩ := LitsP_at (LitsP_below Hbr.out Hc.out) hx
      have Hst := hide (any_litS (p := p) hx Hk.out)
      have HC := hide (HFF.out wr x a1 c1 a2 c2 Hbr.out (List.mem_of_getElem? hx) hi1 hi2)
      have hI : (k : Int) < c.length := by omega
      have hk0 : (0 : Int) ≤ k := by omega
      clear hx hi1 hi2 Hk
      go_wp2_with fail
      refine HC.out.mono ?_
      rintro e w' ⟨rfl, hb'⟩
      have Hb' := hide (Hbr.out.trans (hb'.mono Hbr.out.size))
      clear hb' HC k0 k1 k2 k3 k4 k5 k6
      cases hd : p x with
      | false =>
        have Hn := hide (Hst.out.1 hd)
        clear Hst hd
        go_wp2_with fail
        go_roundw
        case rel => exact ⟨k + 1, by omega, by go_num, Hn, Hb'⟩
        case measure => simp [intOf]; omega
      | true =>
        have Hn := hide (Hst.out.2 hd)
        clear Hst hd
        go_wp2_with fail
        go_ret
        exact ⟨⟨k, rfl, by rw [Hn.out]; simp⟩, Hb'.out⟩
    · have hk2 : k = c.length := by omega
      subst hk2
      rw [List.take_length] at Hk
      go_wp2_with fail
      go_ret
      exact ⟨⟨-1, rfl, by rw [Hk.out]; rfl⟩, Hbr.out⟩
set_option maxRecDepth 100000 in
set_option maxHeartbeats 400000 in
theorem containsF_any {F : Nat} {P : Value} {p : Lit → Bool} (c : List Lit) (ca : Option Addr) (cc : Nat) (w : World) (hl : c.length ≤ 100000) (heg : ∀ (args : Array Value) (w : World), (callFunc F args).run Tryz.prog w = .ok (.enter F args) w)
    (hF : ∀ (w' : World) (x : Lit) (a1 : Option Addr) (c1 : Nat) (a2 : Option Addr) (c2 : Nat), Below w.heap.size w w' → x ∈ c → InL w' x.2.1.args a1 → InL w' x.2.2.args a2 → Calls Tryz.prog F #[litV x a1 c1 a2 c2, P] w' fun e w'' => e = .returned (.bool (p x)) ∧ Below w'.heap.size w' w'') (hc : LitsP w c ca) :
    Calls Tryz.prog 44 #[.slice ca c.length cc, .func (.func F) #[] #[P]] w fun e w' => e = .returned (.bool (c.any p)) ∧ Below w.heap.size w w' := by
  have HX := hide (indexF_any c ca cc w hl heg hF hc)
  clear hF hc heg
  go_enter Tryz.func44, Tryz.ntmps44
  go_wp2_with fail
  refine HX.out.mono ?_
  rintro e w' ⟨⟨i, rfl, hi⟩, hb'⟩
  have Hi := hide hi
  have Hb := hide hb'
  clear hi hb'
  go_wp2_with fail
  go_ret
  exact ⟨ret_bool Hi.out, Hb.out⟩
theorem eg104 (args : Array Value) (w : World) : (callFunc 104 args).run Tryz.prog w = .ok (.enter 104 args) w := by kernel_rfl
set_option maxRecDepth 100000 in
set_option maxHeartbeats 1000000 in
theorem neededC_any (k l : Lit) (a1 : Option Addr) (c1 : Nat) (a2 : Option Addr) (c2 : Nat) (b1 : Option Addr) (d1 : Nat) (b2 : Option Addr) (d2 bl : Nat) (w : World) (hk : LitSz k) (i1 : InL w k.2.1.args a1) (i2 : InL w k.2.2.args a2) (hl7 : L7 w bl 0 l b1 d1 b2 d2) (j1 : InL w l.2.1.args b1) (j2 : InL w l.2.2.args b2) :
    Calls Tryz.prog 104 #[litV k a1 c1 a2 c2, .pointer (some ⟨bl, 0, none⟩)] w fun e w' => e = .returned (.bool (sameLit k l)) ∧ Below w.heap.size w w' := by
  obtain ⟨W1, hW1⟩ : ∃ W1, W1 = w.alloc (.cells #[.bool k.1, .int .i64 k.2.1.v, .int .i64 k.2.1.f, .slice a1 k.2.1.args.length c1, .int .i64 k.2.2.v, .int .i64 k.2.2.f, .slice a2 k.2.2.args.length c2] 79) := ⟨_, rfl⟩
  have hbW : Below w.heap.size w W1 := by rw [hW1]; exact below1 _ _
  have hk7 : L7 W1 w.heap.size 0 k a1 c1 a2 c2 := by rw [hW1]; exact L7.new _ rfl
  have hl7' := hl7.below hbW
  have HS := hide (sameSides_any k l a1 c1 a2 c2 b1 d1 b2 d2 W1 hk (InP_below hbW i1) (InP_below hbW i2) (InP_below hbW j1) (InP_below hbW j2))
  have HW1 := hide hW1
  have HbW := hide hbW
  obtain ⟨p0, p1, p2, p3, p4, p5, p6⟩ := hk7
  obtain ⟨q0, q1, q2, q3, q4, q5, q6⟩ := hl7'
  obtain ⟨Z, hZ⟩ : ∃ Z, Z = sameS k l := ⟨_, rfl⟩
  have hS : sameLit k l = (k.1 == l.1 && Z) := by rw [sameLit, ← hZ]
  rw [hS]
  rw [← hZ] at HS
  have hld := hl7.e0
  have hlx := lt_of_cell hld
  rw [hW1] at p0 p1 p2 p3 p4 p5 p6 q0 q1 q2 q3 q4 q5 q6
  clear hW1 hbW hl7 hS hZ hk i1 i2 j1 j2 hld
  go_enter Tryz.func104, Tryz.ntmps104
  cases e1 : (k.1 == l.1) with
  | true =>
    go_wp2_with fail
    rw [← HW1.out]
    refine HS.out.mono ?_
    rintro e w1 ⟨rfl, hb1⟩
    have Hf := hide (HbW.out.trans (hb1.mono HbW.out.size))
    clear hb1 HS
    go_wp2_with fail
    go_ret
    exact ⟨by simp, Hf.out⟩
  | false =>
    go_wp2_with fail
    go_ret
    rw [← HW1.out]
    exact ⟨by simp, HbW.out⟩
theorem seven_add {w : World} {v0 v1 v2 v3 v4 v5 v6 : Value} {e : TypeId} {n : Nat} (hn : n = w.heap.size) : ∀ (j : Nat) (u : Value), [v0, v1, v2, v3, v4, v5, v6][j]? = some u →
    (w.alloc (.cells #[v0, v1, v2, v3, v4, v5, v6] e)).cell? ((⟨n, 0, none⟩ : Addr).add j) = some u := by
  intro j u hu
  have e1 : (⟨n, 0, none⟩ : Addr).add j = ⟨n, j, none⟩ := by simp [Addr.add]; omega
  rw [e1, cell_new j hn]
  simpa using hu
def keepL (acc : List Lit) (l : Lit) : Bool := !(acc.any (fun k => sameLit k l)) && (l.1 || !sameT l.2.1 l.2.2)
def needS : List Lit → List Lit → List Lit
  | acc, [] => acc
  | acc, l :: r => needS (if keepL acc l then acc ++ [l] else acc) r
theorem needS_step {acc c : List Lit} {k : Nat} {x : Lit} (hx : c[k]? = some x) : needS acc (c.drop k) = needS (if keepL acc x then acc ++ [x] else acc) (c.drop (k + 1)) := by
  have hlt := (List.getElem?_eq_some_iff.1 hx).1
  rw [List.drop_eq_getElem_cons hlt]
  have := (List.getElem?_eq_some_iff.1 hx).2
  rw [this, needS]
theorem need_mem : ∀ {c acc : List Lit} {x : Lit}, x ∈ needS acc c → x ∈ acc ∨ x ∈ c := by
  intro c
  induction c with
  | nil => intro acc x h; exact Or.inl h
  | cons l r ih =>
    intro acc x h
    rcases ih h with h1 | h1
    · split at h1
      · rcases List.mem_append.1 h1 with h2 | h2
        · exact Or.inl h2
        · simp at h2; subst h2; exact Or.inr List.mem_cons_self
      · exact Or.inl h1
    · exact Or.inr (List.mem_cons_of_mem _ h1)
theorem need_len : ∀ {c acc : List Lit}, (needS acc c).length ≤ acc.length + c.length := by
  intro c
  induction c with
  | nil => intro acc; exact Nat.le_refl _
  | cons l r ih =>
    intro acc
    have := ih (acc := if keepL acc l then acc ++ [l] else acc)
    rw [needS, List.length_cons]
    split at this
    · rename_i h; rw [if_pos h]; rw [List.length_append, List.length_singleton] at this; omega
    · rename_i h; rw [if_neg h]; omega
set_option maxRecDepth 100000 in
set_option maxHeartbeats 2000000 in
theorem needed_any (c : List Lit) (ca : Option Addr) (cc : Nat) (w : World) (hl : c.length ≤ 1000) (hsz : ∀ x, x ∈ c → LitSz x) (hc : LitsP w c ca) :
    Calls Tryz.prog 43 #[.slice ca c.length cc] w fun e w' => ∃ a cap, e = .returned (.slice a (needS [] c).length cap) ∧ LitsQ (fun _ => True) w' (needS [] c) a ∧ Below w.heap.size w w' := by
  obtain ⟨ti, hi, hzz⟩ := Option.map_eq_some_iff.1 Tryz.info79
  simp only [Prod.mk.injEq] at hzz
  obtain ⟨hz0, hz1, hz2⟩ := hzz
  have Hc := hide hc
  have Hsz := hide hsz
  clear hc hsz
  go_enter Tryz.func43, Tryz.ntmps43
  go_wp2_with fail
  go_loopw [3, 9] (fun l i wr => ∃ (k : Nat) (acc : List Lit), k ≤ c.length ∧ i = .int .i64 k ∧ acc.length ≤ k ∧ Hid (needS acc (c.drop k) = needS [] c) ∧ Hid (∀ x, x ∈ acc → x ∈ c) ∧ OutsL (fun j => j < w.heap.size) w.heap.size wr l acc ∧ Grw w wr none l.ownBlock) (fun _ i _ => c.length - (intOf i).toNat)
  case atStart => exact ⟨0, [], Nat.zero_le _, rfl, Nat.le_refl _, rfl, (fun x hx => by cases hx), OutsL_nil, Grw.refl _ _⟩
  case round =>
    obtain ⟨k, acc, hk, rfl, hacc, HN, Hm, hout, hgrw⟩ := hrel
    have Hout := hide hout
    have Hgrw := hide hgrw
    have hzr := hgrw.gr.size
    have HbR : Hid (Below w.heap.size w wr) := hgrw.below (Nat.le_refl _) (fun g hg => by cases hg)
    clear hout hgrw
    by_cases hlt : k < c.length
    · obtain ⟨x, hx⟩ : ∃ x, c[k]? = some x := ⟨c[k], List.getElem?_eq_getElem hlt⟩
      obtain ⟨b, off, rfl⟩ := LitsP_some Hc.out (by omega)
      obtain ⟨a1, c1, a2, c2, _, k0, k1, k2, k3, k4, k5, k6, i1, i2⟩ := LitsQ_at (LitsQ_below HbR.out (LitsP_lt Hc.out)) hx
      have hkI : (k : Int) < c.length := by omega
      have hk0 : (0 : Int) ≤ k := by omega
      have HN2 := hide (needS_step (acc := acc) hx)
      have Hxc := hide (List.mem_of_getElem? hx)
      obtain ⟨W1, hW1⟩ : ∃ W1, W1 = wr.alloc (.cells #[.bool x.1, .int .i64 x.2.1.v, .int .i64 x.2.1.f, .slice a1 x.2.1.args.length c1, .int .i64 x.2.2.v, .int .i64 x.2.2.f, .slice a2 x.2.2.args.length c2] 79) := ⟨_, rfl⟩
      have HW1 := hide hW1
      have hbW : Below wr.heap.size wr W1 := by rw [hW1]; exact below1 _ _
      have hx7 : L7 W1 wr.heap.size 0 x a1 c1 a2 c2 := by rw [hW1]; exact L7.new _ rfl
      obtain ⟨la, lc, hla, hlq⟩ := OutsL_end (OutsL_below Hout.out hbW)
      have Hix1 := hide (InP_imp (q := fun _ => True) (fun _ _ => trivial) i1)
      have Hix2 := hide (InP_imp (q := fun _ => True) (fun _ _ => trivial) i2)
      have HC := hide (containsF_any (F := 104) (P := .pointer (some ⟨wr.heap.size, 0, none⟩)) (p := fun k => sameLit k x) acc la lc W1 (by omega) eg104 (fun w' y b1 d1 b2 d2 hb' hy hj1 hj2 => neededC_any y x b1 d1 b2 d2 a1 c1 a2 c2 wr.heap.size w' (Hsz.out y (Hm.out y hy)) hj1 hj2 (hx7.below hb') (InP_below (hbW.trans (hb'.mono hbW.size)) Hix1.out) (InP_below (hbW.trans (hb'.mono hbW.size)) Hix2.out)) (LitsQ_lits hlq))
      have Hq1 := hide i1
      have Hq2 := hide i2
      subst hla
      obtain ⟨A, hA⟩ : ∃ A, A = acc.any (fun k => sameLit k x) := ⟨_, rfl⟩
      obtain ⟨S, hS⟩ : ∃ S, S = sameT x.2.1 x.2.2 := ⟨_, rfl⟩
      have HKp : Hid (keepL acc x = (!A && (x.1 || !S))) := by show _ = _; rw [keepL, ← hA, ← hS]
      rw [← hA] at HC
      have HT := hide (fun (w' : World) (hb' : Below W1.heap.size W1 w') => treeSame_any x.2.1.sz x.2.1 x.2.2 a1 c1 a2 c2 w' (Nat.le_refl _) (Hsz.out x Hxc.out).1 (InP_below (hbW.trans (hb'.mono hbW.size)) Hix1.out) (InP_below (hbW.trans (hb'.mono hbW.size)) Hix2.out))
      rw [← hS] at HT
      have Hx7 := hide (fun (w' : World) (hb' : Below W1.heap.size W1 w') => hx7.below hb')
      have HbW := hide hbW
      have hbl : b < wr.heap.size := by have := lt_of_cell k0; exact this
      clear hW1 hA hS hx hbW hx7 hlq i1 i2
      go_wp2_with fail
      rw [← HW1.out]
      refine HC.out.mono ?_
      rintro e w1 ⟨rfl, hb1⟩
      have Hb1 := hide hb1
      have HB1 := hide (HbW.out.trans (hb1.mono HbW.out.size))
      have Hout1 := hide (OutsL_below Hout.out HB1.out)
      have Hg1 := hide (Hgrw.out.trans (Grw.of_below _ HB1.out))
      obtain ⟨p0, p1, p2, p3, p4, p5, p6⟩ := Hx7.out w1 hb1
      clear hb1 HC k0 k1 k2 k3 k4 k5 k6 HW1
      have HNy : Hid (keepL acc x = true → needS (acc ++ [x]) (c.drop (k + 1)) = needS [] c) := fun h => by
        have h9 := HN2.out
        rw [if_pos h] at h9
        rw [← h9]; exact HN.out
      have HNn : Hid (keepL acc x = false → needS acc (c.drop (k + 1)) = needS [] c) := fun h => by
        have h9 := HN2.out
        rw [h, if_neg (by simp)] at h9
        rw [← h9]; exact HN.out
      have Hmy : Hid (∀ y, y ∈ acc ++ [x] → y ∈ c) := fun y hy => by
        rcases List.mem_append.1 hy with h | h
        · exact Hm.out y h
        · simp at h; subst h; exact Hxc.out
      clear HN2 HN
      cases A with
      | true =>
        have HNn2 := hide (HNn.out (by rw [HKp.out]; rfl))
        clear HKp HNn HNy
        go_wp2_with fail
        go_roundw
        case rel => exact ⟨k + 1, acc, by omega, by go_num, by omega, HNn2, Hm, Hout1.out, Hg1.out⟩
        case measure => simp [intOf]; omega
      | false =>
        cases hxb : x.1 with
        | true =>
          rw [hxb] at p0
          have HNy2 := hide (HNy.out (by rw [HKp.out, hxb]; rfl))
          have HoutA := hide Hout1.out
          have HBA := hide (HbR.out.trans (HB1.out.mono HbR.out.size))
          have HgA := hide Hg1.out
          clear HKp HNn HNy Hout1 Hg1
          obtain ⟨xs, hownL, hkids⟩ := HoutA.out
          have HO := hide (fun o1 => own_same hownL (w' := w1.alloc o1) (fun g hg => (below1 w1 o1).block g (own_lt hownL g hg).2))
          have HC1 : Hid (InP (fun k' => (k' < w.heap.size ∨ w.heap.size ≤ k') ∧ (Value.slice la acc.length lc).ownBlock ≠ some k') w1 x.2.1.args a1) := InP_imp (fun k' hk' => ⟨Or.inl hk', fun e => by have h9 := (own_lt hownL k' e).1; have h8 : k' < w.heap.size := hk'; omega⟩) (InP_below HB1.out Hq1.out)
          have HC2 : Hid (InP (fun k' => (k' < w.heap.size ∨ w.heap.size ≤ k') ∧ (Value.slice la acc.length lc).ownBlock ≠ some k') w1 x.2.2.args a2) := InP_imp (fun k' hk' => ⟨Or.inl hk', fun e => by have h9 := (own_lt hownL k' e).1; have h8 : k' < w.heap.size := hk'; omega⟩) (InP_below HB1.out Hq2.out)
          have hzA := HBA.out.size
          go_wp2_with (at_builtin
                       go_must (refine wpList_append_lies _ rfl (.tmp 30) (.tmp 32) 26 rfl w.heap.size 79 ti (.agg #[.bool false, .int .i64 0, .int .i64 0, .slice none 0 0, .int .i64 0, .int .i64 0, .slice none 0 0]) 7 88 Go.Proofs.Tryz.underlying26 hi hz0 hz1 hz2 rfl (by decide) (.slice la acc.length lc) acc.length xs rfl (HO.out _) ⟨w1.heap.size, 0, none⟩ 1 1 [.bool true, .int .i64 x.2.1.v, .int .i64 x.2.1.f, .slice a1 x.2.1.args.length c1, .int .i64 x.2.2.v, .int .i64 x.2.2.f, .slice a2 x.2.2.args.length c2] rfl rfl (seven_add (by first | rfl | simp)) (by simp [Value.oneCell']) (by decide) (by unfold maxLen; omega) (by omega) (by simp; omega) _ rfl ?_)
                       intro g capg w3 hown3 hgr3 hat3 hlt3)
          have hO3 := OutsL_step (x := x) (KidsL_mono (fun k' hk' hlt' => ⟨hk', (below1 w1 _).block k' hlt'⟩) hkids) (InP_alloc _ HC1.out) (InP_alloc _ HC2.out) (by rw [hxb]; exact hown3) hgr3 (hat3.imp id (fun h => by rw [h]))
          have hG3 : Grw w w3 none (Value.slice (some ⟨g, 0, none⟩) (acc.length + 1) capg).ownBlock := HgA.out.trans ((Grw.of_below _ (below1 _ _)).trans ⟨hgr3, by
            rcases hat3 with h | h
            · exact Or.inl h.symm
            · exact Or.inr ⟨g, rfl, by rw [h]; simp⟩⟩)
          go_roundw
          case rel => exact ⟨k + 1, acc ++ [x], by omega, by go_num, by simp; omega, HNy2, Hmy, hO3, hG3⟩
          case measure => simp [intOf]; omega
        | false =>
          rw [hxb] at p0
          have HT1 := hide (HT.out w1 Hb1.out)
          go_wp2_with fail
          refine HT1.out.mono ?_
          rintro e w2 ⟨rfl, hb2⟩
          have Hb2 := hide (Hb1.out.trans (hb2.mono Hb1.out.size))
          have HB2 := hide (HB1.out.trans (hb2.mono HB1.out.size))
          have Hout2 := hide (OutsL_below Hout1.out hb2)
          have Hg2 := hide (Hg1.out.trans (Grw.of_below _ hb2))
          clear hb2 HT1 p0 p1 p2 p3 p4 p5 p6 Hout1 Hg1
          cases S with
          | true =>
            have HNn2 := hide (HNn.out (by rw [HKp.out, hxb]; rfl))
            clear HKp HNn HNy
            go_wp2_with fail
            go_roundw
            case rel => exact ⟨k + 1, acc, by omega, by go_num, by omega, HNn2, Hm, Hout2.out, Hg2.out⟩
            case measure => simp [intOf]; omega
          | false =>
            obtain ⟨p0, p1, p2, p3, p4, p5, p6⟩ := Hx7.out w2 Hb2.out
            rw [hxb] at p0
            have HNy2 := hide (HNy.out (by rw [HKp.out, hxb]; rfl))
            have HoutA := hide Hout2.out
            have HBA := hide (HbR.out.trans (HB2.out.mono HbR.out.size))
            have HgA := hide Hg2.out
            clear HKp HNn HNy Hout2 Hg2
            obtain ⟨xs, hownL, hkids⟩ := HoutA.out
            have HO := hide (fun o1 => own_same hownL (w' := w2.alloc o1) (fun g hg => (below1 w2 o1).block g (own_lt hownL g hg).2))
            have HC1 : Hid (InP (fun k' => (k' < w.heap.size ∨ w.heap.size ≤ k') ∧ (Value.slice la acc.length lc).ownBlock ≠ some k') w2 x.2.1.args a1) := InP_imp (fun k' hk' => ⟨Or.inl hk', fun e => by have h9 := (own_lt hownL k' e).1; have h8 : k' < w.heap.size := hk'; omega⟩) (InP_below HB2.out Hq1.out)
            have HC2 : Hid (InP (fun k' => (k' < w.heap.size ∨ w.heap.size ≤ k') ∧ (Value.slice la acc.length lc).ownBlock ≠ some k') w2 x.2.2.args a2) := InP_imp (fun k' hk' => ⟨Or.inl hk', fun e => by have h9 := (own_lt hownL k' e).1; have h8 : k' < w.heap.size := hk'; omega⟩) (InP_below HB2.out Hq2.out)
            have hzA := HBA.out.size
            go_wp2_with (at_builtin
                         go_must (refine wpList_append_lies _ rfl (.tmp 30) (.tmp 32) 26 rfl w.heap.size 79 ti (.agg #[.bool false, .int .i64 0, .int .i64 0, .slice none 0 0, .int .i64 0, .int .i64 0, .slice none 0 0]) 7 88 Go.Proofs.Tryz.underlying26 hi hz0 hz1 hz2 rfl (by decide) (.slice la acc.length lc) acc.length xs rfl (HO.out _) ⟨w2.heap.size, 0, none⟩ 1 1 [.bool false, .int .i64 x.2.1.v, .int .i64 x.2.1.f, .slice a1 x.2.1.args.length c1, .int .i64 x.2.2.v, .int .i64 x.2.2.f, .slice a2 x.2.2.args.length c2] rfl rfl (seven_add (by first | rfl | simp)) (by simp [Value.oneCell']) (by decide) (by unfold maxLen; omega) (by omega) (by simp; omega) _ rfl ?_)
                         intro g capg w3 hown3 hgr3 hat3 hlt3)
            have hO3 := OutsL_step (x := x) (KidsL_mono (fun k' hk' hlt' => ⟨hk', (below1 w2 _).block k' hlt'⟩) hkids) (InP_alloc _ HC1.out) (InP_alloc _ HC2.out) (by rw [hxb]; exact hown3) hgr3 (hat3.imp id (fun h => by rw [h]))
            have hG3 : Grw w w3 none (Value.slice (some ⟨g, 0, none⟩) (acc.length + 1) capg).ownBlock := HgA.out.trans ((Grw.of_below _ (below1 _ _)).trans ⟨hgr3, by
              rcases hat3 with h | h
              · exact Or.inl h.symm
              · exact Or.inr ⟨g, rfl, by rw [h]; simp⟩⟩)
            go_roundw
            case rel => exact ⟨k + 1, acc ++ [x], by omega, by go_num, by simp; omega, HNy2, Hmy, hO3, hG3⟩
            case measure => simp [intOf]; omega
    · have hk2 : k = c.length := by omega
      subst hk2
      rw [List.drop_length, needS] at HN
      have hacc2 : acc = needS [] c := HN.out
      obtain ⟨la, lc, rfl, hlq⟩ := OutsL_end Hout.out
      rw [hacc2] at hlq
      have Hlq := hide (LitsQ_imp (q := fun _ => True) (fun _ _ => trivial) hlq)
      rw [hacc2]
      clear HN hlq Hout hacc2
      go_wp2_with fail
      go_ret
      exact ⟨la, lc, rfl, Hlq.out, HbR.out⟩
end Go.Proofs.YtbkedppkdhfpoabGreat

namespace Go.Proofs.YtbkedppkdhfpoabGreat
open Go.RowKit
abbrev trm (t : T) (a : Option Addr) (cap : Nat) : Value := .agg #[.int .i64 t.v, .int .i64 t.f, .slice a t.args.length cap]
def side1 (x : Lit) (tu : Bool) : T := if tu then x.2.2 else x.2.1
def side2 (x : Lit) (tu : Bool) : T := if tu then x.2.1 else x.2.2
attribute [local go_sem ↓] Go.wp_at_zero Go.wp_at_succ
set_option maxRecDepth 100000 in
set_option maxHeartbeats 1000000 in
theorem sides_any (x : Lit) (a1 : Option Addr) (c1 : Nat) (a2 : Option Addr) (c2 : Nat) (tu : Bool) (w : World) : Calls Tryz.prog 134 #[litV x a1 c1 a2 c2, .bool tu] w fun e w' =>
    e = .returned (.tuple #[trm (side1 x tu) (if tu then a2 else a1) (if tu then c2 else c1), trm (side2 x tu) (if tu then a1 else a2) (if tu then c1 else c2)]) ∧ Below w.heap.size w w' := by
  cases tu with
  | true =>
    go_enter Tryz.func134, Tryz.ntmps134
    go_wp2_with fail
    go_region
    all_goals
      go_wp2_with fail
      refine bodyPost_ret (v := .tuple #[trm x.2.2 a2 c2, trm x.2.1 a1 c1]) (by simp [results, Tryz.results134, go_sem]) rfl ⟨rfl, ?_⟩
      exact (below3 _ _ _ _).drew
  | false =>
    go_enter Tryz.func134, Tryz.ntmps134
    go_wp2_with fail
    go_region
    all_goals
      go_wp2_with fail
      refine bodyPost_ret (v := .tuple #[trm x.2.1 a1 c1, trm x.2.2 a2 c2]) (by simp [results, Tryz.results134, go_sem]) rfl ⟨rfl, ?_⟩
      exact (below3 _ _ _ _).drew
theorem atT_take {t u : T} {p : List Int} (h : atT t p = some u) {k : Nat} (hk : k < p.length) : ∃ x y, atT t (p.take k) = some x ∧ 0 ≤ p.getD k 0 ∧ p.getD k 0 < x.args.length ∧ x.args[(p.getD k 0).toNat]? = some y ∧ atT t (p.take (k + 1)) = some y := by
  have hp : p = p.take k ++ (p.getD k 0 :: p.drop (k + 1)) := by
    rw [List.getD_eq_getElem?_getD, List.getElem?_eq_getElem hk]
    simp
  rw [hp, atT_append] at h
  cases hx : atT t (p.take k) with
  | none => rw [hx] at h; cases h
  | some x =>
    rw [hx] at h
    have h2 : atT x (p.getD k 0 :: p.drop (k + 1)) = some u := h
    rw [atT] at h2
    by_cases hi : 0 ≤ p.getD k 0 ∧ p.getD k 0 < x.args.length
    · rw [if_pos hi] at h2
      cases hy : x.args[(p.getD k 0).toNat]? with
      | none => rw [hy] at h2; cases h2
      | some y =>
        refine ⟨x, y, rfl, hi.1, hi.2, hy, ?_⟩
        have : p.take (k + 1) = p.take k ++ [p.getD k 0] := by
          rw [List.take_add_one, List.getD_eq_getElem?_getD, List.getElem?_eq_getElem hk]; rfl
        rw [this, atT_append, hx]
        show atT x [p.getD k 0] = _
        rw [atT, if_pos hi, hy]
        rfl
    · rw [if_neg hi] at h2; cases h2
set_option maxRecDepth 100000 in
set_option maxHeartbeats 1000000 in
theorem part_any (t u : T) (a : Option Addr) (cap : Nat) (place : List Int) (pa : Option Addr) (pc : Nat) (w : World) (hat : atT t place = some u) (hl : place.length ≤ 100000) (hin : InL w t.args a) (hp : Ints w place pa) :
    Calls Tryz.prog 135 #[trm t a cap, .slice pa place.length pc] w fun e w' => ∃ a1 c1, e = .returned (trm u a1 c1) ∧ InL w' u.args a1 ∧ Below w.heap.size w w' := by
  obtain ⟨W1, hW1⟩ : ∃ W1, W1 = (w.alloc (.cells #[.int .i64 t.v, .int .i64 t.f, .slice a t.args.length cap] 77)).alloc (.cells #[.int .i64 0, .int .i64 0, .slice none 0 0] 77) := ⟨_, rfl⟩
  have hbW : Below w.heap.size w W1 := by rw [hW1]; exact below2 _ _ _
  have hzW : W1.heap.size = w.heap.size + 2 := by rw [hW1]; simp
  have h3t : Three W1 w.heap.size (.int .i64 t.v) (.int .i64 t.f) (.slice a t.args.length cap) := by rw [hW1]; exact (Three.new _ rfl).alloc _
  have h3r : Three W1 (w.heap.size + 1) (.int .i64 0) (.int .i64 0) (.slice none 0 0) := by rw [hW1]; exact Three.new _ (by simp)
  have HW1 := hide hW1
  have HinQ := hide (InP_imp (q := fun k => k < w.heap.size) (fun _ h => h.2) (InP_lt hin))
  have Hp := hide hp
  have Hat := hide hat
  have H0 : Hid (∃ a1 c1 x, atT t (place.take 0) = some x ∧ Three W1 w.heap.size (.int .i64 x.v) (.int .i64 x.f) (.slice a1 x.args.length c1) ∧ Three W1 (w.heap.size + 1) (.int .i64 0) (.int .i64 0) (.slice none 0 0) ∧ InP (fun k => k < w.heap.size) w x.args a1 ∧ Below w.heap.size w W1 ∧ W1.heap.size = w.heap.size + 2) :=
    ⟨a, cap, t, rfl, h3t, h3r, HinQ.out, hbW, hzW⟩
  obtain ⟨p0, p1, p2, _, _, _⟩ := h3t
  clear hW1 hbW hzW h3r hin hp hat
  go_enter Tryz.func135, Tryz.ntmps135
  go_wp2_with fail
  rw [← HW1.out]
  go_loopw [9] (fun i wr => ∃ k : Nat, k ≤ place.length ∧ i = .int .i64 (k : Int) ∧ Hid (∃ a1 c1 x, atT t (place.take k) = some x ∧ Three wr w.heap.size (.int .i64 x.v) (.int .i64 x.f) (.slice a1 x.args.length c1) ∧ Three wr (w.heap.size + 1) (.int .i64 0) (.int .i64 0) (.slice none 0 0) ∧ InP (fun k => k < w.heap.size) w x.args a1 ∧ Below w.heap.size w wr ∧ wr.heap.size = w.heap.size + 2)) (fun i _ => place.length - (intOf i).toNat)
  case atStart => exact ⟨0, Nat.zero_le _, rfl, H0⟩
  case round =>
    obtain ⟨k, hk, rfl, hinv⟩ := hrel
    obtain ⟨a1, c1, x, hx, h3x, h3r, hix, hbr, hzr⟩ := Hid.out hinv
    clear hinv
    by_cases hlt : k < place.length
    · obtain ⟨x', y, e1, i0, i1, hy, e2⟩ := atT_take Hat.out hlt
      rw [hx] at e1; cases e1
      obtain ⟨pb, poff, rfl, hcell⟩ := Ints_some (Ints_below hbr Hp.out) (by omega)
      have hck := hcell k hlt
      obtain ⟨i, hi⟩ : ∃ i, i = place.getD k 0 := ⟨_, rfl⟩
      rw [← hi] at hck i0 i1 hy
      obtain ⟨j, hj⟩ := Int.eq_ofNat_of_zero_le i0
      rw [hj] at hck i1 hy
      have hy2 : x.args[j]? = some y := by simpa using hy
      obtain ⟨xb, xoff, rfl⟩ := InP_some hix (by have := (List.getElem?_eq_some_iff.1 hy2).1; omega)
      obtain ⟨a2, c2, _, k0, k1, k2, hiy⟩ := InP_at hix hy2
      obtain ⟨d0, d1, d2, f0, f1, f2⟩ := h3x
      have q0 := cell_below hbr k0
      have q1 := cell_below hbr k1
      have q2 := cell_below hbr k2
      have hxbl := lt_of_cell k0
      have hkI : (k : Int) < place.length := by omega
      have hk0 : (0 : Int) ≤ k := by omega
      have hj0 : (0 : Int) ≤ (j : Int) := by omega
      have HN : Hid (∃ a1 c1 x, atT t (place.take (k + 1)) = some x ∧ Three (set3 wr w.heap.size 0 (.int .i64 y.v) (.int .i64 y.f) (.slice a2 y.args.length c2)) w.heap.size (.int .i64 x.v) (.int .i64 x.f) (.slice a1 x.args.length c1) ∧ Three (set3 wr w.heap.size 0 (.int .i64 y.v) (.int .i64 y.f) (.slice a2 y.args.length c2)) (w.heap.size + 1) (.int .i64 0) (.int .i64 0) (.slice none 0 0) ∧ InP (fun k => k < w.heap.size) w x.args a1 ∧ Below w.heap.size w (set3 wr w.heap.size 0 (.int .i64 y.v) (.int .i64 y.f) (.slice a2 y.args.length c2)) ∧ (set3 wr w.heap.size 0 (.int .i64 y.v) (.int .i64 y.f) (.slice a2 y.args.length c2)).heap.size = w.heap.size + 2) :=
        ⟨a2, c2, y, e2, Three.set ⟨d0, d1, d2, f0, f1, f2⟩ _ _ _, h3r.same (set3_block (by omega)), hiy, below_set3 hbr (Nat.le_refl _) _ _ _, by rw [set3_size]; exact hzr⟩
      clear hcell hx hix hiy hy hy2 hi hj k0 k1 k2 hbr h3r e2 hzr
      go_wp2_with fail
      go_roundw
      case rel => exact ⟨k + 1, by omega, by go_num, HN⟩
      case measure => simp [intOf]; omega
    · have hk2 : k = place.length := by omega
      subst hk2
      rw [List.take_length, Hat.out] at hx
      cases hx
      obtain ⟨d0, d1, d2, _, _, _⟩ := h3x
      have Hres := hide (h3r.set (.int .i64 u.v) (.int .i64 u.f) (.slice a1 u.args.length c1))
      obtain ⟨r0, r1, r2, f0, f1, f2⟩ := h3r
      have Hfin : Hid (InL (set3 wr (w.heap.size + 1) 0 (.int .i64 u.v) (.int .i64 u.f) (.slice a1 u.args.length c1)) u.args a1 ∧ Below w.heap.size w (set3 wr (w.heap.size + 1) 0 (.int .i64 u.v) (.int .i64 u.f) (.slice a1 u.args.length c1))) := by
        have hb9 := below_set3 hbr (show w.heap.size ≤ w.heap.size + 1 by omega) (off := 0) (.int .i64 u.v) (.int .i64 u.f) (.slice a1 u.args.length c1)
        exact ⟨InP_imp (fun _ _ => trivial) (InP_below hb9 hix), hb9⟩
      clear hbr hix hzr
      go_wp2_with fail
      obtain ⟨z0, z1, z2, _, _, _⟩ := Hres.out
      simp only [set3, Nat.zero_add] at z0 z1 z2
      exact bodyPost_ret (v := trm u a1 c1) (by simp [results, Tryz.results135, go_sem, z0, z1, z2]) rfl ⟨a1, c1, rfl, Hfin.out⟩
def uniE (ar : List Int) (s t : T) : List (Int × T) × Int := ((unifyS ar s t).1, if (unifyS ar s t).2.2 = 0 then (if (unifyS ar s t).2.1 then 0 else 4) else (unifyS ar s t).2.2)
def BndOut (w w' : World) (r : List (Int × T) × Int) (e : Ending) : Prop := ∃ la lc, e = .returned (.tuple #[.slice la r.1.length lc, .int .i64 r.2]) ∧ Binds (fun k => w.heap.size ≤ k) w' r.1 la ∧ Below w.heap.size w w'
set_option maxRecDepth 100000 in
set_option maxHeartbeats 1000000 in
theorem unifyE_any (ar : List Int) (ga : Option Addr) (gcap : Nat) (s : T) (sa : Option Addr) (sc : Nat) (t : T) (ta : Option Addr) (tc : Nat) (w : World) (hg : Ints w ar ga) (hin : InL w s.args sa) (hin2 : InL w t.args ta) :
    Calls Tryz.prog 177 #[.agg #[.slice ga ar.length gcap], trm s sa sc, trm t ta tc] w fun e w' => BndOut w w' (uniE ar s t) e := by
  have HU := hide (fun o1 o2 o3 => UnifyS_any ar ga gcap s sa sc t ta tc (((w.alloc o1).alloc o2).alloc o3) (Ints_alloc o3 (Ints_alloc o2 (Ints_alloc o1 hg))) (InP_alloc o3 (InP_alloc o2 (InP_alloc o1 hin))) (InP_alloc o3 (InP_alloc o2 (InP_alloc o1 hin2))))
  obtain ⟨U, hU⟩ : ∃ U, U = unifyS ar s t := ⟨_, rfl⟩
  have hE : uniE ar s t = (U.1, if U.2.2 = 0 then (if U.2.1 then 0 else 4) else U.2.2) := by rw [uniE, ← hU]
  rw [← hU] at HU
  rw [hE]
  clear hg hin hin2 hU hE
  go_enter Tryz.func177, Tryz.ntmps177
  go_wp2_with fail
  refine (HU.out _ _ _).mono ?_
  rintro e w1 ⟨la, lc, rfl, hbs, hb1⟩
  have hz1 := hb1.size
  simp only [World.size_alloc] at hz1
  have Hb : Hid (Below w.heap.size w w1) := (below3 w _ _ _).trans (hb1.mono (by simp only [World.size_alloc]; omega))
  have Hbs : Hid (Binds (fun k => w.heap.size ≤ k) w1 U.1 la) := Binds_imp (fun k hk => by simp only [World.size_alloc] at hk; omega) hbs
  clear hbs hb1 HU
  by_cases h0 : U.2.2 = 0
  · have e0 : (U.2.2 == 0) = true := by simpa using h0
    cases h1 : U.2.1 with
    | true =>
      go_wp2_with fail
      go_ret2
      exact ⟨la, lc, by simp, Hbs.out, Hb.out⟩
    | false =>
      go_wp2_with fail
      go_ret2
      exact ⟨la, lc, by simp, Hbs.out, Hb.out⟩
  · have e0 : (U.2.2 == 0) = false := by simpa using h0
    go_wp2_with fail
    go_ret2
    exact ⟨la, lc, by simp, Hbs.out, Hb.out⟩
end Go.Proofs.YtbkedppkdhfpoabGreat
