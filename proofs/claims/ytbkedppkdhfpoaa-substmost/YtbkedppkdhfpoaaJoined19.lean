/- Rules, as they lie there; the program's Check of them. Which rule matches a part first, and what it makes of it: the program's closure. The first place at which a rule matches: arguments from the left ahead of what has them. No word of the program's memory here. The program's own check of bindings. The program's Apply: what it answers. -/
import Derived.Deep.RegionHeld3
import Derived.Test.YtbkedppkdhfpoaaJoined18
namespace Go.Proofs.Ytbkedppkdhfpoaa
open Go.RowKit

/-- Six cells a rule, and its terms behind them, in blocks of which p holds. -/
def RulesP (p : Nat → Prop) (w : World) : List (T × T) → Option Addr → Prop
  | [], _ => True
  | x :: rs, a => ∃ b off a1 c1 a2 c2, a = some ⟨b, off, none⟩ ∧ p b ∧ w.cell? ⟨b, off, none⟩ = some (.int .i64 x.1.v) ∧ w.cell? ⟨b, off + 1, none⟩ = some (.int .i64 x.1.f) ∧ w.cell? ⟨b, off + 2, none⟩ = some (.slice a1 x.1.args.length c1) ∧
      w.cell? ⟨b, off + 3, none⟩ = some (.int .i64 x.2.v) ∧ w.cell? ⟨b, off + 4, none⟩ = some (.int .i64 x.2.f) ∧ w.cell? ⟨b, off + 5, none⟩ = some (.slice a2 x.2.args.length c2) ∧ InP p w x.1.args a1 ∧ InP p w x.2.args a2 ∧ RulesP p w rs (some ⟨b, off + 6, none⟩)
theorem RulesP_some {p : Nat → Prop} {w : World} {rs : List (T × T)} {a : Option Addr} (h : RulesP p w rs a) (hp : 0 < rs.length) : ∃ b off, a = some ⟨b, off, none⟩ := by
  cases rs with
  | nil => simp at hp
  | cons x rs => obtain ⟨b, off, _, _, _, _, rfl, _⟩ := h; exact ⟨b, off, rfl⟩
theorem RulesP_mono {p q : Nat → Prop} {w w' : World} (hs : ∀ b o v, p b → w.cell? ⟨b, o, none⟩ = some v → q b ∧ w'.cell? ⟨b, o, none⟩ = some v) : ∀ {rs : List (T × T)} {a : Option Addr}, RulesP p w rs a → RulesP q w' rs a := by
  intro rs
  induction rs with
  | nil => intro a _; trivial
  | cons x rs ih =>
    intro a h
    obtain ⟨b, off, a1, c1, a2, c2, rfl, hp, h0, h1, h2, h3, h4, h5, hi, hi2, hr⟩ := h
    exact ⟨b, off, a1, c1, a2, c2, rfl, (hs _ _ _ hp h0).1, (hs _ _ _ hp h0).2, (hs _ _ _ hp h1).2, (hs _ _ _ hp h2).2, (hs _ _ _ hp h3).2, (hs _ _ _ hp h4).2, (hs _ _ _ hp h5).2, InP_mono hs _ _ _ (Nat.le_refl _) hi, InP_mono hs _ _ _ (Nat.le_refl _) hi2, ih hr⟩
theorem RulesP_below {p : Nat → Prop} {w w' : World} {rs : List (T × T)} {a : Option Addr} (hb : Below w.heap.size w w') (h : RulesP p w rs a) : RulesP p w' rs a :=
  RulesP_mono (fun b o v hp hv => ⟨hp, by rw [hb.cell (p := ⟨b, o, none⟩) (lt_of_cell hv)]; exact hv⟩) h
theorem RulesP_imp {p q : Nat → Prop} {w : World} {rs : List (T × T)} {a : Option Addr} (hpq : ∀ k, p k → q k) (h : RulesP p w rs a) : RulesP q w rs a := RulesP_mono (fun _ _ _ hp hv => ⟨hpq _ hp, hv⟩) h
theorem RulesP_lt {p : Nat → Prop} {w : World} {rs : List (T × T)} {a : Option Addr} (h : RulesP p w rs a) : RulesP (fun k => p k ∧ k < w.heap.size) w rs a := RulesP_mono (fun _ _ _ hp hv => ⟨⟨hp, lt_of_cell hv⟩, hv⟩) h
theorem RulesP_at {p : Nat → Prop} {w : World} : ∀ {rs : List (T × T)} {b off k : Nat} {x : T × T}, RulesP p w rs (some ⟨b, off, none⟩) → rs[k]? = some x →
    ∃ a1 c1 a2 c2, p b ∧ w.cell? ⟨b, off + k * 6, none⟩ = some (.int .i64 x.1.v) ∧ w.cell? ⟨b, off + k * 6 + 1, none⟩ = some (.int .i64 x.1.f) ∧ w.cell? ⟨b, off + k * 6 + 2, none⟩ = some (.slice a1 x.1.args.length c1) ∧
      w.cell? ⟨b, off + k * 6 + 3, none⟩ = some (.int .i64 x.2.v) ∧ w.cell? ⟨b, off + k * 6 + 4, none⟩ = some (.int .i64 x.2.f) ∧ w.cell? ⟨b, off + k * 6 + 5, none⟩ = some (.slice a2 x.2.args.length c2) ∧ InP p w x.1.args a1 ∧ InP p w x.2.args a2 := by
  intro rs
  induction rs with
  | nil => intro b off k x _ h; simp at h
  | cons y rs ih =>
    intro b off k x h hk
    obtain ⟨b', off', a1, c1, a2, c2, hb, hp, h0, h1, h2, h3, h4, h5, hi, hi2, hr⟩ := h
    simp only [Option.some.injEq, Addr.mk.injEq] at hb
    obtain ⟨rfl, rfl, _⟩ := hb
    cases k with
    | zero =>
      simp at hk; subst hk
      exact ⟨a1, c1, a2, c2, hp, by simpa using h0, by simpa using h1, by simpa using h2, by simpa using h3, by simpa using h4, by simpa using h5, hi, hi2⟩
    | succ k =>
      have h9 := ih hr (by simpa using hk)
      rw [show off + (k + 1) * 6 = off + 6 + k * 6 by omega]
      exact h9

/-- What Check says of rules behind the first ones. -/
def ruleErr (ar : List Int) : List (T × T) → Int
  | [] => 0
  | x :: rs => if allErr ar [x.1, x.2] = 0 then (if gt x.1 x.2 then ruleErr ar rs else 4) else allErr ar [x.1, x.2]
def rulesErr (ar : List Int) (rs : List (T × T)) : Int := if sigErr ar = 0 then (if 20 < rs.length then 2 else ruleErr ar rs) else sigErr ar
theorem ruleErr_drop {ar : List Int} {rs : List (T × T)} {k : Nat} {x : T × T} (hx : rs[k]? = some x) : ruleErr ar (rs.drop k) = if allErr ar [x.1, x.2] = 0 then (if gt x.1 x.2 then ruleErr ar (rs.drop (k + 1)) else 4) else allErr ar [x.1, x.2] := by
  have hlt := (List.getElem?_eq_some_iff.1 hx).1
  have e : rs.drop k = x :: rs.drop (k + 1) := by
    rw [List.getElem?_eq_getElem hlt] at hx
    simp at hx
    rw [← hx, List.getElem_cons_drop]
  rw [e, ruleErr]

set_option maxRecDepth 100000 in
set_option maxHeartbeats 1000000 in
theorem rwCheck_any (ar : List Int) (ga : Option Addr) (gcap : Nat) (rs : List (T × T)) (ra : Option Addr) (rc : Nat) (w : World) (hg : Ints w ar ga) (hl : rs.length ≤ 9223372036854775807) (hr : RulesP (fun _ => True) w rs ra) :
    Calls Try.prog 51 #[.agg #[.slice ga ar.length gcap], .slice ra rs.length rc] w fun e w' => e = .returned (.int .i64 (rulesErr ar rs)) ∧ Below w.heap.size w w' := by
  have H1 := hide (fun o => signature_any ar ga gcap (w.alloc o) (Ints_alloc o hg))
  obtain ⟨E, hE⟩ : ∃ E, E = sigErr ar := ⟨_, rfl⟩
  obtain ⟨Z, hZ⟩ : ∃ Z, Z = rulesErr ar rs := ⟨_, rfl⟩
  rw [← hE] at H1
  rw [← hZ]
  have HE := hide hE
  have HZ := hide hZ
  have Hg := hide hg
  have Hr := hide hr
  clear hE hZ hg hr
  go_enter Try.func51, Try.ntmps51
  go_wp2_with fail
  refine (H1.out _).mono ?_
  rintro e w1 ⟨rfl, hb1⟩
  have hz1 : w.heap.size + 1 ≤ w1.heap.size := by have := hb1.size; simp at this; omega
  have hbw : Below w.heap.size w w1 := (below1 _ _).trans (hb1.mono (by simp))
  have cg : w1.cell? ⟨w.heap.size, 0, none⟩ = some (.slice ga ar.length gcap) := by
    rw [hb1.cell (p := ⟨w.heap.size, 0, none⟩) (by simp)]; exact cell_new 0 rfl
  have Hbw := hide hbw
  clear hb1 hbw H1
  by_cases h0 : E = 0
  · have HZ1 : Hid (Z = if 20 < rs.length then 2 else ruleErr ar rs) := by show _ = _; rw [HZ.out, rulesErr, if_pos (HE.out.symm.trans h0)]
    subst h0
    by_cases h20 : 20 < rs.length
    · obtain rfl : Z = 2 := by rw [HZ1.out, if_pos h20]
      have e20 : (20 : Int) < rs.length := by omega
      clear HZ1 HZ h20
      go_wp2_with fail
      go_ret
      exact ⟨rfl, Hbw.out⟩
    · have HZ2 : Hid (Z = ruleErr ar rs) := by show _ = _; rw [HZ1.out, if_neg h20]
      have e20 : ¬ (20 : Int) < rs.length := by omega
      clear HZ1 HZ
      go_wp2_with fail
      go_loopw [20] (fun iv wr => ∃ k : Nat, k ≤ rs.length ∧ iv = .int .i64 k ∧ Hid (Z = ruleErr ar (rs.drop k)) ∧ Below w1.heap.size w1 wr) (fun iv _ => rs.length - (intOf iv).toNat)
      case atStart => exact ⟨0, Nat.zero_le _, rfl, by rw [List.drop_zero]; exact HZ2, Below.refl _ _⟩
      case round =>
        obtain ⟨k, hk, rfl, HZk, hbr⟩ := hrel
        have Hbr := hide hbr
        have Hbwr := hide (Hbw.out.trans (hbr.mono Hbw.out.size))
        have cgr : wr.cell? ⟨w.heap.size, 0, none⟩ = some (.slice ga ar.length gcap) := by rw [hbr.cell (p := ⟨w.heap.size, 0, none⟩) (show w.heap.size < w1.heap.size by omega)]; exact cg
        have hzr := hbr.size
        by_cases hlt : k < rs.length
        · obtain ⟨b, off, rfl⟩ := RulesP_some Hr.out (by omega)
          obtain ⟨x, hx⟩ : ∃ x, rs[k]? = some x := ⟨rs[k], List.getElem?_eq_getElem hlt⟩
          obtain ⟨a1, c1, a2, c2, _, k0, k1, k2, k3, k4, k5, hi1, hi2⟩ := RulesP_at (RulesP_below Hbwr.out Hr.out) hx
          have hst := ruleErr_drop (ar := ar) hx
          rw [← HZk.out] at hst
          have HG := hide (fun o => Greater_any ar ga gcap x.1 a1 c1 x.2 a2 c2 (wr.alloc o) (Ints_alloc o (Ints_below Hbwr.out Hg.out)) (InP_alloc o hi1) (InP_alloc o hi2))
          obtain ⟨F, hF⟩ : ∃ F, F = allErr ar [x.1, x.2] := ⟨_, rfl⟩
          obtain ⟨B, hB⟩ : ∃ B, B = grSpec ar x.1 x.2 := ⟨_, rfl⟩
          rw [← hF, ← hB] at HG
          rw [← hF] at hst
          have HB := hide (show F = 0 → B = gt x.1 x.2 from fun h => by rw [hB, grSpec, decide_eq_true (hF.symm.trans h), Bool.true_and])
          have Hst := hide hst
          have hkI : (k : Int) < rs.length := by omega
          have hk0 : (0 : Int) ≤ k := by omega
          have hbl := lt_of_cell k0
          have hzw : w.heap.size < wr.heap.size := by omega
          clear hst hF hB hx hi1 hi2 hbr HZk
          go_wp2_with fail
          refine (HG.out _).mono ?_
          rintro e w2 ⟨rfl, hb2⟩
          have hb12 : Below wr.heap.size wr w2 := (below1 _ _).trans (hb2.mono (by simp))
          have Hb2 := hide (Hbr.out.trans (hb12.mono hzr))
          have Hbf := hide (Hbw.out.trans (Hb2.out.mono Hbw.out.size))
          clear hb2 hb12 HG
          by_cases hF0 : F = 0
          · have hBg := HB.out hF0
            have Hs2 : Hid (Z = if gt x.1 x.2 then ruleErr ar (rs.drop (k + 1)) else 4) := by show _ = _; rw [Hst.out, if_pos hF0]
            subst hF0
            clear Hst HB
            cases hgt : gt x.1 x.2 with
            | true =>
              rw [hgt] at hBg Hs2
              subst hBg
              have Hs3 : Hid (Z = ruleErr ar (rs.drop (k + 1))) := Hs2.out
              clear Hs2 hgt
              go_wp2_with fail
              go_roundw
              case rel => exact ⟨k + 1, by omega, by go_num, Hs3, Hb2.out⟩
              case measure => simp [intOf]; omega
            | false =>
              rw [hgt] at hBg Hs2
              subst hBg
              obtain rfl : Z = 4 := Hs2.out
              clear Hs2 hgt
              go_wp2_with fail
              go_ret
              exact ⟨rfl, Hbf.out⟩
          · have hFb : (F != 0) = true := by simpa using hF0
            obtain rfl : Z = F := by rw [Hst.out, if_neg hF0]
            clear Hst HB hF0
            go_wp2_with fail
            go_ret
            exact ⟨rfl, Hbf.out⟩
        · have hk2 : k = rs.length := by omega
          subst hk2
          obtain rfl : Z = 0 := by rw [HZk.out, List.drop_length]; rfl
          clear hbr HZk
          go_wp2_with fail
          go_ret
          exact ⟨rfl, Hbwr.out⟩
  · have h0b : (E != 0) = true := by simpa using h0
    obtain rfl : Z = E := by rw [HZ.out, rulesErr, if_neg (fun h => h0 (HE.out.trans h)), HE.out]
    clear HZ HE h0
    go_wp2_with fail
    go_ret
    exact ⟨rfl, Hbw.out⟩

/-- What is told of rules and a term. -/
def rtErr (ar : List Int) (rs : List (T × T)) (t : T) : Int := if rulesErr ar rs = 0 then allErr ar [t] else rulesErr ar rs
set_option maxRecDepth 100000 in
set_option maxHeartbeats 1000000 in
theorem checkAll_any (ar : List Int) (ga : Option Addr) (gcap : Nat) (rs : List (T × T)) (ra : Option Addr) (rc : Nat) (t : T) (a : Option Addr) (cap : Nat) (w : World) (hg : Ints w ar ga) (hl : rs.length ≤ 9223372036854775807) (hr : RulesP (fun _ => True) w rs ra) (hin : InL w t.args a) :
    Calls Try.prog 83 #[.agg #[.slice ga ar.length gcap], .slice ra rs.length rc, .agg #[.int .i64 t.v, .int .i64 t.f, .slice a t.args.length cap]] w fun e w' => e = .returned (.int .i64 (rtErr ar rs t)) ∧ Below w.heap.size w w' := by
  have H1 := hide (fun o1 o2 => rwCheck_any ar ga gcap rs ra rc ((w.alloc o1).alloc o2) (Ints_alloc o2 (Ints_alloc o1 hg)) hl (RulesP_below (below2 w o1 o2) hr))
  obtain ⟨E, hE⟩ : ∃ E, E = rulesErr ar rs := ⟨_, rfl⟩
  obtain ⟨Z, hZ⟩ : ∃ Z, Z = rtErr ar rs t := ⟨_, rfl⟩
  rw [← hE] at H1
  rw [← hZ]
  have HZ : Hid (Z = if E = 0 then allErr ar [t] else E) := by show _ = _; rw [hZ, rtErr, hE]
  have Hg := hide hg
  have Hin := hide hin
  clear hE hZ hg hr hin
  go_enter Try.func83, Try.ntmps83
  go_wp2_with fail
  refine (H1.out _ _).mono ?_
  rintro e w1 ⟨rfl, hb1⟩
  have hz1 : w.heap.size + 2 ≤ w1.heap.size := by have := hb1.size; simp at this; omega
  have hbw : Below w.heap.size w w1 := (below2 _ _ _).trans (hb1.mono (by simp; omega))
  have cg : w1.cell? ⟨w.heap.size, 0, none⟩ = some (.slice ga ar.length gcap) := by
    rw [hb1.cell (p := ⟨w.heap.size, 0, none⟩) (by simp; omega), cell_alloc_lt (by simp)]; exact cell_new 0 rfl
  obtain ⟨c0, c1, c2, _, _, _⟩ : Three w1 (w.heap.size + 1) (.int .i64 t.v) (.int .i64 t.f) (.slice a t.args.length cap) := (Three.new _ (by simp)).below hb1
  have H2 := hide (Check_any ar ga gcap t a cap w1 (Ints_below hbw Hg.out) (InP_below hbw Hin.out))
  have Hbw := hide hbw
  clear hb1 hbw H1
  by_cases h0 : E = 0
  · have HZ2 : Hid (Z = allErr ar [t]) := by show _ = _; rw [HZ.out, if_pos h0]
    rw [← HZ2.out] at H2
    subst h0
    clear HZ HZ2
    go_wp2_with fail
    refine H2.out.mono ?_
    rintro e w2 ⟨rfl, hb2⟩
    have Hbf := hide (Hbw.out.trans (hb2.mono Hbw.out.size))
    clear hb2
    go_wp2_with fail
    go_ret
    exact ⟨rfl, Hbf.out⟩
  · have h0b : (E != 0) = true := by simpa using h0
    obtain rfl : Z = E := by rw [HZ.out, if_neg h0]
    clear HZ h0 H2
    go_wp2_with fail
    go_ret
    exact ⟨rfl, Hbw.out⟩

end Go.Proofs.Ytbkedppkdhfpoaa

namespace Go.Proofs.Ytbkedppkdhfpoaa
open Go.RowKit

/-- The first rule that matches: what it goes to, and the bindings. -/
def hitR : List (T × T) → T → Option (T × List (Int × T))
  | [], _ => none
  | x :: rs, t => match growT x.1 t [] with
    | some bs => some (x.2, sortB bs)
    | none => hitR rs t
theorem hitR_drop {rs : List (T × T)} {k : Nat} {x : T × T} (hx : rs[k]? = some x) (t : T) : hitR (rs.drop k) t = match growT x.1 t [] with
    | some bs => some (x.2, sortB bs)
    | none => hitR (rs.drop (k + 1)) t := by
  have hlt := (List.getElem?_eq_some_iff.1 hx).1
  have e : rs.drop k = x :: rs.drop (k + 1) := by
    rw [List.getElem?_eq_getElem hlt] at hx
    simp at hx
    rw [← hx, List.getElem_cons_drop]
  rw [e, hitR]
theorem ruleErr_mem {ar : List Int} : ∀ {rs : List (T × T)}, ruleErr ar rs = 0 → ∀ x, x ∈ rs → allErr ar [x.1, x.2] = 0 ∧ gt x.1 x.2 = true := by
  intro rs
  induction rs with
  | nil => intro _ x hx; cases hx
  | cons y rs ih =>
    intro h x hx
    rw [ruleErr] at h
    by_cases h1 : allErr ar [y.1, y.2] = 0
    · rw [if_pos h1] at h
      by_cases h2 : gt y.1 y.2 = true
      · rw [if_pos h2] at h
        rcases List.mem_cons.1 hx with rfl | hx
        · exact ⟨h1, h2⟩
        · exact ih h x hx
      · rw [if_neg h2] at h; cases h
    · rw [if_neg h1] at h; exact absurd h h1

/-- Of what was there only the two boxes have changed. -/
structure Hit0 (t0 b0 : Nat) (w w' : World) : Prop where
  os : w'.os = w.os
  tape : w'.tape = w.tape
  output : w'.output = w.output
  size : w.heap.size ≤ w'.heap.size
  block : ∀ k, k < w.heap.size → k ≠ t0 → k ≠ b0 → w'.heap[k]? = w.heap[k]?
theorem Hit0.of_below {t0 b0 : Nat} {w w' : World} (h : Below w.heap.size w w') : Hit0 t0 b0 w w' := ⟨h.os, h.tape, h.output, h.size, fun k hk _ _ => h.block k hk⟩
theorem Hit0.trans {t0 b0 : Nat} {w w' w'' : World} (h : Hit0 t0 b0 w w') (k : Hit0 t0 b0 w' w'') : Hit0 t0 b0 w w'' :=
  ⟨k.os.trans h.os, k.tape.trans h.tape, k.output.trans h.output, Nat.le_trans h.size k.size, fun x hx h1 h2 => by rw [k.block x (Nat.lt_of_lt_of_le hx h.size) h1 h2, h.block x hx h1 h2]⟩

/-- What the closure answers and leaves. -/
def HitOut (t0 b0 : Nat) (rs : List (T × T)) (t : T) (w : World) (e : Ending) (w' : World) : Prop :=
  (hitR rs t = none ∧ e = .returned (.bool false) ∧ Below w.heap.size w w') ∨
  ∃ y bs a1 c1 la lc, hitR rs t = some (y, bs) ∧ e = .returned (.bool true) ∧ Three w' t0 (.int .i64 y.v) (.int .i64 y.f) (.slice a1 y.args.length c1) ∧ InP (fun k => k ≠ t0 ∧ k ≠ b0) w' y.args a1 ∧ w'.cell? ⟨b0, 0, none⟩ = some (.slice la bs.length lc) ∧ w'.frozen? ⟨b0, 0, none⟩ = false ∧ Binds (fun k => w.heap.size ≤ k) w' bs la ∧ Hit0 t0 b0 w w'

theorem hit_end {t0 b0 : Nat} {rs : List (T × T)} {t y : T} {bs : List (Int × T)} {w w5 : World} {u0 u1 u2 u3 : Value} {a2 la : Option Addr} {c2 lc : Nat} (htb : t0 ≠ b0) (htl : t0 < w.heap.size) (hbl : b0 < w.heap.size) (hT : Three w5 t0 u0 u1 u2) (hB : w5.cell? ⟨b0, 0, none⟩ = some u3) (hBf : w5.frozen? ⟨b0, 0, none⟩ = false) (hh : hitR rs t = some (y, bs))
    (hbn : Binds (fun k => w.heap.size ≤ k) w5 bs la) (hi : InP (fun k => k ≠ t0 ∧ k ≠ b0) w5 y.args a2) (hb : Below w.heap.size w w5) :
    HitOut t0 b0 rs t w (.returned (.bool true)) ((set3 w5 t0 0 (.int .i64 y.v) (.int .i64 y.f) (.slice a2 y.args.length c2)).setCell ⟨b0, 0, none⟩ (.slice la bs.length lc)) := by
  have e3 : ∀ k, k ≠ t0 → (set3 w5 t0 0 (.int .i64 y.v) (.int .i64 y.f) (.slice a2 y.args.length c2)).heap[k]? = w5.heap[k]? := fun k hk => by
    unfold set3
    rw [Below.heap_setCell _ _ _ _ hk, Below.heap_setCell _ _ _ _ hk, Below.heap_setCell _ _ _ _ hk]
  have e4 : ∀ k, k ≠ t0 → k ≠ b0 → ((set3 w5 t0 0 (.int .i64 y.v) (.int .i64 y.f) (.slice a2 y.args.length c2)).setCell ⟨b0, 0, none⟩ (.slice la bs.length lc)).heap[k]? = w5.heap[k]? := fun k h1 h2 => by
    rw [Below.heap_setCell _ _ _ _ h2]; exact e3 k h1
  have hT3 := (hT.set (.int .i64 y.v) (.int .i64 y.f) (.slice a2 y.args.length c2)).same (w' := (set3 w5 t0 0 (.int .i64 y.v) (.int .i64 y.f) (.slice a2 y.args.length c2)).setCell ⟨b0, 0, none⟩ (.slice la bs.length lc)) (Below.heap_setCell _ _ _ _ htb)
  have hBc : (set3 w5 t0 0 (.int .i64 y.v) (.int .i64 y.f) (.slice a2 y.args.length c2)).cell? ⟨b0, 0, none⟩ = some u3 := (World.cell?_of_block (w := w5) (a := ⟨b0, 0, none⟩) (e3 b0 htb.symm)).trans hB
  refine Or.inr ⟨y, bs, a2, c2, la, lc, hh, rfl, hT3, InP_same (fun k hk _ => e4 k hk.1 hk.2) hi, World.cell?_setCell_same _ _ _ hBc, ?_, ?_, ?_⟩
  · rw [World.frozen?_setCell, World.frozen?_of_block (w := w5) (a := ⟨b0, 0, none⟩) (e3 b0 htb.symm)]; exact hBf
  · exact Binds_mono (fun b' o v hp hv => ⟨hp, by
      have hp : w.heap.size ≤ b' := hp
      rw [World.cell?_of_block (w := w5) (a := ⟨b', o, none⟩) (e4 b' (by omega) (by omega))]; exact hv⟩) hbn
  · have hz := hb.size
    refine ⟨?_, ?_, ?_, ?_, fun k hk h1 h2 => (e4 k h1 h2).trans (hb.block k hk)⟩
    · exact hb.os
    · exact hb.tape
    · exact hb.output
    · simp [set3, World.setCell]; exact hz

set_option maxRecDepth 100000 in
set_option maxHeartbeats 2000000 in
theorem stepC_any (ar : List Int) (ga : Option Addr) (gcap : Nat) (rs : List (T × T)) (ra : Option Addr) (rc : Nat) (t : T) (a : Option Addr) (cap : Nat) (l0 g0 t0 b0 : Nat) (u0 u1 u2 u3 : Value) (w : World) (hrs : rulesErr ar rs = 0) (ht : t.sz ≤ 120 ∧ okP ar t) (hg : Ints w ar ga)
    (hr : RulesP (fun k => k ≠ t0 ∧ k ≠ b0) w rs ra) (hin : InP (fun k => k ≠ t0 ∧ k ≠ b0) w t.args a) (hl0 : w.cell? ⟨l0, 0, none⟩ = some (.slice ra rs.length rc)) (hg0 : w.cell? ⟨g0, 0, none⟩ = some (.slice ga ar.length gcap)) (hT : Three w t0 u0 u1 u2) (hB : w.cell? ⟨b0, 0, none⟩ = some u3) (hBf : w.frozen? ⟨b0, 0, none⟩ = false) (htb : t0 ≠ b0) :
    Calls Try.prog 101 #[.agg #[.int .i64 t.v, .int .i64 t.f, .slice a t.args.length cap], .pointer (some ⟨l0, 0, none⟩), .pointer (some ⟨g0, 0, none⟩), .pointer (some ⟨t0, 0, none⟩), .pointer (some ⟨b0, 0, none⟩)] w fun e w' => HitOut t0 b0 rs t w e w' := by
  have hsig : sigErr ar = 0 := by
    rw [rulesErr] at hrs
    by_cases h : sigErr ar = 0
    · exact h
    · rw [if_neg h] at hrs; exact absurd hrs h
  have hru : rs.length ≤ 20 ∧ ruleErr ar rs = 0 := by
    rw [rulesErr, if_pos hsig] at hrs
    by_cases h : 20 < rs.length
    · rw [if_pos h] at hrs; cases hrs
    · rw [if_neg h] at hrs; exact ⟨by omega, hrs⟩
  have HM := hide (ruleErr_mem hru.2)
  have hl20 := hru.1
  have Hsig := hide hsig
  have Ht := hide ht
  have Hg := hide hg
  have Hr := hide hr
  have Hin := hide hin
  have hll := lt_of_cell hl0
  have hgl := lt_of_cell hg0
  have htl := hT.lt
  have hbl := lt_of_cell hB
  have HT := hide hT
  have HB := hide hB
  have HBf := hide hBf
  have Hg0 := hide hg0
  clear hrs hsig hru ht hg hr hin hT hB hBf
  go_enter Try.func101, Try.ntmps101
  go_wp2_with fail
  go_loopw [14] (fun iv wr => ∃ k : Nat, k ≤ rs.length ∧ iv = .int .i64 k ∧ Hid (hitR rs t = hitR (rs.drop k) t) ∧ Hid (Below w.heap.size w wr) ∧ Three wr w.heap.size (.int .i64 t.v) (.int .i64 t.f) (.slice a t.args.length cap)) (fun iv _ => rs.length - (intOf iv).toNat)
  case atStart => exact ⟨0, Nat.zero_le _, rfl, by rw [List.drop_zero]; rfl, below1 _ _, Three.new _ rfl⟩
  case round =>
    obtain ⟨k, hk, rfl, Hk, Hb, h3⟩ := hrel
    have hzr := h3.lt
    have H3 := hide h3
    by_cases hlt : k < rs.length
    · obtain ⟨b, off, rfl⟩ := RulesP_some Hr.out (by omega)
      obtain ⟨x, hx⟩ : ∃ x, rs[k]? = some x := ⟨rs[k], List.getElem?_eq_getElem hlt⟩
      obtain ⟨a1, c1, a2, c2, _, k0, k1, k2, k3, k4, k5, hi1, hi2⟩ := RulesP_at (RulesP_below Hb.out Hr.out) hx
      have hok := (HM.out x (List.mem_of_getElem? hx)).1
      have hst := hitR_drop hx t
      rw [← Hk.out] at hst
      have hun := allErr_iff.1 hok
      have hpr : allErr ar [x.1, t] = 0 := allErr_iff.2 ⟨Hsig.out, fun y hy => by
        rcases List.mem_cons.1 hy with rfl | hy
        · exact hun.2 x.1 (by simp)
        · rcases List.mem_cons.1 hy with rfl | hy
          · exact Ht.out
          · cases hy⟩
      have HX := hide (fun o => Match_any ar ga gcap x.1 a1 c1 t a cap (wr.alloc o) (Ints_alloc o (Ints_below Hb.out Hg.out)) (InP_alloc o (InP_imp (fun _ _ => trivial) hi1)) (InP_alloc o (InP_imp (fun _ _ => trivial) (InP_below Hb.out Hin.out))))
      have Hms : Hid (matchSpec ar x.1 t = match growT x.1 t [] with | some bs => (sortB bs, true, 0) | none => ([], false, 0)) := by show _ = _; rw [matchSpec, if_pos hpr] <;> cases growT x.1 t [] <;> rfl
      obtain ⟨q0, q1, q2, _, _, _⟩ := h3
      have cg : wr.cell? ⟨g0, 0, none⟩ = some (.slice ga ar.length gcap) := by rw [Hb.out.cell (p := ⟨g0, 0, none⟩) hgl]; exact Hg0.out
      have hkI : (k : Int) < rs.length := by omega
      have hk0 : (0 : Int) ≤ k := by omega
      have hbb := lt_of_cell k0
      have hgr : g0 < wr.heap.size := by omega
      have Hst := hide hst
      have Hi2 := hide hi2
      clear hst hok hun hpr hx hi1 hi2 Hk
      go_wp2_with fail
      refine (HX.out _).mono ?_
      rintro e w5 ⟨⟨la, lc, rfl, hbn⟩, hb5⟩
      have hb5r : Below wr.heap.size wr w5 := (below1 _ _).trans (hb5.mono (by simp))
      have Hb5 := hide (Hb.out.trans (hb5r.mono Hb.out.size))
      have H35 := hide (H3.out.below hb5r)
      cases hgt : growT x.1 t [] with
      | none =>
        have Hs2 : Hid (hitR rs t = hitR (rs.drop (k + 1)) t) := by show _ = _; rw [Hst.out, hgt]
        have Hm1 : Hid (matchSpec ar x.1 t = ([], false, 0)) := by show _ = _; rw [Hms.out, hgt]
        rw [Hm1.out]
        clear Hst Hms Hm1 hgt hb5 hb5r hbn HX
        go_wp2_with fail
        go_roundw
        case rel => exact ⟨k + 1, by omega, by go_num, Hs2, Hb5, H35.out⟩
        case measure => simp [intOf]; omega
      | some bs =>
        have Hs2 : Hid (hitR rs t = some (x.2, sortB bs)) := by show _ = _; rw [Hst.out, hgt]
        have Hm1 : Hid (matchSpec ar x.1 t = (sortB bs, true, 0)) := by show _ = _; rw [Hms.out, hgt]
        rw [Hm1.out] at hbn ⊢
        have r3 : w5.cell? ⟨wr.heap.size, 3, none⟩ = some (.int .i64 x.2.v) := by rw [hb5.cell (p := ⟨wr.heap.size, 3, none⟩) (by simp)]; exact cell_new 3 rfl
        have r4 : w5.cell? ⟨wr.heap.size, 4, none⟩ = some (.int .i64 x.2.f) := by rw [hb5.cell (p := ⟨wr.heap.size, 4, none⟩) (by simp)]; exact cell_new 4 rfl
        have r5 : w5.cell? ⟨wr.heap.size, 5, none⟩ = some (.slice a2 x.2.args.length c2) := by rw [hb5.cell (p := ⟨wr.heap.size, 5, none⟩) (by simp)]; exact cell_new 5 rfl
        have hT5 := HT.out.below Hb5.out
        have HT5 := hide hT5
        obtain ⟨v0, v1, v2, f0, f1, f2⟩ := hT5
        have vB : w5.cell? ⟨b0, 0, none⟩ = some u3 := by rw [Hb5.out.cell (p := ⟨b0, 0, none⟩) hbl]; exact HB.out
        have fB : w5.frozen? ⟨b0, 0, none⟩ = false := by rw [Hb5.out.frozen (p := ⟨b0, 0, none⟩) hbl]; exact HBf.out
        have hzz := Hb.out.size
        have Hbn := hide (Binds_mono (q := fun k => w.heap.size ≤ k) (w' := w5) (fun b' o v hp hv => ⟨by have h9 : (wr.alloc _).heap.size ≤ b' := hp; rw [World.size_alloc] at h9; omega, hv⟩) hbn)
        have Hi5 := hide (InP_below hb5r Hi2.out)
        have hne1 : ¬ wr.heap.size = t0 := by omega
        have hne2 : ¬ wr.heap.size = b0 := by omega
        have hne3 : ¬ t0 = wr.heap.size := by omega
        have hne4 : ¬ b0 = wr.heap.size := by omega
        have hne5 : ¬ b0 = t0 := fun e => htb e.symm
        have hne6 : ¬ t0 = b0 := htb
        clear Hst Hms Hm1 hgt hb5 hb5r hbn HX q0 q1 q2 cg k0 k1 k2 k3 k4 k5
        go_wp2_with fail
        go_ret
        exact hit_end htb htl hbl HT5.out vB fB Hs2.out Hbn.out Hi5.out Hb5.out
    · have hk2 : k = rs.length := by omega
      subst hk2
      have Hfin : Hid (hitR rs t = none) := by show _ = _; rw [Hk.out, List.drop_length]; rfl
      clear Hk h3
      go_wp2_with fail
      go_ret
      exact Or.inl ⟨Hfin.out, rfl, Hb.out⟩

end Go.Proofs.Ytbkedppkdhfpoaa

namespace Go.Proofs.Ytbkedppkdhfpoaa

/-- The place, what the rule goes to, and the bindings. -/
def findR (rs : List (T × T)) : T → Option (List Int × T × List (Int × T))
  | ⟨v, f, args⟩ => match findL args 0 with
    | some r => some r
    | none => (hitR rs ⟨v, f, args⟩).map (fun h => ([], h))
  where
  findL : List T → Nat → Option (List Int × T × List (Int × T))
    | [], _ => none
    | a :: l, i => match findR rs a with
      | some r => some ((i : Int) :: r.1, r.2)
      | none => findL l (i + 1)
theorem findR_eq (rs : List (T × T)) (t : T) : findR rs t = match findR.findL rs t.args 0 with
    | some r => some r
    | none => (hitR rs t).map (fun h => ([], h)) := by cases t; rw [findR]
theorem findL_drop {rs : List (T × T)} {ts : List T} {k : Nat} {x : T} (hx : ts[k]? = some x) : findR.findL rs (ts.drop k) k = match findR rs x with
    | some r => some ((k : Int) :: r.1, r.2)
    | none => findR.findL rs (ts.drop (k + 1)) (k + 1) := by
  have hlt := (List.getElem?_eq_some_iff.1 hx).1
  have e : ts.drop k = x :: ts.drop (k + 1) := by
    rw [List.getElem?_eq_getElem hlt] at hx
    simp at hx
    rw [← hx, List.getElem_cons_drop]
  rw [e, findR.findL]
theorem findL_some {rs : List (T × T)} {t x : T} {k : Nat} {r : List Int × T × List (Int × T)} (h0 : findR.findL rs t.args 0 = findR.findL rs (t.args.drop k) k) (hx : t.args[k]? = some x) (hr : findR rs x = some r) : findR rs t = some ((k : Int) :: r.1, r.2) := by
  rw [findR_eq, h0, findL_drop hx, hr]
theorem findL_none {rs : List (T × T)} {t x : T} {k : Nat} (h0 : findR.findL rs t.args 0 = findR.findL rs (t.args.drop k) k) (hx : t.args[k]? = some x) (hr : findR rs x = none) : findR.findL rs t.args 0 = findR.findL rs (t.args.drop (k + 1)) (k + 1) := by
  rw [h0, findL_drop hx, hr]
theorem findL_end {rs : List (T × T)} {t : T} (h0 : findR.findL rs t.args 0 = findR.findL rs (t.args.drop t.args.length) t.args.length) : findR rs t = (hitR rs t).map (fun h => ([], h)) := by
  have e : findR.findL rs t.args 0 = none := by rw [h0, List.drop_length]; rfl
  rw [findR_eq, e]
/-- The place is one of the term's, and what stands there is matched. -/
theorem findR_place {rs : List (T × T)} : ∀ (n : Nat) (t : T) (r : List Int × T × List (Int × T)), t.sz ≤ n → findR rs t = some r → ∃ u, atT t r.1 = some u ∧ hitR rs u = some r.2 ∧ r.1.length < n + 1 := by
  intro n
  induction n with
  | zero => intro t r h; have := t.sz_pos; omega
  | succ n ih =>
    intro t r hn hr
    have hL : ∀ (d k : Nat), d = t.args.length - k → k ≤ t.args.length → findR.findL rs t.args 0 = findR.findL rs (t.args.drop k) k → ∃ u, atT t r.1 = some u ∧ hitR rs u = some r.2 ∧ r.1.length < n + 1 + 1 := by
      intro d
      induction d with
      | zero =>
        intro k hd hk h0
        have hk2 : k = t.args.length := by omega
        subst hk2
        rw [findL_end h0] at hr
        cases hh : hitR rs t with
        | none => rw [hh] at hr; cases hr
        | some h =>
          rw [hh] at hr
          obtain rfl : ([], h) = r := by simpa using hr
          exact ⟨t, by rw [atT], hh, by simp⟩
      | succ d ihd =>
        intro k hd hk h0
        obtain ⟨x, hx⟩ : ∃ x, t.args[k]? = some x := ⟨t.args[k]'(by omega), List.getElem?_eq_getElem (by omega)⟩
        cases hf : findR rs x with
        | none => exact ihd (k + 1) (by omega) (by omega) (findL_none h0 hx hf)
        | some q =>
          rw [findL_some h0 hx hf] at hr
          obtain rfl : ((k : Int) :: q.1, q.2) = r := by simpa using hr
          have hxs := T.szL_mem (List.mem_of_getElem? hx)
          have hte := T.sz_eq t
          obtain ⟨u, h1, h2, h3⟩ := ih x q (by omega) hf
          refine ⟨u, ?_, h2, by simp; omega⟩
          show atT t ((k : Int) :: q.1) = some u
          rw [atT, if_pos (by omega), Int.toNat_natCast, hx]
          exact h1
    exact hL _ 0 rfl (Nat.zero_le _) (by rw [List.drop_zero])

end Go.Proofs.Ytbkedppkdhfpoaa

namespace Go.Proofs.Ytbkedppkdhfpoaa
open Go.RowKit

theorem all_one {ar : List Int} (h : sigErr ar = 0) (t : T) : allErr ar [t] = termErr ar t := by
  rw [allErr, if_pos h, termsErr]
  by_cases h1 : termErr ar t = 0
  · rw [if_pos h1, h1]; rfl
  · rw [if_neg h1]

set_option maxRecDepth 100000 in
set_option maxHeartbeats 1000000 in
theorem checkBindings_any (ar : List Int) (ga : Option Addr) (gcap : Nat) (bs : List (Int × T)) (a : Option Addr) (cap : Nat) (w : World) (p : Nat → Prop) (hl : bs.length ≤ 9223372036854775807) (hg : Ints w ar ga) (hin : Binds p w bs a) :
    Calls Try.prog 67 #[.agg #[.slice ga ar.length gcap], .slice a bs.length cap] w fun e w' => e = .returned (.int .i64 (bindsErr ar bs)) ∧ Below w.heap.size w w' := by
  go_enter Try.func67, Try.ntmps67
  go_wp2_with fail
  refine (signature_any ar ga gcap _ (Ints_alloc _ hg)).mono ?_
  rintro e w1 ⟨rfl, hb1⟩
  have hz1 : w.heap.size < w1.heap.size := by have := hb1.size; simp at this; omega
  have hbw : Below w.heap.size w w1 := (below1 _ _).trans (hb1.mono (by simp))
  have cg : w1.cell? ⟨w.heap.size, 0, none⟩ = some (.slice ga ar.length gcap) := by
    rw [hb1.cell (p := ⟨w.heap.size, 0, none⟩) (by simp), cell_new _ rfl]; rfl
  clear hb1
  by_cases hs : sigErr ar = 0
  · have hfin : bindsErr ar bs = bindErr ar 0 bs := by rw [bindsErr, if_pos hs]
    have Hfin := hide hfin
    have Hone := hide (all_one hs)
    rw [hs]
    clear hfin hs
    go_wp2_with fail
    go_loopw [6, 17] (fun l i wr => ∃ (k : Nat), k ≤ bs.length ∧ i = .int .i64 k ∧ l = .int .i64 (lastB bs k) ∧ Hid (bindErr ar 0 bs = bindErr ar (lastB bs k) (bs.drop k)) ∧ Below w1.heap.size w1 wr) (fun _ i _ => bs.length - (intOf i).toNat)
    case atStart => exact ⟨0, Nat.zero_le _, rfl, rfl, rfl, Below.refl _ _⟩
    case round =>
      obtain ⟨k, hk, rfl, rfl, HL, hb⟩ := hrel
      have hzr := hb.size
      have hbR : Below w.heap.size w wr := hbw.trans (hb.mono (by omega))
      by_cases hlt : k < bs.length
      · have hin' := Binds_below hb (Binds_below hbw hin)
        have Hg' := hide (Ints_below hb (Ints_below hbw hg))
        obtain ⟨b, off, rfl⟩ := Binds_some hin (by omega)
        obtain ⟨x, hx⟩ : ∃ x, bs[k]? = some x := ⟨bs[k], List.getElem?_eq_getElem hlt⟩
        obtain ⟨a1, cap1, _, c0, c1, c2, c3, hin1⟩ := Binds_at hin' hx
        have Hst := hide (HL.out.trans (bindErr_step hx))
        have Hls := hide (lastB_succ hx)
        have cg' : wr.cell? ⟨w.heap.size, 0, none⟩ = some (.slice ga ar.length gcap) := cell_below hb cg
        have hgw : w.heap.size < wr.heap.size := by omega
        have hkI : (k : Int) < bs.length := by omega
        have hk0 : (0 : Int) ≤ k := by omega
        have HC := hide (fun o => Check_any ar ga gcap x.2 a1 cap1 (wr.alloc o) (Ints_alloc o Hg'.out) (InP_alloc o (InP_imp (q := fun _ => True) (fun _ _ => trivial) hin1)))
        have HbA := hide (fun o => hbR.alloc (show w.heap.size ≤ wr.heap.size by omega) o)
        have HbB := hide (fun o => hb.alloc hzr o)
        have hbb := lt_of_cell c0
        clear hx HL hin hin' hin1
        by_cases h1 : x.1 < 1
        · rw [if_pos (Or.inl h1)] at Hst
          go_wp2_with fail
          go_ret
          exact ⟨ret_int (by rw [Hfin.out, Hst.out]), HbA.out _⟩
        · by_cases h2 : 1000 < x.1
          · rw [if_pos (Or.inr h2)] at Hst
            go_wp2_with fail
            go_ret
            exact ⟨ret_int (by rw [Hfin.out, Hst.out]), HbA.out _⟩
          · rw [if_neg (by omega)] at Hst
            by_cases h3 : x.1 ≤ lastB bs k
            · rw [if_pos h3] at Hst
              go_wp2_with fail
              go_ret
              exact ⟨ret_int (by rw [Hfin.out, Hst.out]), HbA.out _⟩
            · rw [if_neg h3] at Hst
              go_wp2_with fail
              refine (HC.out _).mono ?_
              rintro e w2 ⟨rfl, hb2⟩
              rw [Hone.out]
              have hz2 := hb2.size
              rw [World.size_alloc] at hz2
              have Hb2 := hide ((HbB.out _).trans (hb2.mono (by rw [World.size_alloc]; omega)))
              have Hb3 := hide ((HbA.out _).trans (hb2.mono (by rw [World.size_alloc]; omega)))
              have d0 : w2.cell? ⟨wr.heap.size, 0, none⟩ = some (.int .i64 x.1) := cell_below hb2 (by rw [cell_new 0 rfl]; rfl)
              clear HC HbA HbB hb2
              by_cases h4 : termErr ar x.2 = 0
              · rw [if_pos h4] at Hst
                rw [h4]
                clear h4
                go_wp2_with fail
                go_roundw
                case rel => exact ⟨k + 1, by omega, by go_num, by rw [Hls.out], by rw [Hls.out]; exact Hst.out, Hb2.out⟩
                case measure => simp [intOf]; omega
              · rw [if_neg h4] at Hst
                have h4' : (termErr ar x.2 != 0) = true := by simpa using h4
                clear h4
                go_wp2_with fail
                go_ret
                exact ⟨ret_int (by rw [Hfin.out, Hst.out]), Hb3.out⟩
      · have hk2 : k = bs.length := by omega
        subst hk2
        have Hek : Hid (bindErr ar 0 bs = 0) := by show _ = _; rw [HL.out, List.drop_length]; rfl
        clear HL
        go_wp2_with fail
        go_ret
        exact ⟨ret_int (by rw [Hfin.out, Hek.out]), hbR⟩
  · have hfin : bindsErr ar bs = sigErr ar := by rw [bindsErr, if_neg hs]
    have Hfin := hide hfin
    have hs1 : (sigErr ar != 0) = true := by simpa using hs
    clear hfin hs
    generalize sigErr ar = sg at *
    go_wp2_with fail
    go_ret
    exact ⟨ret_int Hfin.out.symm, hbw⟩

end Go.Proofs.Ytbkedppkdhfpoaa

namespace Go.Proofs.Ytbkedppkdhfpoaa
open Go.RowKit Go.Maps

/-- Bindings that are right rise. -/
theorem bindErr_rise {ar : List Int} : ∀ {bs : List (Int × T)} {last : Int}, bindErr ar last bs = 0 → bs.Pairwise (fun x y => x.1 < y.1) ∧ (∀ x, x ∈ bs → last < x.1) ∧ (0 ≤ last → last ≤ 1000 → last + bs.length ≤ 1000) := by
  intro bs
  induction bs with
  | nil => intro last _; exact ⟨List.Pairwise.nil, fun x h => (by cases h), fun _ h => by simpa using h⟩
  | cons x bs ih =>
    intro last h
    rw [bindErr] at h
    by_cases h1 : x.1 < 1 ∨ 1000 < x.1
    · rw [if_pos h1] at h; cases h
    · rw [if_neg h1] at h
      by_cases h2 : x.1 ≤ last
      · rw [if_pos h2] at h; cases h
      · rw [if_neg h2] at h
        by_cases h3 : termErr ar x.2 = 0
        · rw [if_pos h3] at h
          obtain ⟨g1, g2, g3⟩ := ih h
          refine ⟨List.Pairwise.cons g2 g1, fun y hy => ?_, fun _ _ => ?_⟩
          · rcases List.mem_cons.1 hy with rfl | hy
            · omega
            · have := g2 y hy; omega
          · have := g3 (by omega) (by omega)
            rw [List.length_cons]; omega
        · rw [if_neg h3] at h; exact absurd h h3
theorem once_of_rise {bs : List (Int × T)} (h : bs.Pairwise (fun x y => x.1 < y.1)) : Once bs := by
  intro i j x y hx hy e
  rw [List.pairwise_iff_getElem] at h
  obtain ⟨hi, rfl⟩ := List.getElem?_eq_some_iff.1 hx
  obtain ⟨hj, rfl⟩ := List.getElem?_eq_some_iff.1 hy
  rcases Nat.lt_trichotomy i j with h1 | h1 | h1
  · have := h i j hi hj h1; omega
  · exact h1
  · have := h j i hj hi h1; omega

/-- What Apply answers. -/
def applySpec (ar : List Int) (bs : List (Int × T)) (t : T) : T × Int :=
  if bindsErr ar bs = 0 then (if termErr ar t = 0 then (if 120 < (applyT bs t).sz then (zeroT, 2) else (applyT bs t, 0)) else (zeroT, termErr ar t)) else (zeroT, bindsErr ar bs)

theorem bindsErr_sig {ar : List Int} {bs : List (Int × T)} (h : bindsErr ar bs = 0) : sigErr ar = 0 ∧ bindErr ar 0 bs = 0 := by
  rw [bindsErr] at h
  by_cases h1 : sigErr ar = 0
  · rw [if_pos h1] at h; exact ⟨h1, h⟩
  · rw [if_neg h1] at h; exact absurd h h1
theorem termErr_apply {ar : List Int} {bs : List (Int × T)} {t : T} (hb : bindErr ar 0 bs = 0) (ht : okP ar t) : termErr ar (applyT bs t) = if 120 < (applyT bs t).sz then 2 else 0 := by
  have ho := okP_apply (fun v u h => (bindErr_ok hb v u h).2.2.2) ht
  by_cases h : 120 < (applyT bs t).sz
  · rw [if_pos h, termErr, if_pos h]
  · rw [if_neg h]; exact termErr_iff.2 ⟨by omega, ho⟩

attribute [local go_sem ↓] Go.wp_at_zero Go.wp_at_succ
/-- A term of new memory and an error handed back. -/
def GivesN (x : T × Int) (base : Nat) (e : Ending) (w' : World) : Prop :=
  ∃ a1 cap1, e = .returned (.tuple #[.agg #[.int .i64 x.1.v, .int .i64 x.1.f, .slice a1 x.1.args.length cap1], .int .i64 x.2]) ∧ InP (fun k => base ≤ k) w' x.1.args a1
theorem givesN_zero (n : Int) (base : Nat) (w' : World) : GivesN (zeroT, n) base (.returned (.tuple #[.agg #[.int .i64 0, .int .i64 0, .slice none 0 0], .int .i64 n])) w' := ⟨none, 0, rfl, InP_nil⟩

set_option maxRecDepth 100000 in
set_option maxHeartbeats 2000000 in
theorem Apply_new (ar : List Int) (ga : Option Addr) (gcap : Nat) (bs : List (Int × T)) (ba : Option Addr) (bc : Nat) (t : T) (a : Option Addr) (cap : Nat) (w : World) (hg : Ints w ar ga) (hl : bs.length ≤ 9223372036854775807) (hbs : Binds (fun _ => True) w bs ba) (hin : InL w t.args a) :
    Calls Try.prog 29 #[.agg #[.slice ga ar.length gcap], .slice ba bs.length bc, .agg #[.int .i64 t.v, .int .i64 t.f, .slice a t.args.length cap]] w fun e w' => GivesN (applySpec ar bs t) w.heap.size e w' ∧ Below w.heap.size w w' := by
  obtain ⟨W3, hW3⟩ : ∃ W3, W3 = (((w.alloc (.cells #[.slice ga ar.length gcap] 24)).alloc (.cells #[.int .i64 t.v, .int .i64 t.f, .slice a t.args.length cap] 27)).alloc (.cells #[.int .i64 0, .int .i64 0, .slice none 0 0] 27)) := ⟨_, rfl⟩
  have hT3 : Hid (Three W3 (w.heap.size + 1) (.int .i64 t.v) (.int .i64 t.f) (.slice a t.args.length cap)) := by rw [hW3]; exact (Three.new 27 (by simp)).alloc _
  have hR3 : Hid (Three W3 (w.heap.size + 1 + 1) (.int .i64 0) (.int .i64 0) (.slice none 0 0)) := by rw [hW3]; exact Three.new 27 (by simp)
  have hG3 : Hid (W3.cell? ⟨w.heap.size, 0, none⟩ = some (.slice ga ar.length gcap)) := by
    show _ = _
    rw [hW3, cell_alloc_lt (by simp; omega), cell_alloc_lt (by simp), cell_new _ rfl]; rfl
  have hWb : Hid (Below w.heap.size w W3) := by rw [hW3]; exact below3 _ _ _ _
  have hz3 : w.heap.size + 3 ≤ W3.heap.size := by rw [hW3]; simp
  have HW3 := hide hW3
  have Hg := hide hg
  have Hbs := hide hbs
  have Hin := hide hin
  clear hW3 hg hbs hin
  go_enter Try.func29, Try.ntmps29
  go_wp2_with fail
  rw [← HW3.out]
  refine (checkBindings_any ar ga gcap bs ba bc _ _ hl (Ints_below hWb.out Hg.out) (Binds_below hWb.out Hbs.out)).mono ?_
  rintro e w1 ⟨rfl, hb1⟩
  have Hb1 := hide (hWb.out.trans (hb1.mono (by omega)))
  have hz1 := hb1.size
  obtain ⟨d0, d1, d2, f0, f1, f2⟩ := hR3.out.below hb1
  obtain ⟨c0, c1, c2, _, _, _⟩ := hT3.out.below hb1
  have cg := cell_below hb1 hG3.out
  have HR1 := hide (hR3.out.below hb1)
  have hz1' : w.heap.size + 1 + 1 < w1.heap.size := by omega
  clear hb1 hR3 hT3 hG3 hWb HW3
  by_cases hs : bindsErr ar bs = 0
  · obtain ⟨hsg, hbe⟩ := bindsErr_sig hs
    have Hspec : Hid (applySpec ar bs t = if termErr ar t = 0 then (if 120 < (applyT bs t).sz then (zeroT, 2) else (applyT bs t, 0)) else (zeroT, termErr ar t)) := by show _ = _; rw [applySpec, if_pos hs]
    have Hbe := hide hbe
    have Hone := hide (all_one hsg)
    rw [hs]
    clear hs hbe hsg
    go_wp2_with fail
    refine (Check_any ar ga gcap t a cap _ (Ints_below Hb1.out Hg.out) (InP_below Hb1.out Hin.out)).mono ?_
    rintro e w2 ⟨rfl, hb2⟩
    rw [Hone.out]
    have Hb2 := hide (Hb1.out.trans (hb2.mono (by omega)))
    have hz2 := hb2.size
    have HR2 := hide (HR1.out.below hb2)
    have cg2 := cell_below hb2 cg
    have c02 := cell_below hb2 c0
    have c12 := cell_below hb2 c1
    have c22 := cell_below hb2 c2
    have hz2' : w.heap.size + 1 + 1 < w2.heap.size := by omega
    clear hb2 d0 d1 d2 f0 f1 f2 c0 c1 c2 cg HR1
    by_cases ht : termErr ar t = 0
    · have Hspec2 : Hid (applySpec ar bs t = if 120 < (applyT bs t).sz then (zeroT, 2) else (applyT bs t, 0)) := by show _ = _; rw [Hspec.out, if_pos ht]
      have Hok := hide (termErr_iff.1 ht)
      rw [ht]
      clear ht Hspec
      go_upto_region 7 with fail
      go_cut [10] (fun v10 wc => ∃ b10 a1 cap1, v10 = .pointer (some ⟨b10, 0, none⟩) ∧ Three wc b10 (.int .i64 (applyT bs t).v) (.int .i64 (applyT bs t).f) (.slice a1 (applyT bs t).args.length cap1) ∧ InP (fun k => w2.heap.size ≤ k) wc (applyT bs t).args a1 ∧ Hid (Below w2.heap.size w2 wc))
      case first =>
        obtain ⟨hrise, _, hlen⟩ := bindErr_rise Hbe.out
        have Honce := hide (once_of_rise hrise)
        have hlen' : bs.length ≤ 1000 := by have := hlen (by omega) (by omega); omega
        have Hran := hide (show ∀ x, x ∈ bs → 1 ≤ x.1 ∧ x.1 ≤ 1000 from fun x hx => ⟨(bindErr_ok Hbe.out x.1 x.2 hx).1, (bindErr_ok Hbe.out x.1 x.2 hx).2.1⟩)
        have Hpos := hide (show ∀ v : Int, v ≤ 0 → lookB bs v = none from fun v hv => lookB_none (fun x hx e => by have := Hran.out x hx; omega))
        have Hus := hide (show ∀ v u, (v, u) ∈ bs → u.sz ≤ 1000 from fun v u h => by have := (bindErr_ok Hbe.out v u h).2.2.1; omega)
        have HbsQ := hide (fun (w' : World) (hb : Below w2.heap.size w2 w') => Binds_imp (q := fun k => k < w2.heap.size) (fun k hk => hk.2) (Binds_mono (p := fun k => True ∧ k < w2.heap.size) (q := fun k => True ∧ k < w2.heap.size) (fun _ _ _ hp hv => ⟨hp, cell_below hb hv⟩) (Binds_lt (Binds_below Hb2.out Hbs.out))))
        have HinQ := hide (fun (w' : World) (hb : Below w2.heap.size w2 w') => InP_below hb (InP_below Hb2.out Hin.out))
        have hS := hide (fun (w' : World) (hb : Below w2.heap.size w2 w') => (show w'.cell? ⟨w.heap.size + 1, 0, none⟩ = some (.int .i64 t.v) ∧ w'.cell? ⟨w.heap.size + 1, 1, none⟩ = some (.int .i64 t.f) ∧ w'.cell? ⟨w.heap.size + 1, 2, none⟩ = some (.slice a t.args.length cap) from ⟨cell_below hb c02, cell_below hb c12, cell_below hb c22⟩))
        have ht120 := Hok.out.1
        clear hrise hlen Hbe Hbs Hin Hg Hone cg2 HR2 Hb2 Hb1 Hspec2
        go_region_held3 (fun w' => w'.cell? ⟨w.heap.size + 1, 0, none⟩ = some (.int .i64 t.v) ∧ w'.cell? ⟨w.heap.size + 1, 1, none⟩ = some (.int .i64 t.f) ∧ w'.cell? ⟨w.heap.size + 1, 2, none⟩ = some (.slice a t.args.length cap)) ((first | (refine hS.out _ ?_; (repeat' (first | with_reducible exact Hid.out ‹Hid (Below _ _ _)› | with_reducible exact Below.refl _ _ | (with_reducible refine Below.drew ?_) | (refine Below.alloc ?_ ?_ _; rotate_left; focus (first | omega | (simp; omega) | (simp; done))) | (with_reducible refine Below.setCell ?_ ?_ _; rotate_left; focus (first | exact Nat.le_refl _ | exact hsxA | (show w2.heap.size ≤ _; omega) | (simp; omega))))); done) | go_keep)) ((first
          | (go_at_call 68
             with_reducible refine (boundBy_any bs ba bc _ (fun k => k < w2.heap.size) ?_ hlen' Honce.out Hran.out ?_).mono ?_
             · intro k hk
               first | exact hk | (simp; omega)
             · exact HbsQ.out _ (by (repeat' (first | with_reducible exact Hid.out ‹Hid (Below _ _ _)› | with_reducible exact Below.refl _ _ | (with_reducible refine Below.drew ?_) | (refine Below.alloc ?_ ?_ _; rotate_left; focus (first | omega | (simp; omega) | (simp; done))))))
             rintro e xA ⟨bA, fA, rfl, hbA0, hMA, hBA, hbA⟩
             have HxA : Hid (Below w2.heap.size w2 xA) := by
               refine Below.trans (b := _) ?_ (hbA.mono ?_)
               · (repeat' (first | with_reducible exact Hid.out ‹Hid (Below _ _ _)› | with_reducible exact Below.refl _ _ | (with_reducible refine Below.drew ?_) | (refine Below.alloc ?_ ?_ _; rotate_left; focus (first | omega | (simp; omega) | (simp; done)))))
               · first | omega | (simp; omega) | (simp; done)
             have hsxA := HxA.out.size
             have hslA := hbA.size
             try (simp at hslA)
             have HMA := hide (fun (w' : World) (hb : Below xA.heap.size xA w') => hMA.below hb)
             have HBA := hide (fun (w' : World) (hb : Below xA.heap.size xA w') => hBA.mono (fun j _ hj => hb.block j hj))
             try (have H3A : Hid (Three xA w2.heap.size (.int .i64 0) (.int .i64 0) (.slice none 0 0)) := Three.below (by first | exact Three.new 27 rfl | exact Three.same (Three.new 27 rfl) rfl) hbA)
             clear hMA hBA)
          | (go_at_call 69
             with_reducible refine (applyP_any ar (fun k => k < w2.heap.size) bs bA bs.length fA Hpos.out Hus.out (t.sz + 1) t a cap _ (by omega) (by omega) ?_ ?_ Hok.out.2 ?_).mono ?_
             · exact HMA.out _ (by (repeat' (first | with_reducible exact Hid.out ‹Hid (Below _ _ _)› | with_reducible exact Below.refl _ _ | (with_reducible refine Below.drew ?_) | (refine Below.alloc ?_ ?_ _; rotate_left; focus (first | omega | (simp; omega) | (simp; done))))))
             · exact HBA.out _ (by (repeat' (first | with_reducible exact Hid.out ‹Hid (Below _ _ _)› | with_reducible exact Below.refl _ _ | (with_reducible refine Below.drew ?_) | (refine Below.alloc ?_ ?_ _; rotate_left; focus (first | omega | (simp; omega) | (simp; done))))))
             · exact HinQ.out _ (by (repeat' (first | with_reducible exact Hid.out ‹Hid (Below _ _ _)› | with_reducible exact Below.refl _ _ | (with_reducible refine Below.drew ?_) | (refine Below.alloc ?_ ?_ _; rotate_left; focus (first | omega | (simp; omega) | (simp; done))))))
             rintro e xB ⟨aB, capB, rfl, hinB, hbB⟩
             have HxB : Hid (Below w2.heap.size w2 xB) := by
               refine Below.trans (b := _) ?_ (hbB.mono ?_)
               · (repeat' (first | with_reducible exact Hid.out ‹Hid (Below _ _ _)› | with_reducible exact Below.refl _ _ | (with_reducible refine Below.drew ?_) | (refine Below.alloc ?_ ?_ _; rotate_left; focus (first | omega | (simp; omega) | (simp; done)))))
               · first | omega | (simp; omega) | (simp; done)
             have hsxB := HxB.out.size
             have hslB := hbB.size
             try (simp at hslB)
             have HinB := hide hinB
             try (have H3B : Hid (Three xB xA.heap.size (.int .i64 0) (.int .i64 0) (.slice none 0 0)) := Three.below (by first | exact Three.new 27 rfl | exact Three.same (Three.new 27 rfl) rfl) hbB; obtain ⟨y0, y1, y2, y3, y4, y5⟩ := H3B.out)
             try (have H3C : Hid (Three xB w2.heap.size (.int .i64 0) (.int .i64 0) (.slice none 0 0)) := Three.below (by first | exact H3A.out | exact Three.same H3A.out rfl) hbB; obtain ⟨x0, x1, x2, x3, x4, x5⟩ := H3C.out)
             clear hinB)))
        all_goals (go_wp2_with fail; go_meet)
        · refine ⟨xB.heap.size, aB, capB, rfl, Three.new 27 rfl, InP_alloc _ (InP_imp (fun k hk => ?_) HinB.out), HxB.out.alloc hsxB _⟩
          have hk : xA.heap.size ≤ k := hk
          omega
        · refine ⟨xA.heap.size, aB, capB, rfl, ?_, InP_imp (p := fun k => xA.heap.size + 1 ≤ k) (fun k hk => by omega) (InP_same (fun k hk _ => set3_block (b := xA.heap.size) (off := 0) (show k ≠ _ by omega)) (InP_imp (fun k hk => ?_) HinB.out)), below_set3 (b := xA.heap.size) (off := 0) HxB.out hsxA _ _ _⟩
          · have h9 := H3B.out.set (.int .i64 (applyT bs t).v) (.int .i64 (applyT bs t).f) (.slice aB (applyT bs t).args.length capB)
            exact h9
          · simpa using hk
        · refine ⟨w2.heap.size, aB, capB, rfl, ?_, InP_imp (p := fun k => w2.heap.size + 1 ≤ k) (fun k hk => by omega) (InP_same (fun k hk _ => set3_block (b := w2.heap.size) (off := 0) (show k ≠ _ by omega)) (InP_imp (fun k hk => ?_) HinB.out)), below_set3 (b := w2.heap.size) (off := 0) HxB.out (Nat.le_refl _) _ _ _⟩
          · have h9 := H3C.out.set (.int .i64 (applyT bs t).v) (.int .i64 (applyT bs t).f) (.slice aB (applyT bs t).args.length capB)
            exact h9
          · have hk : xA.heap.size ≤ k := hk
            omega
      case rest =>
        obtain ⟨b10, a1, cap1, rfl, h10, hinc, HBc⟩ := hcut
        have hzc := HBc.out.size
        have cgc := cell_below HBc.out cg2
        obtain ⟨p0, p1, p2, _, _, _⟩ := h10
        have Hinc := hide hinc
        have hzc' : w.heap.size + 1 + 1 < wc.heap.size := by omega
        have HRc := hide (HR2.out.below HBc.out)
        have Hbc := hide (Hb2.out.trans (HBc.out.mono (by omega)))
        clear hinc cg2 c02 c12 c22
        go_wp2_with fail
        refine (Check_any ar ga gcap (applyT bs t) a1 cap1 _ (Ints_below Hbc.out Hg.out) (InP_imp (q := fun _ => True) (fun _ _ => trivial) Hinc.out)).mono ?_
        rintro e w4 ⟨rfl, hb4⟩
        rw [Hone.out, termErr_apply Hbe.out Hok.out.2]
        have Hb4 := hide (Hbc.out.trans (hb4.mono (by omega)))
        have HR4 := hide (HRc.out.below hb4)
        have Hin4 := hide (InP_below hb4 Hinc.out)
        obtain ⟨r0, r1, r2, g0, g1, g2⟩ := HR4.out
        have s0 := cell_below hb4 p0
        have s1 := cell_below hb4 p1
        have s2 := cell_below hb4 p2
        have hz4 := hb4.size
        have hz4' : w.heap.size + 1 + 1 < w4.heap.size := by omega
        clear hb4 p0 p1 p2 cgc
        by_cases hbig : 120 < (applyT bs t).sz
        · rw [if_pos hbig]
          have Hsp : Hid (applySpec ar bs t = (zeroT, 2)) := by show _ = _; rw [Hspec2.out, if_pos hbig]
          clear hbig Hspec2
          go_wp2_with fail
          exact bodyPost_ret (v := .tuple #[.agg #[.int .i64 0, .int .i64 0, .slice none 0 0], .int .i64 2]) (by simp [results, Try.results29, go_sem, r0, r1, r2]) rfl
            ⟨by rw [Hsp.out]; exact givesN_zero 2 _ _, below_set3 Hb4.out (by omega) _ _ _⟩
        · rw [if_neg hbig]
          have Hsp : Hid (applySpec ar bs t = (applyT bs t, 0)) := by show _ = _; rw [Hspec2.out, if_neg hbig]
          clear hbig Hspec2
          go_wp2_with fail
          exact bodyPost_ret (v := .tuple #[.agg #[.int .i64 (applyT bs t).v, .int .i64 (applyT bs t).f, .slice a1 (applyT bs t).args.length cap1], .int .i64 0]) (by simp [results, Try.results29, go_sem, r0, r1, r2]) rfl
            ⟨by rw [Hsp.out]; exact ⟨a1, cap1, rfl, InP_imp (p := fun k => w2.heap.size ≤ k) (fun k hk => by omega) (InP_same (fun k hk _ => set3_block (by omega)) Hin4.out)⟩, below_set3 Hb4.out (by omega) _ _ _⟩
    · have hs1 : (termErr ar t != 0) = true := by simpa using ht
      have Hsp : Hid (applySpec ar bs t = (zeroT, termErr ar t)) := by show _ = _; rw [Hspec.out, if_neg ht]
      clear ht Hspec
      obtain ⟨d0, d1, d2, f0, f1, f2⟩ := HR2.out
      generalize termErr ar t = err at *
      go_wp2_with fail
      exact bodyPost_ret (v := .tuple #[.agg #[.int .i64 0, .int .i64 0, .slice none 0 0], .int .i64 err]) (by simp [results, Try.results29, go_sem, d0, d1, d2]) rfl
        ⟨by rw [Hsp.out]; exact givesN_zero err _ _, below_set3 Hb2.out (by omega) _ _ _⟩
  · have hs1 : (bindsErr ar bs != 0) = true := by simpa using hs
    have Hsp : Hid (applySpec ar bs t = (zeroT, bindsErr ar bs)) := by show _ = _; rw [applySpec, if_neg hs]
    clear hs
    generalize bindsErr ar bs = err at *
    go_wp2_with fail
    exact bodyPost_ret (v := .tuple #[.agg #[.int .i64 0, .int .i64 0, .slice none 0 0], .int .i64 err]) (by simp [results, Try.results29, go_sem, d0, d1, d2]) rfl
      ⟨by rw [Hsp.out]; exact givesN_zero err _ _, below_set3 Hb1.out (by omega) _ _ _⟩

theorem Apply_any (ar : List Int) (ga : Option Addr) (gcap : Nat) (bs : List (Int × T)) (ba : Option Addr) (bc : Nat) (t : T) (a : Option Addr) (cap : Nat) (w : World) (hg : Ints w ar ga) (hl : bs.length ≤ 9223372036854775807) (hbs : Binds (fun _ => True) w bs ba) (hin : InL w t.args a) :
    Calls Try.prog 29 #[.agg #[.slice ga ar.length gcap], .slice ba bs.length bc, .agg #[.int .i64 t.v, .int .i64 t.f, .slice a t.args.length cap]] w fun e w' => Gives (applySpec ar bs t) e w' ∧ Below w.heap.size w w' := by
  refine (Apply_new ar ga gcap bs ba bc t a cap w hg hl hbs hin).mono ?_
  rintro e w' ⟨⟨a1, cap1, he, hi⟩, hb⟩
  exact ⟨⟨a1, cap1, he, InP_imp (fun _ _ => trivial) hi⟩, hb⟩

end Go.Proofs.Ytbkedppkdhfpoaa
