/- Which rule matches a part first, and what it makes of it: the program's closure. The first place at which a rule matches: arguments from the left ahead of what has them. No word of the program's memory here. One number appended to a list of the call's own: in its place, or elsewhere, and then all that was there stays. The program's search for the first place at which a rule matches. The program's own check of bindings. The program's Apply: what it answers. -/
import Derived.Deep.RegionHeld3
import Derived.Deep.RegionLaw
import Derived.Test.YtbkedppkdhfpoabJoined8
namespace Go.Proofs.Ytbkedppkdhfpoab
open Go.RowKit

/-- The first rule that matches: what it goes to, and the bindings. -/
def hitR : List (T × T) → T → Option (T × List (Int × T))
  | [], _ => none
  | x :: rs, t => match growT x.1 t [] with
    | some bs => some (x.2, sortB bs)
    | none => hitR rs t
theorem hitR_drop {rs : List (T × T)} {k : Nat} {x : T × T} (hx : rs[k]? = some x) (t : T) : hitR (rs.drop k) t = match growT x.1 t [] with
    | some bs => some (x.2, sortB bs)
    | none => hitR (rs.drop (k + 1)) t := by
  have hlt := (List.getElem?_eq_some_iff.1 hx).1
  have e : rs.drop k = x :: rs.drop (k + 1) := by
    rw [List.getElem?_eq_getElem hlt] at hx
    simp at hx
    rw [← hx, List.getElem_cons_drop]
  rw [e, hitR]
theorem ruleErr_mem {ar : List Int} : ∀ {rs : List (T × T)}, ruleErr ar rs = 0 → ∀ x, x ∈ rs → allErr ar [x.1, x.2] = 0 ∧ gt x.1 x.2 = true := by
  intro rs
  induction rs with
  | nil => intro _ x hx; cases hx
  | cons y rs ih =>
    intro h x hx
    rw [ruleErr] at h
    by_cases h1 : allErr ar [y.1, y.2] = 0
    · rw [if_pos h1] at h
      by_cases h2 : gt y.1 y.2 = true
      · rw [if_pos h2] at h
        rcases List.mem_cons.1 hx with rfl | hx
        · exact ⟨h1, h2⟩
        · exact ih h x hx
      · rw [if_neg h2] at h; cases h
    · rw [if_neg h1] at h; exact absurd h h1

/-- Of what was there only the two boxes have changed. -/
structure Hit0 (t0 b0 : Nat) (w w' : World) : Prop where
  os : w'.os = w.os
  tape : w'.tape = w.tape
  output : w'.output = w.output
  size : w.heap.size ≤ w'.heap.size
  block : ∀ k, k < w.heap.size → k ≠ t0 → k ≠ b0 → w'.heap[k]? = w.heap[k]?
theorem Hit0.of_below {t0 b0 : Nat} {w w' : World} (h : Below w.heap.size w w') : Hit0 t0 b0 w w' := ⟨h.os, h.tape, h.output, h.size, fun k hk _ _ => h.block k hk⟩
theorem Hit0.trans {t0 b0 : Nat} {w w' w'' : World} (h : Hit0 t0 b0 w w') (k : Hit0 t0 b0 w' w'') : Hit0 t0 b0 w w'' :=
  ⟨k.os.trans h.os, k.tape.trans h.tape, k.output.trans h.output, Nat.le_trans h.size k.size, fun x hx h1 h2 => by rw [k.block x (Nat.lt_of_lt_of_le hx h.size) h1 h2, h.block x hx h1 h2]⟩

/-- What the closure answers and leaves. -/
def HitOut (t0 b0 : Nat) (rs : List (T × T)) (t : T) (w : World) (e : Ending) (w' : World) : Prop :=
  (hitR rs t = none ∧ e = .returned (.bool false) ∧ Below w.heap.size w w') ∨
  ∃ y bs a1 c1 la lc, hitR rs t = some (y, bs) ∧ e = .returned (.bool true) ∧ Three w' t0 (.int .i64 y.v) (.int .i64 y.f) (.slice a1 y.args.length c1) ∧ InP (fun k => k ≠ t0 ∧ k ≠ b0) w' y.args a1 ∧ w'.cell? ⟨b0, 0, none⟩ = some (.slice la bs.length lc) ∧ w'.frozen? ⟨b0, 0, none⟩ = false ∧ Binds (fun k => w.heap.size ≤ k) w' bs la ∧ Hit0 t0 b0 w w'

theorem hit_end {t0 b0 : Nat} {rs : List (T × T)} {t y : T} {bs : List (Int × T)} {w w5 : World} {u0 u1 u2 u3 : Value} {a2 la : Option Addr} {c2 lc : Nat} (htb : t0 ≠ b0) (htl : t0 < w.heap.size) (hbl : b0 < w.heap.size) (hT : Three w5 t0 u0 u1 u2) (hB : w5.cell? ⟨b0, 0, none⟩ = some u3) (hBf : w5.frozen? ⟨b0, 0, none⟩ = false) (hh : hitR rs t = some (y, bs))
    (hbn : Binds (fun k => w.heap.size ≤ k) w5 bs la) (hi : InP (fun k => k ≠ t0 ∧ k ≠ b0) w5 y.args a2) (hb : Below w.heap.size w w5) :
    HitOut t0 b0 rs t w (.returned (.bool true)) ((set3 w5 t0 0 (.int .i64 y.v) (.int .i64 y.f) (.slice a2 y.args.length c2)).setCell ⟨b0, 0, none⟩ (.slice la bs.length lc)) := by
  have e3 : ∀ k, k ≠ t0 → (set3 w5 t0 0 (.int .i64 y.v) (.int .i64 y.f) (.slice a2 y.args.length c2)).heap[k]? = w5.heap[k]? := fun k hk => by
    unfold set3
    rw [Below.heap_setCell _ _ _ _ hk, Below.heap_setCell _ _ _ _ hk, Below.heap_setCell _ _ _ _ hk]
  have e4 : ∀ k, k ≠ t0 → k ≠ b0 → ((set3 w5 t0 0 (.int .i64 y.v) (.int .i64 y.f) (.slice a2 y.args.length c2)).setCell ⟨b0, 0, none⟩ (.slice la bs.length lc)).heap[k]? = w5.heap[k]? := fun k h1 h2 => by
    rw [Below.heap_setCell _ _ _ _ h2]; exact e3 k h1
  have hT3 := (hT.set (.int .i64 y.v) (.int .i64 y.f) (.slice a2 y.args.length c2)).same (w' := (set3 w5 t0 0 (.int .i64 y.v) (.int .i64 y.f) (.slice a2 y.args.length c2)).setCell ⟨b0, 0, none⟩ (.slice la bs.length lc)) (Below.heap_setCell _ _ _ _ htb)
  have hBc : (set3 w5 t0 0 (.int .i64 y.v) (.int .i64 y.f) (.slice a2 y.args.length c2)).cell? ⟨b0, 0, none⟩ = some u3 := (World.cell?_of_block (w := w5) (a := ⟨b0, 0, none⟩) (e3 b0 htb.symm)).trans hB
  refine Or.inr ⟨y, bs, a2, c2, la, lc, hh, rfl, hT3, InP_same (fun k hk _ => e4 k hk.1 hk.2) hi, World.cell?_setCell_same _ _ _ hBc, ?_, ?_, ?_⟩
  · rw [World.frozen?_setCell, World.frozen?_of_block (w := w5) (a := ⟨b0, 0, none⟩) (e3 b0 htb.symm)]; exact hBf
  · exact Binds_mono (fun b' o v hp hv => ⟨hp, by
      have hp : w.heap.size ≤ b' := hp
      rw [World.cell?_of_block (w := w5) (a := ⟨b', o, none⟩) (e4 b' (by omega) (by omega))]; exact hv⟩) hbn
  · have hz := hb.size
    refine ⟨?_, ?_, ?_, ?_, fun k hk h1 h2 => (e4 k h1 h2).trans (hb.block k hk)⟩
    · exact hb.os
    · exact hb.tape
    · exact hb.output
    · simp [set3, World.setCell]; exact hz

set_option maxRecDepth 100000 in
set_option maxHeartbeats 2000000 in
theorem stepC_any (ar : List Int) (ga : Option Addr) (gcap : Nat) (rs : List (T × T)) (ra : Option Addr) (rc : Nat) (t : T) (a : Option Addr) (cap : Nat) (l0 g0 t0 b0 : Nat) (u0 u1 u2 u3 : Value) (w : World) (hrs : rulesErr ar rs = 0) (ht : t.sz ≤ 120 ∧ okP ar t) (hg : Ints w ar ga)
    (hr : RulesP (fun k => k ≠ t0 ∧ k ≠ b0) w rs ra) (hin : InP (fun k => k ≠ t0 ∧ k ≠ b0) w t.args a) (hl0 : w.cell? ⟨l0, 0, none⟩ = some (.slice ra rs.length rc)) (hg0 : w.cell? ⟨g0, 0, none⟩ = some (.slice ga ar.length gcap)) (hT : Three w t0 u0 u1 u2) (hB : w.cell? ⟨b0, 0, none⟩ = some u3) (hBf : w.frozen? ⟨b0, 0, none⟩ = false) (htb : t0 ≠ b0) :
    Calls Try.prog 66 #[.agg #[.int .i64 t.v, .int .i64 t.f, .slice a t.args.length cap], .pointer (some ⟨l0, 0, none⟩), .pointer (some ⟨g0, 0, none⟩), .pointer (some ⟨t0, 0, none⟩), .pointer (some ⟨b0, 0, none⟩)] w fun e w' => HitOut t0 b0 rs t w e w' := by
  have hsig : sigErr ar = 0 := by
    rw [rulesErr] at hrs
    by_cases h : sigErr ar = 0
    · exact h
    · rw [if_neg h] at hrs; exact absurd hrs h
  have hru : rs.length ≤ 20 ∧ ruleErr ar rs = 0 := by
    rw [rulesErr, if_pos hsig] at hrs
    by_cases h : 20 < rs.length
    · rw [if_pos h] at hrs; cases hrs
    · rw [if_neg h] at hrs; exact ⟨by omega, hrs⟩
  have HM := hide (ruleErr_mem hru.2)
  have hl20 := hru.1
  have Hsig := hide hsig
  have Ht := hide ht
  have Hg := hide hg
  have Hr := hide hr
  have Hin := hide hin
  have hll := lt_of_cell hl0
  have hgl := lt_of_cell hg0
  have htl := hT.lt
  have hbl := lt_of_cell hB
  have HT := hide hT
  have HB := hide hB
  have HBf := hide hBf
  have Hg0 := hide hg0
  clear hrs hsig hru ht hg hr hin hT hB hBf
  go_enter Try.func66, Try.ntmps66
  go_wp2_with fail
  go_loopw [14] (fun iv wr => ∃ k : Nat, k ≤ rs.length ∧ iv = .int .i64 k ∧ Hid (hitR rs t = hitR (rs.drop k) t) ∧ Hid (Below w.heap.size w wr) ∧ Three wr w.heap.size (.int .i64 t.v) (.int .i64 t.f) (.slice a t.args.length cap)) (fun iv _ => rs.length - (intOf iv).toNat)
  case atStart => exact ⟨0, Nat.zero_le _, rfl, by rw [List.drop_zero]; rfl, below1 _ _, Three.new _ rfl⟩
  case round =>
    obtain ⟨k, hk, rfl, Hk, Hb, h3⟩ := hrel
    have hzr := h3.lt
    have H3 := hide h3
    by_cases hlt : k < rs.length
    · obtain ⟨b, off, rfl⟩ := RulesP_some Hr.out (by omega)
      obtain ⟨x, hx⟩ : ∃ x, rs[k]? = some x := ⟨rs[k], List.getElem?_eq_getElem hlt⟩
      obtain ⟨a1, c1, a2, c2, _, k0, k1, k2, k3, k4, k5, hi1, hi2⟩ := RulesP_at (RulesP_below Hb.out Hr.out) hx
      have hok := (HM.out x (List.mem_of_getElem? hx)).1
      have hst := hitR_drop hx t
      rw [← Hk.out] at hst
      have hun := allErr_iff.1 hok
      have hpr : allErr ar [x.1, t] = 0 := allErr_iff.2 ⟨Hsig.out, fun y hy => by
        rcases List.mem_cons.1 hy with rfl | hy
        · exact hun.2 x.1 (by simp)
        · rcases List.mem_cons.1 hy with rfl | hy
          · exact Ht.out
          · cases hy⟩
      have HX := hide (fun o => Match_any ar ga gcap x.1 a1 c1 t a cap (wr.alloc o) (Ints_alloc o (Ints_below Hb.out Hg.out)) (InP_alloc o (InP_imp (fun _ _ => trivial) hi1)) (InP_alloc o (InP_imp (fun _ _ => trivial) (InP_below Hb.out Hin.out))))
      have Hms : Hid (matchSpec ar x.1 t = match growT x.1 t [] with | some bs => (sortB bs, true, 0) | none => ([], false, 0)) := by show _ = _; rw [matchSpec, if_pos hpr] <;> cases growT x.1 t [] <;> rfl
      obtain ⟨q0, q1, q2, _, _, _⟩ := h3
      have cg : wr.cell? ⟨g0, 0, none⟩ = some (.slice ga ar.length gcap) := by rw [Hb.out.cell (p := ⟨g0, 0, none⟩) hgl]; exact Hg0.out
      have hkI : (k : Int) < rs.length := by omega
      have hk0 : (0 : Int) ≤ k := by omega
      have hbb := lt_of_cell k0
      have hgr : g0 < wr.heap.size := by omega
      have Hst := hide hst
      have Hi2 := hide hi2
      clear hst hok hun hpr hx hi1 hi2 Hk
      go_wp2_with fail
      refine (HX.out _).mono ?_
      rintro e w5 ⟨⟨la, lc, rfl, hbn⟩, hb5⟩
      have hb5r : Below wr.heap.size wr w5 := (below1 _ _).trans (hb5.mono (by simp))
      have Hb5 := hide (Hb.out.trans (hb5r.mono Hb.out.size))
      have H35 := hide (H3.out.below hb5r)
      cases hgt : growT x.1 t [] with
      | none =>
        have Hs2 : Hid (hitR rs t = hitR (rs.drop (k + 1)) t) := by show _ = _; rw [Hst.out, hgt]
        have Hm1 : Hid (matchSpec ar x.1 t = ([], false, 0)) := by show _ = _; rw [Hms.out, hgt]
        rw [Hm1.out]
        clear Hst Hms Hm1 hgt hb5 hb5r hbn HX
        go_wp2_with fail
        go_roundw
        case rel => exact ⟨k + 1, by omega, by go_num, Hs2, Hb5, H35.out⟩
        case measure => simp [intOf]; omega
      | some bs =>
        have Hs2 : Hid (hitR rs t = some (x.2, sortB bs)) := by show _ = _; rw [Hst.out, hgt]
        have Hm1 : Hid (matchSpec ar x.1 t = (sortB bs, true, 0)) := by show _ = _; rw [Hms.out, hgt]
        rw [Hm1.out] at hbn ⊢
        have r3 : w5.cell? ⟨wr.heap.size, 3, none⟩ = some (.int .i64 x.2.v) := by rw [hb5.cell (p := ⟨wr.heap.size, 3, none⟩) (by simp)]; exact cell_new 3 rfl
        have r4 : w5.cell? ⟨wr.heap.size, 4, none⟩ = some (.int .i64 x.2.f) := by rw [hb5.cell (p := ⟨wr.heap.size, 4, none⟩) (by simp)]; exact cell_new 4 rfl
        have r5 : w5.cell? ⟨wr.heap.size, 5, none⟩ = some (.slice a2 x.2.args.length c2) := by rw [hb5.cell (p := ⟨wr.heap.size, 5, none⟩) (by simp)]; exact cell_new 5 rfl
        have hT5 := HT.out.below Hb5.out
        have HT5 := hide hT5
        obtain ⟨v0, v1, v2, f0, f1, f2⟩ := hT5
        have vB : w5.cell? ⟨b0, 0, none⟩ = some u3 := by rw [Hb5.out.cell (p := ⟨b0, 0, none⟩) hbl]; exact HB.out
        have fB : w5.frozen? ⟨b0, 0, none⟩ = false := by rw [Hb5.out.frozen (p := ⟨b0, 0, none⟩) hbl]; exact HBf.out
        have hzz := Hb.out.size
        have Hbn := hide (Binds_mono (q := fun k => w.heap.size ≤ k) (w' := w5) (fun b' o v hp hv => ⟨by have h9 : (wr.alloc _).heap.size ≤ b' := hp; rw [World.size_alloc] at h9; omega, hv⟩) hbn)
        have Hi5 := hide (InP_below hb5r Hi2.out)
        have hne1 : ¬ wr.heap.size = t0 := by omega
        have hne2 : ¬ wr.heap.size = b0 := by omega
        have hne3 : ¬ t0 = wr.heap.size := by omega
        have hne4 : ¬ b0 = wr.heap.size := by omega
        have hne5 : ¬ b0 = t0 := fun e => htb e.symm
        have hne6 : ¬ t0 = b0 := htb
        clear Hst Hms Hm1 hgt hb5 hb5r hbn HX q0 q1 q2 cg k0 k1 k2 k3 k4 k5
        go_wp2_with fail
        go_ret
        exact hit_end htb htl hbl HT5.out vB fB Hs2.out Hbn.out Hi5.out Hb5.out
    · have hk2 : k = rs.length := by omega
      subst hk2
      have Hfin : Hid (hitR rs t = none) := by show _ = _; rw [Hk.out, List.drop_length]; rfl
      clear Hk h3
      go_wp2_with fail
      go_ret
      exact Or.inl ⟨Hfin.out, rfl, Hb.out⟩

end Go.Proofs.Ytbkedppkdhfpoab

namespace Go.Proofs.Ytbkedppkdhfpoab

/-- The place, what the rule goes to, and the bindings. -/
def findR (rs : List (T × T)) : T → Option (List Int × T × List (Int × T))
  | ⟨v, f, args⟩ => match findL args 0 with
    | some r => some r
    | none => (hitR rs ⟨v, f, args⟩).map (fun h => ([], h))
  where
  findL : List T → Nat → Option (List Int × T × List (Int × T))
    | [], _ => none
    | a :: l, i => match findR rs a with
      | some r => some ((i : Int) :: r.1, r.2)
      | none => findL l (i + 1)
theorem findR_eq (rs : List (T × T)) (t : T) : findR rs t = match findR.findL rs t.args 0 with
    | some r => some r
    | none => (hitR rs t).map (fun h => ([], h)) := by cases t; rw [findR]
theorem findL_drop {rs : List (T × T)} {ts : List T} {k : Nat} {x : T} (hx : ts[k]? = some x) : findR.findL rs (ts.drop k) k = match findR rs x with
    | some r => some ((k : Int) :: r.1, r.2)
    | none => findR.findL rs (ts.drop (k + 1)) (k + 1) := by
  have hlt := (List.getElem?_eq_some_iff.1 hx).1
  have e : ts.drop k = x :: ts.drop (k + 1) := by
    rw [List.getElem?_eq_getElem hlt] at hx
    simp at hx
    rw [← hx, List.getElem_cons_drop]
  rw [e, findR.findL]
theorem findL_some {rs : List (T × T)} {t x : T} {k : Nat} {r : List Int × T × List (Int × T)} (h0 : findR.findL rs t.args 0 = findR.findL rs (t.args.drop k) k) (hx : t.args[k]? = some x) (hr : findR rs x = some r) : findR rs t = some ((k : Int) :: r.1, r.2) := by
  rw [findR_eq, h0, findL_drop hx, hr]
theorem findL_none {rs : List (T × T)} {t x : T} {k : Nat} (h0 : findR.findL rs t.args 0 = findR.findL rs (t.args.drop k) k) (hx : t.args[k]? = some x) (hr : findR rs x = none) : findR.findL rs t.args 0 = findR.findL rs (t.args.drop (k + 1)) (k + 1) := by
  rw [h0, findL_drop hx, hr]
theorem findL_end {rs : List (T × T)} {t : T} (h0 : findR.findL rs t.args 0 = findR.findL rs (t.args.drop t.args.length) t.args.length) : findR rs t = (hitR rs t).map (fun h => ([], h)) := by
  have e : findR.findL rs t.args 0 = none := by rw [h0, List.drop_length]; rfl
  rw [findR_eq, e]
/-- The place is one of the term's, and what stands there is matched. -/
theorem findR_place {rs : List (T × T)} : ∀ (n : Nat) (t : T) (r : List Int × T × List (Int × T)), t.sz ≤ n → findR rs t = some r → ∃ u, atT t r.1 = some u ∧ hitR rs u = some r.2 ∧ r.1.length < n + 1 := by
  intro n
  induction n with
  | zero => intro t r h; have := t.sz_pos; omega
  | succ n ih =>
    intro t r hn hr
    have hL : ∀ (d k : Nat), d = t.args.length - k → k ≤ t.args.length → findR.findL rs t.args 0 = findR.findL rs (t.args.drop k) k → ∃ u, atT t r.1 = some u ∧ hitR rs u = some r.2 ∧ r.1.length < n + 1 + 1 := by
      intro d
      induction d with
      | zero =>
        intro k hd hk h0
        have hk2 : k = t.args.length := by omega
        subst hk2
        rw [findL_end h0] at hr
        cases hh : hitR rs t with
        | none => rw [hh] at hr; cases hr
        | some h =>
          rw [hh] at hr
          obtain rfl : ([], h) = r := by simpa using hr
          exact ⟨t, by rw [atT], hh, by simp⟩
      | succ d ihd =>
        intro k hd hk h0
        obtain ⟨x, hx⟩ : ∃ x, t.args[k]? = some x := ⟨t.args[k]'(by omega), List.getElem?_eq_getElem (by omega)⟩
        cases hf : findR rs x with
        | none => exact ihd (k + 1) (by omega) (by omega) (findL_none h0 hx hf)
        | some q =>
          rw [findL_some h0 hx hf] at hr
          obtain rfl : ((k : Int) :: q.1, q.2) = r := by simpa using hr
          have hxs := T.szL_mem (List.mem_of_getElem? hx)
          have hte := T.sz_eq t
          obtain ⟨u, h1, h2, h3⟩ := ih x q (by omega) hf
          refine ⟨u, ?_, h2, by simp; omega⟩
          show atT t ((k : Int) :: q.1) = some u
          rw [atT, if_pos (by omega), Int.toNat_natCast, hx]
          exact h1
    exact hL _ 0 rfl (Nat.zero_le _) (by rw [List.drop_zero])

end Go.Proofs.Ytbkedppkdhfpoab

namespace Go.Proofs.Ytbkedppkdhfpoab
open Go.RowKit

theorem app_keep {w : World} {base : Nat} {v : Value} {ys : List Int} {z : Int} {a : Addr} {c : Nat} (ty : TypeId) (hown : OwnI base w v ys) (hz : w.cell? a = some (.int .i64 z)) (hl : ys.length ≤ 1000) (hbase : base ≤ w.heap.size) :
    ∃ v' w', (Builtin.append_ #[22, 22] ty #[v, .slice (some a) 1 c]).run Try.prog w = .ok v' w' ∧ OwnI base w' v' (ys ++ [z]) ∧
      ((∃ g cap, v = .slice (some ⟨g, 0, none⟩) ys.length cap ∧ v' = .slice (some ⟨g, 0, none⟩) (ys.length + 1) cap ∧ w.grownBy w' (some g)) ∨ (v'.ownBlock = some w.heap.size ∧ Below w.heap.size w w')) := by
  obtain ⟨i, hi, hzz⟩ := Option.map_eq_some_iff.1 Try.info3
  simp only [Prod.mk.injEq] at hzz
  obtain ⟨hz0, hz1, hz2⟩ := hzz
  have hnew : ∀ j u, [Value.int .i64 z][j]? = some u → w.cell? (a.add j) = some u := fun j u hu => by
    cases j with
    | zero =>
      have e : a.add 0 = a := by cases a; simp [Addr.add]
      rw [e, hz]; simpa using hu
    | succ j => simp at hu
  have hone : ∀ u, u ∈ [Value.int .i64 z] → u.oneCell' = true := fun u hu => by
    rw [List.mem_singleton] at hu; subst hu; rfl
  obtain ⟨v', w', hr, h2, h3, _, h5⟩ := run_append_own_at (P := Try.prog) w base 22 ty 3 i (.int .i64 0) 1 8 Try.underlying22 hi hz0 hz1 hz2 rfl (by decide) v ys.length (ys.map (Value.int .i64)) hown a 1 c [.int .i64 z] rfl hnew hone (by unfold maxLen; omega) (by omega) hbase
  have h2' : OwnI base w' v' (ys ++ [z]) := by
    show w'.ownsRow base 3 1 v' (ys ++ [z]).length ((ys ++ [z]).map (Value.int .i64))
    rw [List.length_append, List.map_append]; exact h2
  refine ⟨v', w', hr, h2', ?_⟩
  rcases hown.2 with ⟨rfl, h0⟩ | ⟨g, cap, cur, rfl, hb, hg, hc, hm, hs, ht⟩
  · right
    have hne : v'.ownBlock ≠ none := fun e => by
      rcases h2.2 with ⟨rfl, h⟩ | ⟨g, cap, cur, rfl, _⟩
      · omega
      · cases e
    rcases h5 with h5 | h5
    · exact absurd h5 hne
    · exact ⟨h5, h3.os, h3.tape, h3.output, h3.size, fun k hk => h3.block k hk (fun e => by cases e)⟩
  · by_cases hroom : ys.length + 1 ≤ cap
    · left
      have hr2 := run_append_room (P := Try.prog) w 22 ty 3 i Try.underlying22 hi g ys.length cap cur hg a 1 c [.int .i64 z] (by rw [hz1]; rfl) hnew hone hroom (by rw [hz1, hs]; simp; omega)
      rw [hr] at hr2
      have e1 : v' = .slice (some ⟨g, 0, none⟩) (ys.length + 1) cap := by injection hr2
      exact ⟨g, cap, rfl, e1, h3⟩
    · right
      have hold : ∀ j u, (ys.map (Value.int .i64))[j]? = some u → w.cell? ((⟨g, 0, none⟩ : Addr).add j) = some u := hown.cells (g := g) rfl
      have hr2 := run_append_grow (P := Try.prog) w 22 ty 3 i (.int .i64 0) Try.underlying22 hi hz0 ⟨g, 0, none⟩ ys.length cap (ys.map (Value.int .i64)) (by rw [hz1]; simp) hold a 1 c [.int .i64 z] (by rw [hz1]; rfl) hnew (by omega) (by omega) (growslice_fits (by omega) (by rw [hz2]; omega))
      rw [hr] at hr2
      injection hr2 with e1 e2
      rw [e1, e2]
      exact ⟨rfl, (Below.refl w.heap.size w).drew.alloc (Nat.le_refl _) _⟩
/-- The list that was appended to stands in the longer one. -/
theorem own_prefix {w : World} {base g cap n : Nat} {ys zs : List Int} (h : OwnI base w (.slice (some ⟨g, 0, none⟩) n cap) (ys ++ zs)) (hn : n = ys.length + zs.length) : OwnI base w (.slice (some ⟨g, 0, none⟩) ys.length cap) ys := by
  obtain ⟨h1, h2⟩ := h
  refine ⟨by simp, ?_⟩
  rcases h2 with ⟨h2, _⟩ | ⟨g', cap', cur, hv, hb, hh, hc, hm, hs, ht⟩
  · cases h2
  · simp only [Value.slice.injEq, Option.some.injEq, Addr.mk.injEq, and_true] at hv
    obtain ⟨rfl, hn2, rfl⟩ := hv
    refine Or.inr ⟨g, cap, cur, rfl, hb, hh, by rw [List.length_append] at hc; omega, hm, hs, ?_⟩
    have h9 := congrArg (List.take (ys.length * 1)) ht
    rw [List.take_take, List.map_append, List.length_append] at h9
    rw [show min (ys.length * 1) ((ys.length + zs.length) * 1) = ys.length * 1 by omega] at h9
    rw [h9]
    have e : ys.length * 1 = (ys.map (Value.int .i64)).length := by simp
    rw [e, List.take_left]

end Go.Proofs.Ytbkedppkdhfpoab

namespace Go.Proofs.Ytbkedppkdhfpoab
open Go.RowKit

theorem eg66 (args : Array Value) (w : World) : (callFunc 66 args).run Try.prog w = .ok (.enter 66 args) w := by kernel_rfl

/-- What the search's closure leans on: where it lies, at the world W0 at which the search began. -/
structure FSz (ar : List Int) (ga : Option Addr) (gcap : Nat) (rs : List (T × T)) (ra : Option Addr) (rc l0 g0 t0 b0 LO : Nat) (W0 : World) : Prop where
  rsok : rulesErr ar rs = 0
  l : W0.cell? ⟨l0, 0, none⟩ = some (.slice ra rs.length rc)
  g : W0.cell? ⟨g0, 0, none⟩ = some (.slice ga ar.length gcap)
  r : RulesP (fun k => k < LO ∧ k ≠ t0 ∧ k ≠ b0) W0 rs ra
  gi : ∀ w', (∀ k, k < LO → k ≠ t0 → k ≠ b0 → w'.heap[k]? = W0.heap[k]?) → Ints w' ar ga
  ll : l0 < LO ∧ l0 ≠ t0 ∧ l0 ≠ b0
  gl : g0 < LO ∧ g0 ≠ t0 ∧ g0 ≠ b0
  tl : t0 < LO
  bl : b0 < LO
  ne : t0 ≠ b0
/-- What stands of it in a later world. -/
structure FD (t0 b0 LO : Nat) (W0 w : World) : Prop where
  same : ∀ k, k < LO → k ≠ t0 → k ≠ b0 → w.heap[k]? = W0.heap[k]?
  T : ∃ u0 u1 u2, Three w t0 u0 u1 u2
  B : ∃ u3, w.cell? ⟨b0, 0, none⟩ = some u3
  Bf : w.frozen? ⟨b0, 0, none⟩ = false
  size : LO ≤ w.heap.size
/-- Nothing below LO changes: it stands. -/
theorem FD.keep {t0 b0 LO : Nat} {W0 w w' : World} (h : FD t0 b0 LO W0 w) (ht : t0 < LO) (hb : b0 < LO) (hs : ∀ k, k < LO → w'.heap[k]? = w.heap[k]?) (hz : w.heap.size ≤ w'.heap.size) : FD t0 b0 LO W0 w' := by
  obtain ⟨u0, u1, u2, h3⟩ := h.T
  obtain ⟨u3, h4⟩ := h.B
  exact ⟨fun k h1 h2 h3 => (hs k h1).trans (h.same k h1 h2 h3), ⟨u0, u1, u2, h3.same (hs t0 ht)⟩, ⟨u3, (World.cell?_of_block (w := w) (a := ⟨b0, 0, none⟩) (hs b0 hb)).trans h4⟩, (World.frozen?_of_block (w := w) (a := ⟨b0, 0, none⟩) (hs b0 hb)).trans h.Bf, Nat.le_trans h.size hz⟩
/-- The closure, at a world in which all stands. -/
theorem stepC_at {ar : List Int} {ga : Option Addr} {gcap : Nat} {rs : List (T × T)} {ra : Option Addr} {rc l0 g0 t0 b0 LO : Nat} {W0 : World} (h : FSz ar ga gcap rs ra rc l0 g0 t0 b0 LO W0) {w : World} (hd : FD t0 b0 LO W0 w) (t : T) (a : Option Addr) (cap : Nat) (ht : t.sz ≤ 120 ∧ okP ar t) (hin : InP (fun k => k < LO ∧ k ≠ t0 ∧ k ≠ b0) W0 t.args a) :
    Calls Try.prog 66 #[.agg #[.int .i64 t.v, .int .i64 t.f, .slice a t.args.length cap], .pointer (some ⟨l0, 0, none⟩), .pointer (some ⟨g0, 0, none⟩), .pointer (some ⟨t0, 0, none⟩), .pointer (some ⟨b0, 0, none⟩)] w fun e w' => HitOut t0 b0 rs t w e w' := by
  obtain ⟨u0, u1, u2, h3⟩ := hd.T
  obtain ⟨u3, h4⟩ := hd.B
  refine stepC_any ar ga gcap rs ra rc t a cap l0 g0 t0 b0 u0 u1 u2 u3 w h.rsok ht (h.gi w hd.same) ?_ ?_ ?_ ?_ h3 h4 hd.Bf h.ne
  · exact RulesP_mono (fun b o v hp hv => ⟨hp.2, (World.cell?_of_block (w := W0) (a := ⟨b, o, none⟩) (hd.same b hp.1 hp.2.1 hp.2.2)).trans hv⟩) h.r
  · exact InP_imp (fun k hk => hk.2) (InP_same (fun k hk _ => hd.same k hk.1 hk.2.1 hk.2.2) hin)
  · exact (World.cell?_of_block (w := W0) (a := ⟨l0, 0, none⟩) (hd.same l0 h.ll.1 h.ll.2.1 h.ll.2.2)).trans h.l
  · exact (World.cell?_of_block (w := W0) (a := ⟨g0, 0, none⟩) (hd.same g0 h.gl.1 h.gl.2.1 h.gl.2.2)).trans h.g

/-- What the search answers and leaves: 'here' is the list v of ys. -/
def FOut (t0 b0 base : Nat) (v : Value) (ys : List Int) (r : Option (List Int × T × List (Int × T))) (w : World) (e : Ending) (w' : World) : Prop :=
  ∃ v' B, e = .returned (.tuple #[v', .bool B]) ∧ ((B = false ∧ r = none ∧ v' = v ∧ OwnI base w' v ys ∧ w.grownBy w' v.ownBlock) ∨
    (B = true ∧ ∃ p y bs a1 c1 la lc, r = some (p, y, bs) ∧ OwnI base w' v' (ys ++ p) ∧ Three w' t0 (.int .i64 y.v) (.int .i64 y.f) (.slice a1 y.args.length c1) ∧ InP (fun k => k ≠ t0 ∧ k ≠ b0) w' y.args a1 ∧ w'.cell? ⟨b0, 0, none⟩ = some (.slice la bs.length lc) ∧ w'.frozen? ⟨b0, 0, none⟩ = false ∧ Binds (fun k => w.heap.size ≤ k) w' bs la ∧
      w'.os = w.os ∧ w'.tape = w.tape ∧ w'.output = w.output ∧ w.heap.size ≤ w'.heap.size ∧ ∀ k, k < w.heap.size → k ≠ t0 → k ≠ b0 → v.ownBlock ≠ some k → w'.heap[k]? = w.heap[k]?))

theorem step_append_keep {w : World} {ops : Array Oper} {o : Oper} {a : Act} {K : Act → World → Prop} {Q : Exit → Act → World → Prop} {E : Prop} (hgd : o.guard = none) (s x : Operand) (ho : o.op = .call { callee := .builtin .append, args := #[s, x], argTypes := #[22, 22] })
    (base : Nat) (v : Value) (ys : List Int) (hs : a.eval s = v) (hown : OwnI base w v ys) (ad : Addr) (c : Nat) (z : Int) (hx : a.eval x = .slice (some ad) 1 c) (hz : w.cell? ad = some (.int .i64 z)) (hl : ys.length ≤ 1000) (hbase : base ≤ w.heap.size)
    (h : ∀ v' w', OwnI base w' v' (ys ++ [z]) → ((∃ g cap, v = .slice (some ⟨g, 0, none⟩) ys.length cap ∧ v' = .slice (some ⟨g, 0, none⟩) (ys.length + 1) cap ∧ w.grownBy w' (some g)) ∨ (v'.ownBlock = some w.heap.size ∧ Below w.heap.size w w')) → K (a.put o.dst v') w') :
    if Region.wanted o (yielded ops a.tmps) = true then Oper.wp Try.prog o a w K Q else E := by
  have hw : Region.wanted o (yielded ops a.tmps) = true := by simp [Region.wanted, hgd]
  rw [if_pos hw]
  obtain ⟨v', w', hr, h2, h3⟩ := app_keep o.type hown hz hl hbase (c := c)
  unfold Oper.wp execOp
  simp only [ho, resolve, invoke, builtin, Sem.run_bind, Sem.run_pure, Result.andThen_ok, List.map_toArray, List.map_cons, List.map_nil, hs, hx, hr]
  exact h v' w' h2 h3

/-- Behind the append: what stands, and what the longer list's being there again tells. -/
theorem app_after {base : Nat} {v v6 : Value} {ys : List Int} {z : Int} {wr wa w6 : World} (ho : OwnI base wr v ys) (hba : Below wr.heap.size wr wa) (hc : (∃ g cap, v = .slice (some ⟨g, 0, none⟩) ys.length cap ∧ v6 = .slice (some ⟨g, 0, none⟩) (ys.length + 1) cap ∧ wa.grownBy w6 (some g)) ∨ (v6.ownBlock = some wa.heap.size ∧ Below wa.heap.size wa w6)) :
    wr.grownBy w6 v.ownBlock ∧ (∀ k, k < wr.heap.size → v.ownBlock ≠ some k → v6.ownBlock ≠ some k) ∧ ∀ w7, OwnI base w7 v6 (ys ++ [z]) → w6.grownBy w7 v6.ownBlock → OwnI base w7 v ys ∧ wr.grownBy w7 v.ownBlock := by
  have hza := hba.size
  rcases hc with ⟨g, cap, rfl, rfl, hg⟩ | ⟨h6, hb6⟩
  · have hgr : wr.grownBy w6 (some g) := ⟨hg.os.trans hba.os, hg.tape.trans hba.tape, hg.output.trans hba.output, Nat.le_trans hza hg.size, fun k hk hne => (hg.block k (by omega) hne).trans (hba.block k hk)⟩
    refine ⟨hgr, fun k _ h => h, fun w7 h7 hg7 => ⟨own_prefix h7 (by simp), hgr.trans hg7⟩⟩
  · have hz6 := hb6.size
    have hk6 : ∀ k, k < wr.heap.size → w6.heap[k]? = wr.heap[k]? := fun k hk => (hb6.block k (by omega)).trans (hba.block k hk)
    refine ⟨⟨hb6.os.trans hba.os, hb6.tape.trans hba.tape, hb6.output.trans hba.output, by omega, fun k hk _ => hk6 k hk⟩, fun k hk _ e => by rw [h6] at e; cases e; omega, fun w7 h7 hg7 => ?_⟩
    have hk7 : ∀ k, k < wr.heap.size → w7.heap[k]? = wr.heap[k]? := fun k hk => (hg7.block k (by omega) (fun e => by rw [h6] at e; cases e; omega)).trans (hk6 k hk)
    exact ⟨own_same ho (fun g hg => hk7 g (own_lt ho g hg).2), hg7.os.trans (hb6.os.trans hba.os), hg7.tape.trans (hb6.tape.trans hba.tape), hg7.output.trans (hb6.output.trans hba.output), by have := hg7.size; omega, fun k hk _ => hk7 k hk⟩

attribute [local go_sem ↓] Go.wp_at_zero Go.wp_at_succ
set_option maxRecDepth 100000 in
set_option maxHeartbeats 2000000 in
theorem first_any {ar : List Int} {ga : Option Addr} {gcap : Nat} {rs : List (T × T)} {ra : Option Addr} {rc l0 g0 t0 b0 LO : Nat} {W0 : World} (h : FSz ar ga gcap rs ra rc l0 g0 t0 b0 LO W0) (base : Nat) (hLO : LO ≤ base) (N : Nat) : ∀ (t : T) (a : Option Addr) (cap : Nat) (v : Value) (ys : List Int) (w : World), t.sz ≤ N → t.sz ≤ 120 → okP ar t → ys.length + t.sz ≤ 1000 → FD t0 b0 LO W0 w → base ≤ w.heap.size → OwnI base w v ys → InP (fun k => k < LO ∧ k ≠ t0 ∧ k ≠ b0) W0 t.args a →
    Calls Try.prog 65 #[.agg #[.int .i64 t.v, .int .i64 t.f, .slice a t.args.length cap], v, .func (.func 66) #[] #[.pointer (some ⟨l0, 0, none⟩), .pointer (some ⟨g0, 0, none⟩), .pointer (some ⟨t0, 0, none⟩), .pointer (some ⟨b0, 0, none⟩)]] w fun e w' => FOut t0 b0 base v ys (findR rs t) w e w' := by
  induction N with
  | zero => intro t a cap v ys w hN; have := t.sz_pos; omega
  | succ N ih =>
    intro t a cap v ys w hN h120 hok hyl hd hbase hown hin
    have eg := eg66
    have Hih := hide ih
    have Hd0 := hide hd
    have Hown := hide hown
    have Hin := hide hin
    have Hok := hide hok
    have Hfs := hide h
    have hts := T.sz_eq t
    have htl : t.args.length ≤ 1000 := by have := T.length_le t.args; omega
    have hvb := own_lt hown
    have Hvb := hide hvb
    clear ih hd hown hin hok hvb
    go_enter Try.func65, Try.ntmps65
    go_wp2_with fail
    go_loopw [15] (fun iv wr => ∃ k : Nat, k ≤ t.args.length ∧ iv = .int .i64 k ∧ Hid (findR.findL rs t.args 0 = findR.findL rs (t.args.drop k) k) ∧ Hid (FD t0 b0 LO W0 wr) ∧ Hid (OwnI base wr v ys) ∧ Hid (w.grownBy wr v.ownBlock) ∧ Three wr w.heap.size (.int .i64 t.v) (.int .i64 t.f) (.slice a t.args.length cap)) (fun iv _ => t.args.length - (intOf iv).toNat)
    case atStart =>
      refine ⟨0, Nat.zero_le _, rfl, by rw [List.drop_zero]; rfl, ?_, OwnI.below Hown.out (below1 _ _), ⟨rfl, rfl, rfl, by simp, fun k hk _ => (below1 w _).block k hk⟩, Three.new _ rfl⟩
      exact Hd0.out.keep Hfs.out.tl Hfs.out.bl (fun k hk => (below1 w _).block k (by omega)) (by simp)
    case round =>
      obtain ⟨k, hk, rfl, Hk, Hd, Ho, Hgr, h3⟩ := hrel
      have H3 := hide h3
      have hzr := h3.lt
      by_cases hlt : k < t.args.length
      · obtain ⟨b, off, rfl⟩ := InP_some Hin.out (by omega)
        obtain ⟨x, hx⟩ : ∃ x, t.args[k]? = some x := ⟨t.args[k], List.getElem?_eq_getElem hlt⟩
        obtain ⟨a3, cap3, hpb, d0, d1, d2, hinx⟩ := InP_at Hin.out hx
        have hsb := Hd.out.same b hpb.1 hpb.2.1 hpb.2.2
        have k0 : wr.cell? ⟨b, off + k * 3, none⟩ = some (.int .i64 x.v) := (World.cell?_of_block (w := W0) (a := ⟨b, off + k * 3, none⟩) hsb).trans d0
        have k1 : wr.cell? ⟨b, off + k * 3 + 1, none⟩ = some (.int .i64 x.f) := (World.cell?_of_block (w := W0) (a := ⟨b, off + k * 3 + 1, none⟩) hsb).trans d1
        have k2 : wr.cell? ⟨b, off + k * 3 + 2, none⟩ = some (.slice a3 x.args.length cap3) := (World.cell?_of_block (w := W0) (a := ⟨b, off + k * 3 + 2, none⟩) hsb).trans d2
        have hxm := List.mem_of_getElem? hx
        have hxs := T.szL_mem hxm
        have hxo := okL_mem.1 (okP_iff.1 Hok.out).2 x hxm
        have Hx := hide hx
        have Hinx := hide hinx
        have Hxo := hide hxo
        have hkI : (k : Int) < t.args.length := by omega
        have hk0 : (0 : Int) ≤ k := by omega
        have HO := hide (fun (w' : World) (hh : w'.heap = ((wr.alloc (.cells #[.int .i64 x.v, .int .i64 x.f, .slice a3 x.args.length cap3] 28)).alloc (.cells #[.int .i64 (k : Int)] 3)).heap) => own_same Ho.out (w' := w') (fun g hg => by rw [hh]; exact (below2 wr _ _).block g (own_lt Ho.out g hg).2))
        have HC := hide (fun (w' : World) (hh : w'.heap = ((wr.alloc (.cells #[.int .i64 x.v, .int .i64 x.f, .slice a3 x.args.length cap3] 28)).alloc (.cells #[.int .i64 (k : Int)] 3)).heap) => (show w'.cell? ⟨wr.heap.size + 1, 0, none⟩ = some (.int .i64 (k : Int)) from by
          rw [World.cell?_of_block (w := (wr.alloc (.cells #[.int .i64 x.v, .int .i64 x.f, .slice a3 x.args.length cap3] 28)).alloc (.cells #[.int .i64 (k : Int)] 3)) (a := ⟨wr.heap.size + 1, 0, none⟩) (by rw [hh])]
          exact cell_new 0 (by simp)))
        have hyk : ys.length ≤ 1000 := by omega
        have hbr : base ≤ wr.heap.size := by omega
        clear hx hinx hxo d0 d1 d2 hsb
        go_wp2_with fail
        go_region_law ((first
          | (refine step_append_keep rfl (.tmp 22) (.tmp 24) rfl base v ys rfl (HO.out _ rfl) ⟨wr.heap.size + 1, 0, none⟩ 1 (k : Int) rfl (HC.out _ rfl) hyk (by simp; omega) ?_
             intro v6 w6 hown6 hcase
             have HA := hide (app_after (z := (k : Int)) Ho.out (by exact ⟨rfl, rfl, rfl, (below2 wr _ _).size, (below2 wr _ _).block⟩) hcase)
             have HO6 := hide hown6
             have HD6 := hide (Hd.out.keep (w' := w6) Hfs.out.tl Hfs.out.bl (fun j hj => HA.out.1.block j (by have := Hd.out.size; omega) (fun e => by have := (own_lt Ho.out j e.symm).1; omega)) HA.out.1.size)
             have hz6 := HA.out.1.size
             have hbx : w6.heap[wr.heap.size]? = ((wr.alloc (.cells #[.int .i64 x.v, .int .i64 x.f, .slice a3 x.args.length cap3] 28)).alloc (.cells #[.int .i64 (k : Int)] 3)).heap[wr.heap.size]? := by
               rcases hcase with ⟨g, cap', e1, _, hg⟩ | ⟨_, hb⟩
               · exact hg.block wr.heap.size (by simp; omega) (fun e => by have h9 := (own_lt Ho.out g (by rw [e1]; rfl)).2; simp at e; omega)
               · exact hb.block wr.heap.size (by simp; omega)
             obtain ⟨z0, z1, z2, _, _, _⟩ := ((Three.new 28 rfl).alloc _).same hbx
             clear hown6 hcase hbx)
          | (go_simp
             go_at_call 65
             refine (Hih.out x a3 cap3 v6 (ys ++ [(k : Int)]) _ (by omega) (by omega) Hxo.out (by rw [List.length_append, List.length_singleton]; omega) HD6.out (by omega) HO6.out Hinx.out).mono ?_
             rintro e w7 ⟨v7, B, rfl, hout⟩)))
        all_goals
          have hz7 : True := trivial
          rcases hout with ⟨hB, hr7, hv7, ho7, hg7⟩ | ⟨hB, p, y, bs, a1, c1, la, lc, hr7, ho7, hT7, hI7, hc7, hf7, hb7, e1, e2, e3, e4, e5⟩
          · subst hB hv7
            obtain ⟨j1, j2⟩ := HA.out.2.2 w7 ho7 hg7
            have Ho7 := hide j1
            have Hg7 := hide (Hgr.out.trans j2)
            have HD7 := hide (Hd.out.keep (w' := w7) Hfs.out.tl Hfs.out.bl (fun i hi => j2.block i (by have := Hd.out.size; omega) (fun e => by have := (own_lt Ho.out i e.symm).1; omega)) j2.size)
            have H37 := hide (H3.out.same (j2.block w.heap.size hzr (fun e => by have := (Hvb.out _ e.symm).2; omega)))
            have Hn := hide (findL_none Hk.out Hx.out hr7)
            clear j1 j2 ho7 hg7 hr7
            go_wp2_with fail
            go_roundw
            case rel => exact ⟨k + 1, by omega, by go_num, Hn, HD7, Ho7, Hg7, H37.out⟩
            case measure => simp [intOf]; omega
          · subst hB
            have Hn := hide (findL_some Hk.out Hx.out hr7)
            have Hfo : Hid (FOut t0 b0 base v ys (findR rs t) w (.returned (.tuple #[v7, .bool true])) w7) := by
              have hw6 : wr.heap.size ≤ w6.heap.size := HA.out.1.size
              have hwr : w.heap.size ≤ wr.heap.size := Hgr.out.size
              refine ⟨v7, true, rfl, Or.inr ⟨rfl, (k : Int) :: p, y, bs, a1, c1, la, lc, Hn.out, by rw [List.append_cons]; exact ho7, hT7, hI7, hc7, hf7, Binds_imp (fun j hj => by have hj : w6.heap.size ≤ j := hj; omega) hb7, e1.trans (HA.out.1.os.trans Hgr.out.os), e2.trans (HA.out.1.tape.trans Hgr.out.tape), e3.trans (HA.out.1.output.trans Hgr.out.output), by omega, fun j hj h1 h2 h3' => ?_⟩⟩
              have n1 : some j ≠ v.ownBlock := fun e => h3' e.symm
              rw [e5 j (by omega) h1 h2 (HA.out.2.1 j (by omega) h3'), HA.out.1.block j (by omega) n1, Hgr.out.block j hj n1]
            clear hr7 ho7 hT7 hI7 hc7 hf7 hb7 e1 e2 e3 e4 e5
            go_wp2_with fail
            go_ret2
            exact Hfo.out
      · have hk2 : k = t.args.length := by omega
        subst hk2
        have Hfin := hide (findL_end Hk.out)
        obtain ⟨q0, q1, q2, _, _, _⟩ := h3
        have HS := hide (stepC_at Hfs.out Hd.out t a cap ⟨h120, Hok.out⟩ Hin.out)
        clear Hk
        go_wp2_with fail
        refine HS.out.mono ?_
        rintro e w5 (⟨n1, rfl, n3⟩ | ⟨y, bs, a1, c1, la, lc, n1, rfl, n3, n4, n5, n6, n7, n8⟩)
        · have Hfo : Hid (FOut t0 b0 base v ys (findR rs t) w (.returned (.tuple #[v, .bool false])) w5) := ⟨v, false, rfl, Or.inl ⟨rfl, by rw [Hfin.out, n1]; rfl, rfl, OwnI.below Ho.out n3, Hgr.out.trans ⟨n3.os, n3.tape, n3.output, n3.size, fun j hj _ => n3.block j hj⟩⟩⟩
          clear n1 n3
          go_wp2_with fail
          go_ret2
          exact Hfo.out
        · have Hfo : Hid (FOut t0 b0 base v ys (findR rs t) w (.returned (.tuple #[v, .bool true])) w5) := by
            have hwr : w.heap.size ≤ wr.heap.size := Hgr.out.size
            have htl' := Hfs.out.tl
            have hbl' := Hfs.out.bl
            refine ⟨v, true, rfl, Or.inr ⟨rfl, [], y, bs, a1, c1, la, lc, by rw [Hfin.out, n1]; rfl, ?_, n3, n4, n5, n6, Binds_imp (fun j hj => by have hj : wr.heap.size ≤ j := hj; omega) n7, n8.os.trans Hgr.out.os, n8.tape.trans Hgr.out.tape, n8.output.trans Hgr.out.output, Nat.le_trans hwr n8.size, fun j hj h1 h2 h3' => ?_⟩⟩
            · rw [List.append_nil]
              exact own_same Ho.out (fun g hg => n8.block g (own_lt Ho.out g hg).2 (by have := (own_lt Ho.out g hg).1; omega) (by have := (own_lt Ho.out g hg).1; omega))
            · rw [n8.block j (by omega) h1 h2, Hgr.out.block j hj (fun e => h3' e.symm)]
          clear n1 n3 n4 n5 n6 n7 n8
          go_wp2_with fail
          go_ret2
          exact Hfo.out

end Go.Proofs.Ytbkedppkdhfpoab

namespace Go.Proofs.Ytbkedppkdhfpoab
open Go.RowKit

theorem all_one {ar : List Int} (h : sigErr ar = 0) (t : T) : allErr ar [t] = termErr ar t := by
  rw [allErr, if_pos h, termsErr]
  by_cases h1 : termErr ar t = 0
  · rw [if_pos h1, h1]; rfl
  · rw [if_neg h1]

set_option maxRecDepth 100000 in
set_option maxHeartbeats 1000000 in
theorem checkBindings_any (ar : List Int) (ga : Option Addr) (gcap : Nat) (bs : List (Int × T)) (a : Option Addr) (cap : Nat) (w : World) (p : Nat → Prop) (hl : bs.length ≤ 9223372036854775807) (hg : Ints w ar ga) (hin : Binds p w bs a) :
    Calls Try.prog 102 #[.agg #[.slice ga ar.length gcap], .slice a bs.length cap] w fun e w' => e = .returned (.int .i64 (bindsErr ar bs)) ∧ Below w.heap.size w w' := by
  go_enter Try.func102, Try.ntmps102
  go_wp2_with fail
  refine (signature_any ar ga gcap _ (Ints_alloc _ hg)).mono ?_
  rintro e w1 ⟨rfl, hb1⟩
  have hz1 : w.heap.size < w1.heap.size := by have := hb1.size; simp at this; omega
  have hbw : Below w.heap.size w w1 := (below1 _ _).trans (hb1.mono (by simp))
  have cg : w1.cell? ⟨w.heap.size, 0, none⟩ = some (.slice ga ar.length gcap) := by
    rw [hb1.cell (p := ⟨w.heap.size, 0, none⟩) (by simp), cell_new _ rfl]; rfl
  clear hb1
  by_cases hs : sigErr ar = 0
  · have hfin : bindsErr ar bs = bindErr ar 0 bs := by rw [bindsErr, if_pos hs]
    have Hfin := hide hfin
    have Hone := hide (all_one hs)
    rw [hs]
    clear hfin hs
    go_wp2_with fail
    go_loopw [6, 17] (fun l i wr => ∃ (k : Nat), k ≤ bs.length ∧ i = .int .i64 k ∧ l = .int .i64 (lastB bs k) ∧ Hid (bindErr ar 0 bs = bindErr ar (lastB bs k) (bs.drop k)) ∧ Below w1.heap.size w1 wr) (fun _ i _ => bs.length - (intOf i).toNat)
    case atStart => exact ⟨0, Nat.zero_le _, rfl, rfl, rfl, Below.refl _ _⟩
    case round =>
      obtain ⟨k, hk, rfl, rfl, HL, hb⟩ := hrel
      have hzr := hb.size
      have hbR : Below w.heap.size w wr := hbw.trans (hb.mono (by omega))
      by_cases hlt : k < bs.length
      · have hin' := Binds_below hb (Binds_below hbw hin)
        have Hg' := hide (Ints_below hb (Ints_below hbw hg))
        obtain ⟨b, off, rfl⟩ := Binds_some hin (by omega)
        obtain ⟨x, hx⟩ : ∃ x, bs[k]? = some x := ⟨bs[k], List.getElem?_eq_getElem hlt⟩
        obtain ⟨a1, cap1, _, c0, c1, c2, c3, hin1⟩ := Binds_at hin' hx
        have Hst := hide (HL.out.trans (bindErr_step hx))
        have Hls := hide (lastB_succ hx)
        have cg' : wr.cell? ⟨w.heap.size, 0, none⟩ = some (.slice ga ar.length gcap) := cell_below hb cg
        have hgw : w.heap.size < wr.heap.size := by omega
        have hkI : (k : Int) < bs.length := by omega
        have hk0 : (0 : Int) ≤ k := by omega
        have HC := hide (fun o => Check_any ar ga gcap x.2 a1 cap1 (wr.alloc o) (Ints_alloc o Hg'.out) (InP_alloc o (InP_imp (q := fun _ => True) (fun _ _ => trivial) hin1)))
        have HbA := hide (fun o => hbR.alloc (show w.heap.size ≤ wr.heap.size by omega) o)
        have HbB := hide (fun o => hb.alloc hzr o)
        have hbb := lt_of_cell c0
        clear hx HL hin hin' hin1
        by_cases h1 : x.1 < 1
        · rw [if_pos (Or.inl h1)] at Hst
          go_wp2_with fail
          go_ret
          exact ⟨ret_int (by rw [Hfin.out, Hst.out]), HbA.out _⟩
        · by_cases h2 : 1000 < x.1
          · rw [if_pos (Or.inr h2)] at Hst
            go_wp2_with fail
            go_ret
            exact ⟨ret_int (by rw [Hfin.out, Hst.out]), HbA.out _⟩
          · rw [if_neg (by omega)] at Hst
            by_cases h3 : x.1 ≤ lastB bs k
            · rw [if_pos h3] at Hst
              go_wp2_with fail
              go_ret
              exact ⟨ret_int (by rw [Hfin.out, Hst.out]), HbA.out _⟩
            · rw [if_neg h3] at Hst
              go_wp2_with fail
              refine (HC.out _).mono ?_
              rintro e w2 ⟨rfl, hb2⟩
              rw [Hone.out]
              have hz2 := hb2.size
              rw [World.size_alloc] at hz2
              have Hb2 := hide ((HbB.out _).trans (hb2.mono (by rw [World.size_alloc]; omega)))
              have Hb3 := hide ((HbA.out _).trans (hb2.mono (by rw [World.size_alloc]; omega)))
              have d0 : w2.cell? ⟨wr.heap.size, 0, none⟩ = some (.int .i64 x.1) := cell_below hb2 (by rw [cell_new 0 rfl]; rfl)
              clear HC HbA HbB hb2
              by_cases h4 : termErr ar x.2 = 0
              · rw [if_pos h4] at Hst
                rw [h4]
                clear h4
                go_wp2_with fail
                go_roundw
                case rel => exact ⟨k + 1, by omega, by go_num, by rw [Hls.out], by rw [Hls.out]; exact Hst.out, Hb2.out⟩
                case measure => simp [intOf]; omega
              · rw [if_neg h4] at Hst
                have h4' : (termErr ar x.2 != 0) = true := by simpa using h4
                clear h4
                go_wp2_with fail
                go_ret
                exact ⟨ret_int (by rw [Hfin.out, Hst.out]), Hb3.out⟩
      · have hk2 : k = bs.length := by omega
        subst hk2
        have Hek : Hid (bindErr ar 0 bs = 0) := by show _ = _; rw [HL.out, List.drop_length]; rfl
        clear HL
        go_wp2_with fail
        go_ret
        exact ⟨ret_int (by rw [Hfin.out, Hek.out]), hbR⟩
  · have hfin : bindsErr ar bs = sigErr ar := by rw [bindsErr, if_neg hs]
    have Hfin := hide hfin
    have hs1 : (sigErr ar != 0) = true := by simpa using hs
    clear hfin hs
    generalize sigErr ar = sg at *
    go_wp2_with fail
    go_ret
    exact ⟨ret_int Hfin.out.symm, hbw⟩

end Go.Proofs.Ytbkedppkdhfpoab

namespace Go.Proofs.Ytbkedppkdhfpoab
open Go.RowKit Go.Maps

/-- Bindings that are right rise. -/
theorem bindErr_rise {ar : List Int} : ∀ {bs : List (Int × T)} {last : Int}, bindErr ar last bs = 0 → bs.Pairwise (fun x y => x.1 < y.1) ∧ (∀ x, x ∈ bs → last < x.1) ∧ (0 ≤ last → last ≤ 1000 → last + bs.length ≤ 1000) := by
  intro bs
  induction bs with
  | nil => intro last _; exact ⟨List.Pairwise.nil, fun x h => (by cases h), fun _ h => by simpa using h⟩
  | cons x bs ih =>
    intro last h
    rw [bindErr] at h
    by_cases h1 : x.1 < 1 ∨ 1000 < x.1
    · rw [if_pos h1] at h; cases h
    · rw [if_neg h1] at h
      by_cases h2 : x.1 ≤ last
      · rw [if_pos h2] at h; cases h
      · rw [if_neg h2] at h
        by_cases h3 : termErr ar x.2 = 0
        · rw [if_pos h3] at h
          obtain ⟨g1, g2, g3⟩ := ih h
          refine ⟨List.Pairwise.cons g2 g1, fun y hy => ?_, fun _ _ => ?_⟩
          · rcases List.mem_cons.1 hy with rfl | hy
            · omega
            · have := g2 y hy; omega
          · have := g3 (by omega) (by omega)
            rw [List.length_cons]; omega
        · rw [if_neg h3] at h; exact absurd h h3
theorem once_of_rise {bs : List (Int × T)} (h : bs.Pairwise (fun x y => x.1 < y.1)) : Once bs := by
  intro i j x y hx hy e
  rw [List.pairwise_iff_getElem] at h
  obtain ⟨hi, rfl⟩ := List.getElem?_eq_some_iff.1 hx
  obtain ⟨hj, rfl⟩ := List.getElem?_eq_some_iff.1 hy
  rcases Nat.lt_trichotomy i j with h1 | h1 | h1
  · have := h i j hi hj h1; omega
  · exact h1
  · have := h j i hj hi h1; omega

/-- What Apply answers. -/
def applySpec (ar : List Int) (bs : List (Int × T)) (t : T) : T × Int :=
  if bindsErr ar bs = 0 then (if termErr ar t = 0 then (if 120 < (applyT bs t).sz then (zeroT, 2) else (applyT bs t, 0)) else (zeroT, termErr ar t)) else (zeroT, bindsErr ar bs)

theorem bindsErr_sig {ar : List Int} {bs : List (Int × T)} (h : bindsErr ar bs = 0) : sigErr ar = 0 ∧ bindErr ar 0 bs = 0 := by
  rw [bindsErr] at h
  by_cases h1 : sigErr ar = 0
  · rw [if_pos h1] at h; exact ⟨h1, h⟩
  · rw [if_neg h1] at h; exact absurd h h1
theorem termErr_apply {ar : List Int} {bs : List (Int × T)} {t : T} (hb : bindErr ar 0 bs = 0) (ht : okP ar t) : termErr ar (applyT bs t) = if 120 < (applyT bs t).sz then 2 else 0 := by
  have ho := okP_apply (fun v u h => (bindErr_ok hb v u h).2.2.2) ht
  by_cases h : 120 < (applyT bs t).sz
  · rw [if_pos h, termErr, if_pos h]
  · rw [if_neg h]; exact termErr_iff.2 ⟨by omega, ho⟩

attribute [local go_sem ↓] Go.wp_at_zero Go.wp_at_succ
/-- A term of new memory and an error handed back. -/
def GivesN (x : T × Int) (base : Nat) (e : Ending) (w' : World) : Prop :=
  ∃ a1 cap1, e = .returned (.tuple #[.agg #[.int .i64 x.1.v, .int .i64 x.1.f, .slice a1 x.1.args.length cap1], .int .i64 x.2]) ∧ InP (fun k => base ≤ k) w' x.1.args a1
theorem givesN_zero (n : Int) (base : Nat) (w' : World) : GivesN (zeroT, n) base (.returned (.tuple #[.agg #[.int .i64 0, .int .i64 0, .slice none 0 0], .int .i64 n])) w' := ⟨none, 0, rfl, InP_nil⟩

set_option maxRecDepth 100000 in
set_option maxHeartbeats 2000000 in
theorem Apply_new (ar : List Int) (ga : Option Addr) (gcap : Nat) (bs : List (Int × T)) (ba : Option Addr) (bc : Nat) (t : T) (a : Option Addr) (cap : Nat) (w : World) (hg : Ints w ar ga) (hl : bs.length ≤ 9223372036854775807) (hbs : Binds (fun _ => True) w bs ba) (hin : InL w t.args a) :
    Calls Try.prog 69 #[.agg #[.slice ga ar.length gcap], .slice ba bs.length bc, .agg #[.int .i64 t.v, .int .i64 t.f, .slice a t.args.length cap]] w fun e w' => GivesN (applySpec ar bs t) w.heap.size e w' ∧ Below w.heap.size w w' := by
  obtain ⟨W3, hW3⟩ : ∃ W3, W3 = (((w.alloc (.cells #[.slice ga ar.length gcap] 24)).alloc (.cells #[.int .i64 t.v, .int .i64 t.f, .slice a t.args.length cap] 28)).alloc (.cells #[.int .i64 0, .int .i64 0, .slice none 0 0] 28)) := ⟨_, rfl⟩
  have hT3 : Hid (Three W3 (w.heap.size + 1) (.int .i64 t.v) (.int .i64 t.f) (.slice a t.args.length cap)) := by rw [hW3]; exact (Three.new 28 (by simp)).alloc _
  have hR3 : Hid (Three W3 (w.heap.size + 1 + 1) (.int .i64 0) (.int .i64 0) (.slice none 0 0)) := by rw [hW3]; exact Three.new 28 (by simp)
  have hG3 : Hid (W3.cell? ⟨w.heap.size, 0, none⟩ = some (.slice ga ar.length gcap)) := by
    show _ = _
    rw [hW3, cell_alloc_lt (by simp; omega), cell_alloc_lt (by simp), cell_new _ rfl]; rfl
  have hWb : Hid (Below w.heap.size w W3) := by rw [hW3]; exact below3 _ _ _ _
  have hz3 : w.heap.size + 3 ≤ W3.heap.size := by rw [hW3]; simp
  have HW3 := hide hW3
  have Hg := hide hg
  have Hbs := hide hbs
  have Hin := hide hin
  clear hW3 hg hbs hin
  go_enter Try.func69, Try.ntmps69
  go_wp2_with fail
  rw [← HW3.out]
  refine (checkBindings_any ar ga gcap bs ba bc _ _ hl (Ints_below hWb.out Hg.out) (Binds_below hWb.out Hbs.out)).mono ?_
  rintro e w1 ⟨rfl, hb1⟩
  have Hb1 := hide (hWb.out.trans (hb1.mono (by omega)))
  have hz1 := hb1.size
  obtain ⟨d0, d1, d2, f0, f1, f2⟩ := hR3.out.below hb1
  obtain ⟨c0, c1, c2, _, _, _⟩ := hT3.out.below hb1
  have cg := cell_below hb1 hG3.out
  have HR1 := hide (hR3.out.below hb1)
  have hz1' : w.heap.size + 1 + 1 < w1.heap.size := by omega
  clear hb1 hR3 hT3 hG3 hWb HW3
  by_cases hs : bindsErr ar bs = 0
  · obtain ⟨hsg, hbe⟩ := bindsErr_sig hs
    have Hspec : Hid (applySpec ar bs t = if termErr ar t = 0 then (if 120 < (applyT bs t).sz then (zeroT, 2) else (applyT bs t, 0)) else (zeroT, termErr ar t)) := by show _ = _; rw [applySpec, if_pos hs]
    have Hbe := hide hbe
    have Hone := hide (all_one hsg)
    rw [hs]
    clear hs hbe hsg
    go_wp2_with fail
    refine (Check_any ar ga gcap t a cap _ (Ints_below Hb1.out Hg.out) (InP_below Hb1.out Hin.out)).mono ?_
    rintro e w2 ⟨rfl, hb2⟩
    rw [Hone.out]
    have Hb2 := hide (Hb1.out.trans (hb2.mono (by omega)))
    have hz2 := hb2.size
    have HR2 := hide (HR1.out.below hb2)
    have cg2 := cell_below hb2 cg
    have c02 := cell_below hb2 c0
    have c12 := cell_below hb2 c1
    have c22 := cell_below hb2 c2
    have hz2' : w.heap.size + 1 + 1 < w2.heap.size := by omega
    clear hb2 d0 d1 d2 f0 f1 f2 c0 c1 c2 cg HR1
    by_cases ht : termErr ar t = 0
    · have Hspec2 : Hid (applySpec ar bs t = if 120 < (applyT bs t).sz then (zeroT, 2) else (applyT bs t, 0)) := by show _ = _; rw [Hspec.out, if_pos ht]
      have Hok := hide (termErr_iff.1 ht)
      rw [ht]
      clear ht Hspec
      go_upto_region 7 with fail
      go_cut [10] (fun v10 wc => ∃ b10 a1 cap1, v10 = .pointer (some ⟨b10, 0, none⟩) ∧ Three wc b10 (.int .i64 (applyT bs t).v) (.int .i64 (applyT bs t).f) (.slice a1 (applyT bs t).args.length cap1) ∧ InP (fun k => w2.heap.size ≤ k) wc (applyT bs t).args a1 ∧ Hid (Below w2.heap.size w2 wc))
      case first =>
        obtain ⟨hrise, _, hlen⟩ := bindErr_rise Hbe.out
        have Honce := hide (once_of_rise hrise)
        have hlen' : bs.length ≤ 1000 := by have := hlen (by omega) (by omega); omega
        have Hran := hide (show ∀ x, x ∈ bs → 1 ≤ x.1 ∧ x.1 ≤ 1000 from fun x hx => ⟨(bindErr_ok Hbe.out x.1 x.2 hx).1, (bindErr_ok Hbe.out x.1 x.2 hx).2.1⟩)
        have Hpos := hide (show ∀ v : Int, v ≤ 0 → lookB bs v = none from fun v hv => lookB_none (fun x hx e => by have := Hran.out x hx; omega))
        have Hus := hide (show ∀ v u, (v, u) ∈ bs → u.sz ≤ 1000 from fun v u h => by have := (bindErr_ok Hbe.out v u h).2.2.1; omega)
        have HbsQ := hide (fun (w' : World) (hb : Below w2.heap.size w2 w') => Binds_imp (q := fun k => k < w2.heap.size) (fun k hk => hk.2) (Binds_mono (p := fun k => True ∧ k < w2.heap.size) (q := fun k => True ∧ k < w2.heap.size) (fun _ _ _ hp hv => ⟨hp, cell_below hb hv⟩) (Binds_lt (Binds_below Hb2.out Hbs.out))))
        have HinQ := hide (fun (w' : World) (hb : Below w2.heap.size w2 w') => InP_below hb (InP_below Hb2.out Hin.out))
        have hS := hide (fun (w' : World) (hb : Below w2.heap.size w2 w') => (show w'.cell? ⟨w.heap.size + 1, 0, none⟩ = some (.int .i64 t.v) ∧ w'.cell? ⟨w.heap.size + 1, 1, none⟩ = some (.int .i64 t.f) ∧ w'.cell? ⟨w.heap.size + 1, 2, none⟩ = some (.slice a t.args.length cap) from ⟨cell_below hb c02, cell_below hb c12, cell_below hb c22⟩))
        have ht120 := Hok.out.1
        clear hrise hlen Hbe Hbs Hin Hg Hone cg2 HR2 Hb2 Hb1 Hspec2
        go_region_held3 (fun w' => w'.cell? ⟨w.heap.size + 1, 0, none⟩ = some (.int .i64 t.v) ∧ w'.cell? ⟨w.heap.size + 1, 1, none⟩ = some (.int .i64 t.f) ∧ w'.cell? ⟨w.heap.size + 1, 2, none⟩ = some (.slice a t.args.length cap)) ((first | (refine hS.out _ ?_; (repeat' (first | with_reducible exact Hid.out ‹Hid (Below _ _ _)› | with_reducible exact Below.refl _ _ | (with_reducible refine Below.drew ?_) | (refine Below.alloc ?_ ?_ _; rotate_left; focus (first | omega | (simp; omega) | (simp; done))) | (with_reducible refine Below.setCell ?_ ?_ _; rotate_left; focus (first | exact Nat.le_refl _ | exact hsxA | (show w2.heap.size ≤ _; omega) | (simp; omega))))); done) | go_keep)) ((first
          | (go_at_call 103
             with_reducible refine (boundBy_any bs ba bc _ (fun k => k < w2.heap.size) ?_ hlen' Honce.out Hran.out ?_).mono ?_
             · intro k hk
               first | exact hk | (simp; omega)
             · exact HbsQ.out _ (by (repeat' (first | with_reducible exact Hid.out ‹Hid (Below _ _ _)› | with_reducible exact Below.refl _ _ | (with_reducible refine Below.drew ?_) | (refine Below.alloc ?_ ?_ _; rotate_left; focus (first | omega | (simp; omega) | (simp; done))))))
             rintro e xA ⟨bA, fA, rfl, hbA0, hMA, hBA, hbA⟩
             have HxA : Hid (Below w2.heap.size w2 xA) := by
               refine Below.trans (b := _) ?_ (hbA.mono ?_)
               · (repeat' (first | with_reducible exact Hid.out ‹Hid (Below _ _ _)› | with_reducible exact Below.refl _ _ | (with_reducible refine Below.drew ?_) | (refine Below.alloc ?_ ?_ _; rotate_left; focus (first | omega | (simp; omega) | (simp; done)))))
               · first | omega | (simp; omega) | (simp; done)
             have hsxA := HxA.out.size
             have hslA := hbA.size
             try (simp at hslA)
             have HMA := hide (fun (w' : World) (hb : Below xA.heap.size xA w') => hMA.below hb)
             have HBA := hide (fun (w' : World) (hb : Below xA.heap.size xA w') => hBA.mono (fun j _ hj => hb.block j hj))
             try (have H3A : Hid (Three xA w2.heap.size (.int .i64 0) (.int .i64 0) (.slice none 0 0)) := Three.below (by first | exact Three.new 28 rfl | exact Three.same (Three.new 28 rfl) rfl) hbA)
             clear hMA hBA)
          | (go_at_call 104
             with_reducible refine (applyP_any ar (fun k => k < w2.heap.size) bs bA bs.length fA Hpos.out Hus.out (t.sz + 1) t a cap _ (by omega) (by omega) ?_ ?_ Hok.out.2 ?_).mono ?_
             · exact HMA.out _ (by (repeat' (first | with_reducible exact Hid.out ‹Hid (Below _ _ _)› | with_reducible exact Below.refl _ _ | (with_reducible refine Below.drew ?_) | (refine Below.alloc ?_ ?_ _; rotate_left; focus (first | omega | (simp; omega) | (simp; done))))))
             · exact HBA.out _ (by (repeat' (first | with_reducible exact Hid.out ‹Hid (Below _ _ _)› | with_reducible exact Below.refl _ _ | (with_reducible refine Below.drew ?_) | (refine Below.alloc ?_ ?_ _; rotate_left; focus (first | omega | (simp; omega) | (simp; done))))))
             · exact HinQ.out _ (by (repeat' (first | with_reducible exact Hid.out ‹Hid (Below _ _ _)› | with_reducible exact Below.refl _ _ | (with_reducible refine Below.drew ?_) | (refine Below.alloc ?_ ?_ _; rotate_left; focus (first | omega | (simp; omega) | (simp; done))))))
             rintro e xB ⟨aB, capB, rfl, hinB, hbB⟩
             have HxB : Hid (Below w2.heap.size w2 xB) := by
               refine Below.trans (b := _) ?_ (hbB.mono ?_)
               · (repeat' (first | with_reducible exact Hid.out ‹Hid (Below _ _ _)› | with_reducible exact Below.refl _ _ | (with_reducible refine Below.drew ?_) | (refine Below.alloc ?_ ?_ _; rotate_left; focus (first | omega | (simp; omega) | (simp; done)))))
               · first | omega | (simp; omega) | (simp; done)
             have hsxB := HxB.out.size
             have hslB := hbB.size
             try (simp at hslB)
             have HinB := hide hinB
             try (have H3B : Hid (Three xB xA.heap.size (.int .i64 0) (.int .i64 0) (.slice none 0 0)) := Three.below (by first | exact Three.new 28 rfl | exact Three.same (Three.new 28 rfl) rfl) hbB; obtain ⟨y0, y1, y2, y3, y4, y5⟩ := H3B.out)
             try (have H3C : Hid (Three xB w2.heap.size (.int .i64 0) (.int .i64 0) (.slice none 0 0)) := Three.below (by first | exact H3A.out | exact Three.same H3A.out rfl) hbB; obtain ⟨x0, x1, x2, x3, x4, x5⟩ := H3C.out)
             clear hinB)))
        all_goals (go_wp2_with fail; go_meet)
        · refine ⟨xB.heap.size, aB, capB, rfl, Three.new 28 rfl, InP_alloc _ (InP_imp (fun k hk => ?_) HinB.out), HxB.out.alloc hsxB _⟩
          have hk : xA.heap.size ≤ k := hk
          omega
        · refine ⟨xA.heap.size, aB, capB, rfl, ?_, InP_imp (p := fun k => xA.heap.size + 1 ≤ k) (fun k hk => by omega) (InP_same (fun k hk _ => set3_block (b := xA.heap.size) (off := 0) (show k ≠ _ by omega)) (InP_imp (fun k hk => ?_) HinB.out)), below_set3 (b := xA.heap.size) (off := 0) HxB.out hsxA _ _ _⟩
          · have h9 := H3B.out.set (.int .i64 (applyT bs t).v) (.int .i64 (applyT bs t).f) (.slice aB (applyT bs t).args.length capB)
            exact h9
          · simpa using hk
        · refine ⟨w2.heap.size, aB, capB, rfl, ?_, InP_imp (p := fun k => w2.heap.size + 1 ≤ k) (fun k hk => by omega) (InP_same (fun k hk _ => set3_block (b := w2.heap.size) (off := 0) (show k ≠ _ by omega)) (InP_imp (fun k hk => ?_) HinB.out)), below_set3 (b := w2.heap.size) (off := 0) HxB.out (Nat.le_refl _) _ _ _⟩
          · have h9 := H3C.out.set (.int .i64 (applyT bs t).v) (.int .i64 (applyT bs t).f) (.slice aB (applyT bs t).args.length capB)
            exact h9
          · have hk : xA.heap.size ≤ k := hk
            omega
      case rest =>
        obtain ⟨b10, a1, cap1, rfl, h10, hinc, HBc⟩ := hcut
        have hzc := HBc.out.size
        have cgc := cell_below HBc.out cg2
        obtain ⟨p0, p1, p2, _, _, _⟩ := h10
        have Hinc := hide hinc
        have hzc' : w.heap.size + 1 + 1 < wc.heap.size := by omega
        have HRc := hide (HR2.out.below HBc.out)
        have Hbc := hide (Hb2.out.trans (HBc.out.mono (by omega)))
        clear hinc cg2 c02 c12 c22
        go_wp2_with fail
        refine (Check_any ar ga gcap (applyT bs t) a1 cap1 _ (Ints_below Hbc.out Hg.out) (InP_imp (q := fun _ => True) (fun _ _ => trivial) Hinc.out)).mono ?_
        rintro e w4 ⟨rfl, hb4⟩
        rw [Hone.out, termErr_apply Hbe.out Hok.out.2]
        have Hb4 := hide (Hbc.out.trans (hb4.mono (by omega)))
        have HR4 := hide (HRc.out.below hb4)
        have Hin4 := hide (InP_below hb4 Hinc.out)
        obtain ⟨r0, r1, r2, g0, g1, g2⟩ := HR4.out
        have s0 := cell_below hb4 p0
        have s1 := cell_below hb4 p1
        have s2 := cell_below hb4 p2
        have hz4 := hb4.size
        have hz4' : w.heap.size + 1 + 1 < w4.heap.size := by omega
        clear hb4 p0 p1 p2 cgc
        by_cases hbig : 120 < (applyT bs t).sz
        · rw [if_pos hbig]
          have Hsp : Hid (applySpec ar bs t = (zeroT, 2)) := by show _ = _; rw [Hspec2.out, if_pos hbig]
          clear hbig Hspec2
          go_wp2_with fail
          exact bodyPost_ret (v := .tuple #[.agg #[.int .i64 0, .int .i64 0, .slice none 0 0], .int .i64 2]) (by simp [results, Try.results69, go_sem, r0, r1, r2]) rfl
            ⟨by rw [Hsp.out]; exact givesN_zero 2 _ _, below_set3 Hb4.out (by omega) _ _ _⟩
        · rw [if_neg hbig]
          have Hsp : Hid (applySpec ar bs t = (applyT bs t, 0)) := by show _ = _; rw [Hspec2.out, if_neg hbig]
          clear hbig Hspec2
          go_wp2_with fail
          exact bodyPost_ret (v := .tuple #[.agg #[.int .i64 (applyT bs t).v, .int .i64 (applyT bs t).f, .slice a1 (applyT bs t).args.length cap1], .int .i64 0]) (by simp [results, Try.results69, go_sem, r0, r1, r2]) rfl
            ⟨by rw [Hsp.out]; exact ⟨a1, cap1, rfl, InP_imp (p := fun k => w2.heap.size ≤ k) (fun k hk => by omega) (InP_same (fun k hk _ => set3_block (by omega)) Hin4.out)⟩, below_set3 Hb4.out (by omega) _ _ _⟩
    · have hs1 : (termErr ar t != 0) = true := by simpa using ht
      have Hsp : Hid (applySpec ar bs t = (zeroT, termErr ar t)) := by show _ = _; rw [Hspec.out, if_neg ht]
      clear ht Hspec
      obtain ⟨d0, d1, d2, f0, f1, f2⟩ := HR2.out
      generalize termErr ar t = err at *
      go_wp2_with fail
      exact bodyPost_ret (v := .tuple #[.agg #[.int .i64 0, .int .i64 0, .slice none 0 0], .int .i64 err]) (by simp [results, Try.results69, go_sem, d0, d1, d2]) rfl
        ⟨by rw [Hsp.out]; exact givesN_zero err _ _, below_set3 Hb2.out (by omega) _ _ _⟩
  · have hs1 : (bindsErr ar bs != 0) = true := by simpa using hs
    have Hsp : Hid (applySpec ar bs t = (zeroT, bindsErr ar bs)) := by show _ = _; rw [applySpec, if_neg hs]
    clear hs
    generalize bindsErr ar bs = err at *
    go_wp2_with fail
    exact bodyPost_ret (v := .tuple #[.agg #[.int .i64 0, .int .i64 0, .slice none 0 0], .int .i64 err]) (by simp [results, Try.results69, go_sem, d0, d1, d2]) rfl
      ⟨by rw [Hsp.out]; exact givesN_zero err _ _, below_set3 Hb1.out (by omega) _ _ _⟩

end Go.Proofs.Ytbkedppkdhfpoab
