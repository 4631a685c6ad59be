/- The bindings of a map, rising. What the program's Unify comes to, in pure words; the variables' numbers while parts are added. Parts and the heads that stand for them. Terms and the parts that are added for them. The unifier answers, and right: what makes both the same, made of no more than it must be. Clauses: do a term's functions stand in another one, too? The program's Match: what it answers. The program's own check of bindings. The program's Apply: what it answers. Steps and what no rule matches any more, as plain data: the first place by the program is the first of all places by the document; what comes is right. No word of the program's memory here. Each step makes a lesser term, and what is normal stays as it is: as plain data. No word of the program's memory here. Unify in all its answers; and, as plain data: what is unified is the same on both sides, whatever makes both the same is made of it, what is matched, applied, is the other one. Clauses: a side matched with a term. Clauses: a literal's sides matched with two terms. -/
import Derived.BigQuiet
import Derived.Deep.AppendLies
import Derived.Deep.DrawnRows
import Derived.Deep.RegionHeld3
import Derived.Deep.RegionLaw
import Derived.Test.YtbkedppkdhfpoabGreatJoined7
namespace Go.Proofs.YtbkedppkdhfpoabGreat
open Go.RowKit Go.Maps

/-- The variables, sorted. -/
def keysB (bs : List (Int × T)) : List Int := (bs.map (·.1)).mergeSort (fun x y => decide (x ≤ y))
/-- The bindings, sorted by variables. -/
def sortB (bs : List (Int × T)) : List (Int × T) := (keysB bs).map (fun v => (v, (lookB bs v).getD zeroT))
theorem keysB_length (bs : List (Int × T)) : (keysB bs).length = bs.length := by rw [keysB, List.length_mergeSort, List.length_map]
theorem sortB_length (bs : List (Int × T)) : (sortB bs).length = bs.length := by rw [sortB, List.length_map, keysB_length]
theorem lookB_isSome {bs : List (Int × T)} {v : Int} : v ∈ bs.map (·.1) ↔ (lookB bs v).isSome = true := by
  induction bs with
  | nil => simp [lookB]
  | cons x bs ih =>
    obtain ⟨w, u⟩ := x
    rw [List.map_cons, List.mem_cons, lookB]
    by_cases h : w = v
    · rw [if_pos h]; simp [h]
    · rw [if_neg h, ← ih]
      constructor
      · rintro (e | e)
        · exact absurd e.symm h
        · exact e
      · exact Or.inr
theorem once_nodup {bs : List (Int × T)} (h : Once bs) : (bs.map (·.1)).Nodup := by
  rw [List.nodup_iff_pairwise_ne, List.pairwise_iff_getElem]
  intro i j hi hj hij e
  rw [List.length_map] at hi hj
  simp only [List.getElem_map] at e
  have := h i j bs[i] bs[j] (List.getElem?_eq_getElem hi) (List.getElem?_eq_getElem hj) e
  omega
theorem keysB_at {bs : List (Int × T)} {k : Nat} {v : Int} (h : (keysB bs)[k]? = some v) : ∃ u, lookB bs v = some u ∧ (sortB bs)[k]? = some (v, u) := by
  have hm := List.mem_of_getElem? h
  rw [keysB, List.mem_mergeSort] at hm
  obtain ⟨u, hu⟩ := Option.isSome_iff_exists.1 (lookB_isSome.1 hm)
  exact ⟨u, hu, by rw [sortB, List.getElem?_map, h]; simp [hu]⟩

set_option maxRecDepth 100000 in
set_option maxHeartbeats 2000000 in
theorem bindingsP_any (q : Nat → Prop) (b : Nat) (bs : List (Int × T)) (w : World) (ho : Once bs) (hl : bs.length ≤ 1000) (hr : ∀ x, x ∈ bs → 1 ≤ x.1 ∧ x.1 ≤ 1000) (hM : MB q b bs w) :
    Calls Tryz.prog 283 #[.map (some b)] w fun e w' => ∃ a cap, e = .returned (.slice a bs.length cap) ∧ Binds (fun k => w.heap.size ≤ k) w' (sortB bs) a ∧ Below w.heap.size w w' := by
  obtain ⟨⟨f, hMf, hBf⟩, hsz⟩ := hM
  have HK := hide (show ∀ x, x ∈ bs.map (·.1) ↔ (f x).isSome = true from fun x => by
    rw [lookB_isSome]
    cases h : lookB bs x with
    | none => rw [(hBf x).1 h]; simp
    | some u => obtain ⟨a, cap, hf, _⟩ := (hBf x).2 u h; rw [hf]; simp)
  have hlen : ∀ ty, (Builtin.len_ #[319] ty #[.map (some b)]).run Tryz.prog w = .ok (.int .i64 (bs.length : Nat)) w := fun ty => by
    obtain ⟨D, hD, hf⟩ := hMf
    have hp := keys_perm hD hf (once_nodup ho) HK.out
    have e1 : Maps.size D = bs.length := by
      have h1 := hp.length_eq
      rw [List.length_map] at h1
      rw [h1]
      obtain ⟨es, rfl⟩ := hD.isMap
      simp [intKeys, Maps.size]
    rw [hD.len Tryz.underlying319 ty, e1]
  have hmk := run_make4 bs.length (by omega)
  have HM := hide hMf
  have HB := hide hBf
  have Hsz := hide hsz
  have Ho := hide ho
  have Hr := hide hr
  obtain ⟨ti, hi, hzz⟩ := Option.map_eq_some_iff.1 Tryz.info93
  simp only [Prod.mk.injEq] at hzz
  obtain ⟨hz0, hz1, hz2⟩ := hzz
  clear hMf hBf hsz ho hr
  go_enter Tryz.func283, Tryz.ntmps283
  go_wp2_with (first
    | (go_at_call 306; refine (keysB_any _ _).mono ?_; rintro e w' ⟨rfl, rfl⟩)
    | (go_at_call 240; refine (sortedB_any b bs.length f (bs.map (·.1)) (by omega) (once_nodup Ho.out) HK.out _ _ (HM.out.below (below2 _ _ _)) (by rw [cell_new 0 (by simp)]; rfl)).mono ?_; rintro e w1 ⟨v1, rfl, hown1, hb1⟩; obtain ⟨va, vc, rfl, hints1, _⟩ := own_ints hown1))
  have hz1' : w.heap.size + 2 ≤ w1.heap.size := by have := hb1.size; simp at this; omega
  have Hbw1 : Hid (Below w.heap.size w w1) := (below2 _ _ _).trans (hb1.mono (by simp; omega))
  have Hl0 : Hid (OutsB (fun _ => False) w.heap.size w1 (.slice (some ⟨w.heap.size, 0, none⟩) 0 bs.length) []) := OutsB_below (OutsB_below (OutsB_made (Nat.le_refl _) (by omega)) (below1 _ _)) hb1
  have Hkeys : Hid (∀ (k : Nat) (v : Int), (keysB bs)[k]? = some v → ∃ b1 off1, va = some ⟨b1, off1, none⟩ ∧ b1 ≠ w.heap.size ∧ b1 < w1.heap.size ∧ w1.cell? ⟨b1, off1 + k, none⟩ = some (.int .i64 v)) := fun k v hv => by
    have hlt : k < (keysB bs).length := by
      rcases Nat.lt_or_ge k (keysB bs).length with h | h
      · exact h
      · rw [List.getElem?_eq_none h] at hv; cases hv
    have hpos : 0 < (keysB bs).length := by omega
    obtain ⟨b1, off1, rfl, hc⟩ := Ints_some hints1 hpos
    have h1 := hc k hlt
    rw [List.getD_eq_getElem?_getD, show ((bs.map (·.1)).mergeSort (fun x y => decide (x ≤ y)))[k]? = some v from hv] at h1
    have h2 := own_lt hown1 b1 rfl
    simp at h2
    exact ⟨b1, off1, rfl, by omega, lt_of_cell h1, h1⟩
  clear hb1 hown1 hints1 hlen hmk
  go_wp2_with fail
  go_loopw [3, 13] (fun l i wr => ∃ k : Nat, k ≤ bs.length ∧ i = .int .i64 k ∧ OutsB (fun _ => False) w.heap.size wr l ((sortB bs).take k) ∧ Grw w1 wr (some w.heap.size) l.ownBlock) (fun _ i _ => bs.length - (intOf i).toNat)
  case atStart => exact ⟨0, Nat.zero_le _, rfl, Hl0.out, Grw.refl _ _⟩
  case round =>
    obtain ⟨k, hk, rfl, hout, hgrw⟩ := hrel
    have Hout := hide hout
    have Hgrw := hide hgrw
    have hzr := hgrw.gr.size
    clear hout hgrw
    have HbR : Hid (Below w.heap.size w wr) := Hbw1.out.trans (Hgrw.out.below (by omega) (fun g hg => by cases hg; exact Nat.le_refl _))
    by_cases hlt : k < bs.length
    · obtain ⟨v, hv⟩ : ∃ v, (keysB bs)[k]? = some v := ⟨(keysB bs)[k]'(by rw [keysB_length]; exact hlt), List.getElem?_eq_getElem _⟩
      obtain ⟨u, hlk, hst⟩ := keysB_at hv
      obtain ⟨b1, off1, rfl, hb1n, hb1l, hc1⟩ := Hkeys.out k v hv
      have hcr : wr.cell? ⟨b1, off1 + k, none⟩ = some (.int .i64 v) := by
        rw [World.cell?_of_block (w := w1) (a := ⟨b1, off1 + k, none⟩) (Hgrw.out.gr.block b1 hb1l (fun e => hb1n (by cases e; rfl)))]; exact hc1
      obtain ⟨a1, cap1, hf, hin1⟩ := (HB.out v).2 u hlk
      have husz := Hsz.out _ _ (lookB_mem hlk)
      have hvr := Hr.out _ (lookB_mem hlk)
      have hvr1 : 1 ≤ v := hvr.1
      have hvr2 : v ≤ 1000 := hvr.2
      have hlook := (HM.out.below HbR.out).look (t := 319) Tryz.underlying319 (Tryz.zero77 _) (k := v) (by omega) (by omega)
      rw [hf] at hlook
      have HT1 := hide (show (sortB bs).take (k + 1) = (sortB bs).take k ++ [(v, u)] by rw [List.take_add_one, hst]; rfl)
      have Htk : Hid (((sortB bs).take k).length = k) := by show _ = _; rw [List.length_take, sortB_length]; omega
      have HC := hide (copyOf_any (u.sz + 1) u a1 cap1 wr (by omega) husz (InP_imp (q := fun _ => True) (fun _ _ => trivial) (InP_below HbR.out hin1)))
      have hkI : (k : Int) < bs.length := by omega
      have hk0 : (0 : Int) ≤ k := by omega
      clear hv hlk hst hc1 hf hin1 hvr Hkeys
      go_wp2_with (first
        | (go_at_call 153
           refine HC.out.mono ?_
           rintro e w2 ⟨s, Bc, rfl, hown, _, hrg, hb2⟩
           obtain ⟨a2, cap2, rfl, hin2⟩ := In_iff.1 (Own_inP hown)
           have hzw2 := hb2.size
           have Hout2 := hide (OutsB_below Hout.out hb2)
           obtain ⟨xs, hownL, hkids⟩ := Hout2.out
           have HO := hide (fun o1 => own_same hownL (w' := w2.alloc o1) (fun g hg => (below1 w2 o1).block g (own_lt hownL g hg).2))
           have HCi : Hid (InP (fun k' => (False ∨ w.heap.size ≤ k') ∧ u3.ownBlock ≠ some k') w2 u.args a2) := InP_imp (fun k' hk' => by
             have h8 := (hrg k' hk').1
             refine ⟨Or.inr (by omega), fun e => ?_⟩
             obtain ⟨xs0, h0, _⟩ := Hout.out
             have := (own_lt h0 k' e).2
             omega) hin2
           have Hg2 := hide (Hgrw.out.trans (Grw.of_below _ hb2))
           clear hown hrg hin2 hb2)
        | (at_builtin
           go_must (refine wpList_append_lies _ rfl (.tmp 17) (.tmp 24) 91 rfl w.heap.size 93 ti (.agg #[.int .i64 0, .int .i64 0, .int .i64 0, .slice none 0 0]) 4 48 Tryz.underlying91 hi hz0 hz1 hz2 rfl (by decide) u3 ((sortB bs).take k).length xs rfl (HO.out _) ⟨w2.heap.size, 0, none⟩ 1 1 [.int .i64 v, .int .i64 u.v, .int .i64 u.f, .slice a2 u.args.length cap2] rfl rfl (four_new (by first | rfl | simp)) (by simp [Value.oneCell']) (by decide) (by have := Htk.out; unfold maxLen; omega) (by have := Htk.out; omega) (by simp; omega) _ rfl ?_)
           intro g capg w3 hown3 hgr3 hat3 hlt3))
      have hO3 := OutsB_step (x := (v, u)) (KidsB_mono (fun k' hk' hlt' => ⟨hk', (below1 w2 _).block k' hlt'⟩) hkids) (InP_alloc _ HCi.out) hown3 hgr3 (hat3.imp id (fun h => by rw [h]))
      have hG3 : Grw w1 w3 (some w.heap.size) (Value.slice (some ⟨g, 0, none⟩) (((sortB bs).take k).length + 1) capg).ownBlock := Hg2.out.trans ((Grw.of_below _ (below1 _ _)).trans ⟨hgr3, by
        rcases hat3 with h | h
        · exact Or.inl h.symm
        · exact Or.inr ⟨g, rfl, by rw [h]; simp⟩⟩)
      rw [← HT1.out, Htk.out] at hO3
      rw [Htk.out] at hG3
      have hmin : min k (sortB bs).length = k := by rw [sortB_length]; omega
      go_roundw
      case rel => exact ⟨k + 1, by omega, by go_num, by rw [hmin]; exact hO3, by rw [hmin]; exact hG3⟩
      case measure => simp [intOf]; omega
    · have hk2 : k = (sortB bs).length := by rw [sortB_length]; omega
      rw [hk2, List.take_length] at Hout
      obtain ⟨la, lc, rfl, hinL⟩ := OutsB_end Hout.out
      rw [sortB_length] at hk2
      subst hk2
      have HinL := hide hinL
      rw [sortB_length]
      clear hinL Hout
      go_wp2_with fail
      go_ret
      exact ⟨la, lc, rfl, Binds_imp (fun k' hk' => by rcases hk' with h | h; exact h.elim; exact h) HinL.out, HbR.out⟩

end Go.Proofs.YtbkedppkdhfpoabGreat

namespace Go.Proofs.YtbkedppkdhfpoabGreat

theorem okP_var {ar : List Int} {t : T} (h : okP ar t) (hv : t.v ≠ 0) : t.args = [] := by
  have h1 := (okP_iff.1 h).1
  rw [partErr_var hv, varErr] at h1
  by_cases h2 : t.v < 1 ∨ 1000 < t.v
  · rw [if_pos h2] at h1; cases h1
  · rw [if_neg h2] at h1
    by_cases h3 : t.args.length ≠ 0 ∨ t.f ≠ 0
    · rw [if_pos h3] at h1; cases h1
    · exact List.length_eq_zero_iff.1 (by omega)
end Go.Proofs.YtbkedppkdhfpoabGreat

namespace Go.Proofs.YtbkedppkdhfpoabGreat

/-- The head of a part. -/
def hd (P : List Pt) (k : Nat) : Nat := (headF P (P.length + 1) k).getD 0
section
variable {P : List Pt} {x y : Nat} {p q : Pt}
end
end Go.Proofs.YtbkedppkdhfpoabGreat

namespace Go.Proofs.YtbkedppkdhfpoabGreat

/-- Variables made what θ says. -/
def sub (θ : Int → T) : T → T
  | ⟨v, f, args⟩ => if v = 0 then ⟨0, f, subL args⟩ else θ v
  where
  subL : List T → List T
    | [] => []
    | t :: ts => sub θ t :: subL ts
theorem subL_map (θ : Int → T) (ts : List T) : sub.subL θ ts = ts.map (sub θ) := by
  induction ts with
  | nil => rfl
  | cons t ts ih => rw [sub.subL, ih]; rfl
theorem sub_fn {θ : Int → T} {t : T} (h : t.v = 0) : sub θ t = ⟨0, t.f, t.args.map (sub θ)⟩ := by
  cases t; rw [sub, if_pos h, subL_map]
theorem sub_var {θ : Int → T} {t : T} (h : t.v ≠ 0) : sub θ t = θ t.v := by
  cases t; rw [sub, if_neg h]

/-- A variable stands in a term. -/
def occ (v : Int) : T → Prop
  | ⟨w, _, args⟩ => w = v ∨ occL args
  where
  occL : List T → Prop
    | [] => False
    | t :: ts => occ v t ∨ occL ts
theorem occ_iff {v : Int} {t : T} : occ v t ↔ t.v = v ∨ occ.occL v t.args := by cases t; exact Iff.rfl
theorem occL_mem {v : Int} {ts : List T} (h : occ.occL v ts) : ∃ (i : Nat) (t : T), ts[i]? = some t ∧ occ v t := by
  induction ts with
  | nil => exact h.elim
  | cons t ts ih =>
    rcases h with h | h
    · exact ⟨0, t, rfl, h⟩
    · obtain ⟨i, x, h1, h2⟩ := ih h
      exact ⟨i + 1, x, by simpa using h1, h2⟩

end Go.Proofs.YtbkedppkdhfpoabGreat

namespace Go.Proofs.YtbkedppkdhfpoabGreat

/-- What variables are by bindings. -/
def byB (bs : List (Int × T)) (v : Int) : T := (putIn bs v).getD ⟨v, 0, []⟩
theorem apply_sub {ar : List Int} {bs : List (Int × T)} : ∀ (n : Nat) (t : T), t.sz ≤ n → okP ar t → applyT bs t = sub (byB bs) t := by
  intro n
  induction n with
  | zero => intro t h; have := t.sz_pos; omega
  | succ n ih =>
    intro t h ht
    by_cases hv : t.v = 0
    · rw [applyT_fn hv, sub_fn hv]
      have : t.args.map (applyT bs) = t.args.map (sub (byB bs)) := List.map_congr_left fun a ha => by
        have := arg_sz ha
        exact ih a (by omega) (okArg ht ha)
      rw [this]
    · rw [sub_var hv, byB]
      cases hp : putIn bs t.v with
      | some u => rw [applyT_some hp]; rfl
      | none =>
        rw [applyT_none hp, (ok_var ht hv).1, (ok_var ht hv).2]; rfl
theorem occL_of {v : Int} {a : T} {l : List T} (ha : a ∈ l) (hv : occ v a) : occ.occL v l := by
  induction l with
  | nil => cases ha
  | cons b l ihl =>
    rcases List.mem_cons.1 ha with rfl | ha
    · exact Or.inl hv
    · exact Or.inr (ihl ha)
theorem sub_congr {θ σ : Int → T} : ∀ (n : Nat) (t : T), t.sz ≤ n → (∀ v, v ≠ 0 → occ v t → θ v = σ v) → sub θ t = sub σ t := by
  intro n
  induction n with
  | zero => intro t h; have := t.sz_pos; omega
  | succ n ih =>
    intro t ht h
    by_cases hv : t.v = 0
    · rw [sub_fn hv, sub_fn hv]
      have : t.args.map (sub θ) = t.args.map (sub σ) := List.map_congr_left fun a ha => by
        have := arg_sz ha
        exact ih a (by omega) fun v h0 hv => h v h0 (occ_iff.2 (Or.inr (occL_of ha hv)))
      rw [this]
    · rw [sub_var hv, sub_var hv]; exact h _ hv (occ_iff.2 (Or.inl rfl))

end Go.Proofs.YtbkedppkdhfpoabGreat

namespace Go.Proofs.YtbkedppkdhfpoabGreat
open Go.RowKit

/-- A term's functions stand in another one. -/
def Cov : T → T → Prop
  | ⟨v, f, args⟩, t => v ≠ 0 ∨ (t.v = 0 ∧ f = t.f ∧ CovL args t.args)
  where
  CovL : List T → List T → Prop
  | [], us => us = []
  | p :: ps, us => ∃ t ts, us = t :: ts ∧ Cov p t ∧ CovL ps ts
theorem Cov_iff (p t : T) : Cov p t ↔ (p.v ≠ 0 ∨ (t.v = 0 ∧ p.f = t.f ∧ Cov.CovL p.args t.args)) := by cases p; rw [Cov]
theorem CovL_iff : ∀ (ps us : List T), Cov.CovL ps us ↔ (ps.length = us.length ∧ ∀ (i : Nat) (p u : T), ps[i]? = some p → us[i]? = some u → Cov p u) := by
  intro ps
  induction ps with
  | nil =>
    intro us
    rw [Cov.CovL]
    constructor
    · rintro rfl; exact ⟨rfl, fun i p u h => by simp at h⟩
    · rintro ⟨h, _⟩; exact List.length_eq_zero_iff.1 h.symm
  | cons p ps ih =>
    intro us
    rw [Cov.CovL]
    constructor
    · rintro ⟨t, ts, rfl, h1, h2⟩
      obtain ⟨h3, h4⟩ := (ih ts).1 h2
      refine ⟨by simp [h3], fun i q u hq hu => ?_⟩
      cases i with
      | zero =>
        rw [List.getElem?_cons_zero] at hq hu
        obtain rfl := Option.some.inj hq
        obtain rfl := Option.some.inj hu
        exact h1
      | succ i => exact h4 i q u (by simpa using hq) (by simpa using hu)
    · rintro ⟨h1, h2⟩
      cases us with
      | nil => simp at h1
      | cons t ts => exact ⟨t, ts, rfl, h2 0 p t rfl rfl, (ih ts).2 ⟨by simpa using h1, fun i q u hq hu => h2 (i + 1) q u (by simpa using hq) (by simpa using hu)⟩⟩
/-- What can be made another one covers it. -/
theorem cov_sub {ar : List Int} {θ : Int → T} : ∀ (n : Nat) (p : T), p.sz ≤ n → okP ar p → Cov p (sub θ p) := by
  intro n
  induction n with
  | zero => intro p h; have := p.sz_pos; omega
  | succ n ih =>
    intro p h hp
    by_cases hv : p.v = 0
    · rw [Cov_iff, sub_fn hv]
      refine Or.inr ⟨rfl, rfl, (CovL_iff _ _).2 ⟨by simp, fun i q u hq hu => ?_⟩⟩
      simp only [List.getElem?_map, hq, Option.map_some, Option.some.injEq] at hu
      rw [← hu]
      have hm := List.mem_of_getElem? hq
      exact ih q (by have := arg_sz hm; omega) (okArg hp hm)
    · rw [Cov_iff]; exact Or.inl hv

attribute [local go_sem ↓] Go.wp_at_zero Go.wp_at_succ
set_option maxRecDepth 100000 in
set_option maxHeartbeats 1000000 in
theorem equalCov_any (n : Nat) (hc : ∀ (t u : T) (a : Option Addr) (cap : Nat) (a2 : Option Addr) (cap2 : Nat) (w : World), t.sz ≤ n → InL w t.args a → InL w u.args a2 →
      Calls Tryz.prog 208 #[.agg #[.int .i64 t.v, .int .i64 t.f, .slice a t.args.length cap], .agg #[.int .i64 u.v, .int .i64 u.f, .slice a2 u.args.length cap2]] w fun e w' => Says (Cov t u) e ∧ Below w.heap.size w w')
    (ts us : List T) (a : Option Addr) (cap : Nat) (a2 : Option Addr) (cap2 : Nat) (w : World) (hn : T.sz.szL ts ≤ n) (h1000 : T.sz.szL ts ≤ 1000) (hin : InL w ts a) (hin2 : InL w us a2) :
    Calls Tryz.prog 107 #[.slice a ts.length cap, .slice a2 us.length cap2, .func (.func 208) #[] #[]] w fun e w' => Says (Cov.CovL ts us) e ∧ Below w.heap.size w w' := by
  have Hc := hide hc
  clear hc
  by_cases h3 : ts.length = us.length
  · have e3 : ((ts.length : Int) != us.length) = false := by simp; omega
    have H3 := hide h3
    clear h3
    go_enter Tryz.func107, Tryz.ntmps107
    go_wp2_with fail
    go_loopw [17] (fun i wr => ∃ k : Nat, k ≤ ts.length ∧ i = .int .i64 k ∧ Hid (∀ (i : Nat) (p u : T), i < k → ts[i]? = some p → us[i]? = some u → Cov p u) ∧ Below w.heap.size w wr) (fun i _ => ts.length - (intOf i).toNat)
    case atStart => exact ⟨0, Nat.zero_le _, rfl, hide (fun i p u h => by omega), Below.refl _ _⟩
    case round =>
      obtain ⟨k, hk, rfl, HL, hb⟩ := hrel
      by_cases hlt : k < ts.length
      · have hlt2 : k < us.length := by have := H3.out; omega
        obtain ⟨b, off, rfl⟩ := InP_some hin (by omega)
        obtain ⟨b2, off2, rfl⟩ := InP_some hin2 (by omega)
        obtain ⟨x, hx⟩ : ∃ x, ts[k]? = some x := ⟨ts[k], List.getElem?_eq_getElem hlt⟩
        obtain ⟨y, hy⟩ : ∃ y, us[k]? = some y := ⟨us[k], List.getElem?_eq_getElem hlt2⟩
        obtain ⟨a3, cap3, _, k0, k1, k2, hinx⟩ := InP_at (InP_below hb hin) hx
        obtain ⟨a4, cap4, _, m0, m1, m2, hiny⟩ := InP_at (InP_below hb hin2) hy
        have hxsz := T.szL_mem (List.mem_of_getElem? hx)
        have hk3 : k ≤ 1000 := by have := T.length_le ts; omega
        have hkI : (k : Int) < ts.length := by omega
        have hkJ : (k : Int) < us.length := by omega
        have hk0 : (0 : Int) ≤ k := by omega
        have hb1 := lt_of_cell k0
        have hb2 := lt_of_cell m0
        have Hx := hide (fun o1 o2 => Hc.out x y a3 cap3 a4 cap4 ((wr.alloc o1).alloc o2) (by omega) (InP_alloc o2 (InP_alloc o1 hinx)) (InP_alloc o2 (InP_alloc o1 hiny)))
        have Hb := hide hb
        have hz := hb.size
        have Hxy := hide (And.intro hx hy)
        clear hx hy hinx hiny hb
        go_wp2_with fail
        refine (Hx.out _ _).mono ?_
        rintro e w3 ⟨⟨r, rfl, hr⟩, hb3⟩
        have Hb3 := hide (Hb.out.trans (((below2 wr _ _).trans (hb3.mono (by simp; omega))).mono hz))
        have Hr := hide hr
        clear hb3 hr
        cases r with
        | true =>
          have Hgo : Hid (∀ (i : Nat) (p u : T), i < k + 1 → ts[i]? = some p → us[i]? = some u → Cov p u) := by
            intro i p u hi hp hu
            by_cases hik : i = k
            · subst hik
              rw [Hxy.out.1] at hp
              rw [Hxy.out.2] at hu
              obtain rfl := Option.some.inj hp
              obtain rfl := Option.some.inj hu
              exact Hr.out.1 rfl
            · exact HL.out i p u (by omega) hp hu
          go_wp2_with fail
          go_roundw
          case rel => exact ⟨k + 1, by omega, by go_num, Hgo, Hb3.out⟩
          case measure => simp [intOf]; omega
        | false =>
          have Hno : Hid (¬ Cov.CovL ts us) := fun h => by
            have h9 := ((CovL_iff ts us).1 h).2 k x y Hxy.out.1 Hxy.out.2
            exact absurd (Hr.out.2 h9) (by simp)
          go_wp2_with fail
          go_ret
          exact ⟨says_no Hno.out, Hb3.out⟩
      · have hk2 : k = ts.length := by omega
        subst hk2
        have Hyes : Hid (Cov.CovL ts us) := (CovL_iff ts us).2 ⟨H3.out, fun i p u hp hu => HL.out i p u (List.getElem?_eq_some_iff.1 hp).1 hp hu⟩
        go_wp2_with fail
        go_ret
        exact ⟨says_yes Hyes.out, hb⟩
  · have Hno : Hid (¬ Cov.CovL ts us) := fun h => h3 ((CovL_iff ts us).1 h).1
    have e3 : ((ts.length : Int) != us.length) = true := by simp; omega
    clear h3
    go_enter Tryz.func107, Tryz.ntmps107
    go_wp2_with fail
    go_ret
    exact ⟨says_no Hno.out, Below.refl _ _⟩
set_option maxRecDepth 100000 in
set_option maxHeartbeats 1000000 in
theorem covers_any (N : Nat) : ∀ (t u : T) (a : Option Addr) (cap : Nat) (a2 : Option Addr) (cap2 : Nat) (w : World), t.sz ≤ N → t.sz ≤ 1000 → InL w t.args a → InL w u.args a2 →
    Calls Tryz.prog 208 #[.agg #[.int .i64 t.v, .int .i64 t.f, .slice a t.args.length cap], .agg #[.int .i64 u.v, .int .i64 u.f, .slice a2 u.args.length cap2]] w fun e w' => Says (Cov t u) e ∧ Below w.heap.size w w' := by
  induction N with
  | zero => intro t u a cap a2 cap2 w hN; have := t.sz_pos; omega
  | succ N ih =>
    intro t u a cap a2 cap2 w hN h1000 hin hin2
    have hte := T.sz_eq t
    by_cases h0 : t.v = 0
    · have e0 : (t.v != 0) = false := by simpa using h0
      by_cases h1 : u.v = 0
      · have e1 : (u.v == 0) = true := by simpa using h1
        by_cases h2 : t.f = u.f
        · have HE := hide (fun o1 o2 => equalCov_any (min N 1000) (fun t' u' a' cap' a2' cap2' w' hn' hi hi2 => ih t' u' a' cap' a2' cap2' w' (by omega) (by omega) hi hi2) t.args u.args a cap a2 cap2 ((w.alloc o1).alloc o2) (by omega) (by omega) (InP_alloc o2 (InP_alloc o1 hin)) (InP_alloc o2 (InP_alloc o1 hin2)))
          have e2 : (t.f == u.f) = true := by simpa using h2
          have Hfin : Hid (Cov t u ↔ Cov.CovL t.args u.args) := by
            show _ ↔ _
            rw [Cov_iff]
            exact ⟨fun h => (h.resolve_left (by simpa using h0)).2.2, fun h => Or.inr ⟨h1, h2, h⟩⟩
          clear h0 h1 h2 ih
          go_enter Tryz.func208, Tryz.ntmps208
          go_wp2_with fail
          refine (HE.out _ _).mono ?_
          rintro e w1 ⟨⟨r, rfl, hr⟩, hb1⟩
          have Hb := hide ((below2 w _ _).trans (hb1.mono (by simp; omega)))
          have Hr := hide hr
          clear hb1 hr
          go_wp2_with fail
          go_ret
          exact ⟨⟨r, rfl, Hr.out.trans Hfin.out.symm⟩, Hb.out⟩
        · have e2 : (t.f == u.f) = false := by simpa using h2
          have Hno : Hid (¬ Cov t u) := by
            show ¬ _
            rw [Cov_iff]
            exact fun h => h2 (h.resolve_left (by simpa using h0)).2.1
          clear h0 h1 h2 ih
          go_enter Tryz.func208, Tryz.ntmps208
          go_wp2_with fail
          go_ret
          exact ⟨says_no Hno.out, below2 _ _ _⟩
      · have e1 : (u.v == 0) = false := by simpa using h1
        have Hno : Hid (¬ Cov t u) := by
          show ¬ _
          rw [Cov_iff]
          exact fun h => h1 (h.resolve_left (by simpa using h0)).1
        clear h0 h1 ih
        go_enter Tryz.func208, Tryz.ntmps208
        go_wp2_with fail
        go_ret
        exact ⟨says_no Hno.out, below2 _ _ _⟩
    · have e0 : (t.v != 0) = true := by simpa using h0
      have Hyes : Hid (Cov t u) := by show Cov _ _; rw [Cov_iff]; exact Or.inl h0
      clear h0 ih
      go_enter Tryz.func208, Tryz.ntmps208
      go_wp2_with fail
      go_ret
      exact ⟨says_yes Hyes.out, below2 _ _ _⟩
end Go.Proofs.YtbkedppkdhfpoabGreat

namespace Go.Proofs.YtbkedppkdhfpoabGreat
open Go.RowKit Go.Maps

set_option maxRecDepth 100000 in
set_option maxHeartbeats 400000 in
theorem subCheck_any (ar : List Int) (ga : Option Addr) (gcap : Nat) (t : T) (a : Option Addr) (cap : Nat) (u : T) (a2 : Option Addr) (cap2 : Nat) (w : World) (hg : Ints w ar ga) (hin : InL w t.args a) (hin2 : InL w u.args a2) :
    Calls Tryz.prog 258 #[.agg #[.slice ga ar.length gcap], .agg #[.int .i64 t.v, .int .i64 t.f, .slice a t.args.length cap], .agg #[.int .i64 u.v, .int .i64 u.f, .slice a2 u.args.length cap2]] w fun e w' =>
      e = .returned (.int .i64 (allErr ar [t, u])) ∧ Below w.heap.size w w' := by
  have H1 := hide (fun o1 o2 o3 => Check_any ar ga gcap t a cap (((w.alloc o1).alloc o2).alloc o3) (Ints_alloc o3 (Ints_alloc o2 (Ints_alloc o1 hg))) (InP_alloc o3 (InP_alloc o2 (InP_alloc o1 hin))))
  have Hp := hide (allErr_pair ar t u)
  go_enter Tryz.func258, Tryz.ntmps258
  go_wp2_with fail
  refine (H1.out _ _ _).mono ?_
  rintro e w1 ⟨rfl, hb1⟩
  have hz1 : w.heap.size + 3 ≤ w1.heap.size := by have := hb1.size; simp at this; omega
  have hbw : Below w.heap.size w w1 := (((below1 _ _).alloc (by simp) _).alloc (by simp; omega) _).trans (hb1.mono (by simp; omega))
  have cg : w1.cell? ⟨w.heap.size, 0, none⟩ = some (.slice ga ar.length gcap) := by
    rw [hb1.cell (p := ⟨w.heap.size, 0, none⟩) (by simp; omega), cell_alloc_lt (by simp; omega), cell_alloc_lt (by simp), cell_new _ rfl]; rfl
  have h3u : Three w1 (w.heap.size + 1 + 1) (.int .i64 u.v) (.int .i64 u.f) (.slice a2 u.args.length cap2) := (Three.new _ (by simp)).below hb1
  obtain ⟨d0, d1, d2, _, _, _⟩ := h3u
  have H2 := hide (Check_any ar ga gcap u a2 cap2 w1 (Ints_below hbw hg) (InP_below hbw hin2))
  clear hb1
  by_cases h : allErr ar [t] = 0
  · have He : Hid (allErr ar [t, u] = allErr ar [u]) := by show _ = _; rw [Hp.out, if_pos h]
    rw [h]
    clear h
    go_wp2_with fail
    refine H2.out.mono ?_
    rintro e w2 ⟨rfl, hb2⟩
    go_wp2_with fail
    go_ret
    exact ⟨ret_int He.out.symm, hbw.trans (hb2.mono (by omega))⟩
  · have hb : (allErr ar [t] != 0) = true := by simpa using h
    have He : Hid (allErr ar [t, u] = allErr ar [t]) := by show _ = _; rw [Hp.out, if_neg h]
    clear h
    go_wp2_with fail
    go_ret
    exact ⟨ret_int He.out.symm, hbw⟩

theorem once_snoc {bs : List (Int × T)} {v : Int} {t : T} (h : Once bs) (hn : lookB bs v = none) : Once (bs ++ [(v, t)]) := by
  have hv : ∀ (i : Nat) (x : Int × T), bs[i]? = some x → x.1 ≠ v := fun i x hx e => by
    have hm : v ∈ bs.map (·.1) := List.mem_map.2 ⟨x, List.mem_of_getElem? hx, e⟩
    rw [lookB_isSome, hn] at hm
    cases hm
  have cs : ∀ (i : Nat) (x : Int × T), (bs ++ [(v, t)])[i]? = some x → bs[i]? = some x ∨ (i = bs.length ∧ x = (v, t)) := fun i x hx => by
    rcases Nat.lt_or_ge i bs.length with h1 | h1
    · rw [List.getElem?_append_left h1] at hx; exact Or.inl hx
    · rw [List.getElem?_append_right h1] at hx
      have h2 : i - bs.length = 0 := by
        rcases Nat.lt_or_ge (i - bs.length) 1 with h3 | h3
        · omega
        · rw [List.getElem?_eq_none (by simpa using h3)] at hx; cases hx
      rw [h2] at hx
      exact Or.inr ⟨by omega, by simpa using hx.symm⟩
  intro i j x y hx hy e
  rcases cs i x hx with h1 | ⟨h1, rfl⟩ <;> rcases cs j y hy with h2 | ⟨h2, rfl⟩
  · exact h i j x y h1 h2 e
  · exact absurd e (hv i x h1)
  · exact absurd e.symm (hv j y h2)
  · omega
/-- What growing keeps. -/
theorem grow_keeps {ar : List Int} : ∀ (n : Nat), (∀ (p t : T) (bs b2 : List (Int × T)), p.sz ≤ n → okP ar p → growT p t bs = some b2 → (Once bs ∧ ∀ x, x ∈ bs → 1 ≤ x.1 ∧ x.1 ≤ 1000) → (Once b2 ∧ ∀ x, x ∈ b2 → 1 ≤ x.1 ∧ x.1 ≤ 1000)) ∧
    (∀ (ps ts : List T) (bs b2 : List (Int × T)), T.sz.szL ps ≤ n → okP.okL ar ps → growT.growL ps ts bs = some b2 → (Once bs ∧ ∀ x, x ∈ bs → 1 ≤ x.1 ∧ x.1 ≤ 1000) → (Once b2 ∧ ∀ x, x ∈ b2 → 1 ≤ x.1 ∧ x.1 ≤ 1000)) := by
  intro n
  induction n with
  | zero =>
    refine ⟨fun p t bs b2 h => by have := p.sz_pos; omega, fun ps ts bs b2 h _ hg hk => ?_⟩
    cases ps with
    | nil =>
      cases ts with
      | nil => simp [growT.growL] at hg; rw [← hg]; exact hk
      | cons t ts => cases hg
    | cons p ps => have := p.sz_pos; rw [T.szL_cons] at h; omega
  | succ n ih =>
    have h1 : ∀ (p t : T) (bs b2 : List (Int × T)), p.sz ≤ n + 1 → okP ar p → growT p t bs = some b2 → (Once bs ∧ ∀ x, x ∈ bs → 1 ≤ x.1 ∧ x.1 ≤ 1000) → (Once b2 ∧ ∀ x, x ∈ b2 → 1 ≤ x.1 ∧ x.1 ≤ 1000) := fun p t bs b2 h hok hg hk => by
      have hpe := T.sz_eq p
      rw [growT_eq] at hg
      by_cases hv : p.v ≠ 0
      · rw [if_pos hv] at hg
        cases hl : lookB bs p.v with
        | some u =>
          rw [hl] at hg
          by_cases hs : sameT u t = true
          · simp only [hs, if_true, Option.some.injEq] at hg
            rw [← hg]; exact hk
          · simp [hs] at hg
        | none =>
          rw [hl] at hg
          simp only [Option.some.injEq] at hg
          have hv1 : 1 ≤ p.v ∧ p.v ≤ 1000 := by
            have h1 := (okP_iff.1 hok).1
            rw [partErr, if_pos hv] at h1
            by_cases h2 : p.v < 1 ∨ 1000 < p.v
            · rw [if_pos h2] at h1; cases h1
            · omega
          rw [← hg]
          refine ⟨once_snoc hk.1 hl, fun x hx => ?_⟩
          rcases List.mem_append.1 hx with hx | hx
          · exact hk.2 x hx
          · simp at hx; rw [hx]; exact hv1
      · rw [if_neg hv] at hg
        by_cases hc : t.v ≠ 0 ∨ p.f ≠ t.f
        · rw [if_pos hc] at hg; cases hg
        · rw [if_neg hc] at hg
          exact ih.2 p.args t.args bs b2 (by omega) (okP_iff.1 hok).2 hg hk
    refine ⟨h1, fun ps => ?_⟩
    induction ps with
    | nil =>
      intro ts bs b2 _ _ hg hk
      cases ts with
      | nil => simp [growT.growL] at hg; rw [← hg]; exact hk
      | cons t ts => cases hg
    | cons p ps iht =>
      intro ts bs b2 h hok hg hk
      rw [T.szL_cons] at h
      cases ts with
      | nil => cases hg
      | cons t ts =>
        rw [growL_cons] at hg
        cases hgt : growT p t bs with
        | none => rw [hgt] at hg; cases hg
        | some b3 =>
          rw [hgt] at hg
          exact iht ts b3 b2 (by omega) (okL_cons.1 hok).2 hg (h1 p t bs b3 (by omega) (okL_cons.1 hok).1 hgt hk)

/-- What Match answers. -/
def matchSpec (ar : List Int) (p t : T) : List (Int × T) × Bool × Int :=
  if allErr ar [p, t] = 0 then (match growT p t [] with | some bs => (sortB bs, true, 0) | none => ([], false, 0)) else ([], false, allErr ar [p, t])
/-- Bindings, a yes or no, and an error handed back. -/
def GivesB (x : List (Int × T) × Bool × Int) (base : Nat) (e : Ending) (w' : World) : Prop :=
  ∃ a cap, e = .returned (.tuple #[.slice a x.1.length cap, .bool x.2.1, .int .i64 x.2.2]) ∧ Binds (fun k => base ≤ k) w' x.1 a

set_option maxRecDepth 100000 in
set_option maxHeartbeats 1000000 in
theorem Match_any (ar : List Int) (ga : Option Addr) (gcap : Nat) (s : T) (sa : Option Addr) (sc : Nat) (t : T) (ta : Option Addr) (tc : Nat) (w : World) (hg : Ints w ar ga) (hin : InL w s.args sa) (hin2 : InL w t.args ta) :
    Calls Tryz.prog 249 #[.agg #[.slice ga ar.length gcap], .agg #[.int .i64 s.v, .int .i64 s.f, .slice sa s.args.length sc], .agg #[.int .i64 t.v, .int .i64 t.f, .slice ta t.args.length tc]] w fun e w' => GivesB (matchSpec ar s t) w.heap.size e w' ∧ Below w.heap.size w w' := by
  have H1 := hide (fun o1 o2 o3 => subCheck_any ar ga gcap s sa sc t ta tc (((w.alloc o1).alloc o2).alloc o3) (Ints_alloc o3 (Ints_alloc o2 (Ints_alloc o1 hg))) (InP_alloc o3 (InP_alloc o2 (InP_alloc o1 hin))) (InP_alloc o3 (InP_alloc o2 (InP_alloc o1 hin2))))
  have hmm := @run_makeMap Tryz.prog
  obtain ⟨E, hE⟩ : ∃ E, E = allErr ar [s, t] := ⟨_, rfl⟩
  rw [← hE] at H1
  have HE := hide hE
  clear hE
  go_enter Tryz.func249, Tryz.ntmps249
  go_wp2_with fail
  refine (H1.out _ _ _).mono ?_
  rintro e w1 ⟨rfl, hb1⟩
  have hz1 : w.heap.size + 3 ≤ w1.heap.size := by have := hb1.size; simp at this; omega
  have hbw : Below w.heap.size w w1 := (((below1 _ _).alloc (by simp) _).alloc (by simp; omega) _).trans (hb1.mono (by simp; omega))
  have h3s : Three w1 (w.heap.size + 1) (.int .i64 s.v) (.int .i64 s.f) (.slice sa s.args.length sc) := ((Three.new _ (by simp)).alloc _).below hb1
  have h3t : Three w1 (w.heap.size + 1 + 1) (.int .i64 t.v) (.int .i64 t.f) (.slice ta t.args.length tc) := (Three.new _ (by simp)).below hb1
  obtain ⟨c0, c1, c2, _, _, _⟩ := h3s
  obtain ⟨d0, d1, d2, _, _, _⟩ := h3t
  clear hb1
  by_cases h : E = 0
  · obtain ⟨k1, k2, k3, k4⟩ := ok_two (HE.out.symm.trans h)
    have Hsp : Hid (matchSpec ar s t = match growT s t [] with | some bs => (sortB bs, true, 0) | none => ([], false, 0)) := by show _ = _; rw [matchSpec, if_pos (HE.out.symm.trans h)]
    have hM0 : MB (fun k => k < w1.heap.size) w1.heap.size [] (w1.alloc (.map #[] 0)) := ⟨⟨fun _ => none, MapAt.made w1, fun v => ⟨fun _ => rfl, fun u hu => by cases hu⟩⟩, fun v u hm => by cases hm⟩
    have H2 := hide (match_any ar (fun k => k < w1.heap.size) w1.heap.size (by omega) s.sz s t sa sc ta tc [] (w1.alloc (.map #[] 0)) (Nat.le_refl _) (by simp; omega) k2 (by omega) hM0 (InP_alloc _ (InP_below hbw hin)) (InP_alloc _ (InP_imp (fun _ hk => hk.2) (InP_lt (InP_below hbw hin2)))))
    have Hk := hide (fun bs => (grow_keeps (ar := ar) s.sz).1 s t [] bs (Nat.le_refl _) k2)
    have Hs := hide (fun bs => (grow_size s.sz).1 s t [] bs (Nat.le_refl _))
    have hzA : w.heap.size + 1 < w1.heap.size := by omega
    have hzB : w.heap.size + 1 + 1 < w1.heap.size := by omega
    have m0 : (w1.alloc (.map #[] 0)).cell? ⟨w.heap.size + 1, 0, none⟩ = some (.int .i64 s.v) := by rw [cell_alloc_lt hzA]; exact c0
    have m1 : (w1.alloc (.map #[] 0)).cell? ⟨w.heap.size + 1, 1, none⟩ = some (.int .i64 s.f) := by rw [cell_alloc_lt hzA]; exact c1
    have m2 : (w1.alloc (.map #[] 0)).cell? ⟨w.heap.size + 1, 2, none⟩ = some (.slice sa s.args.length sc) := by rw [cell_alloc_lt hzA]; exact c2
    have n0 : (w1.alloc (.map #[] 0)).cell? ⟨w.heap.size + 1 + 1, 0, none⟩ = some (.int .i64 t.v) := by rw [cell_alloc_lt hzB]; exact d0
    have n1 : (w1.alloc (.map #[] 0)).cell? ⟨w.heap.size + 1 + 1, 1, none⟩ = some (.int .i64 t.f) := by rw [cell_alloc_lt hzB]; exact d1
    have n2 : (w1.alloc (.map #[] 0)).cell? ⟨w.heap.size + 1 + 1, 2, none⟩ = some (.slice ta t.args.length tc) := by rw [cell_alloc_lt hzB]; exact d2
    subst h
    clear k2 k4 hM0
    go_wp2_with fail
    refine H2.out.mono ?_
    rintro e w2 ⟨rfl, hg2, hM2⟩
    have hzg := hg2.size
    rw [World.size_alloc] at hzg
    have Hb2 : Hid (Below w.heap.size w w2) := (hbw.alloc (by omega) _).grown hg2 (by rw [World.size_alloc]; omega) (fun j hj => by cases hj; omega)
    have HM2 := hide hM2
    clear hg2 hM2 hmm H2
    cases hgt : growT s t [] with
    | none =>
      have Hsp2 : Hid (matchSpec ar s t = ([], false, 0)) := by show _ = _; rw [Hsp.out, hgt]
      simp only [Option.isSome_none]
      clear hgt Hsp Hk Hs HM2
      go_wp2_with fail
      go_ret3
      exact ⟨by rw [Hsp2.out]; exact ⟨none, 0, rfl, trivial⟩, Hb2.out⟩
    | some bs =>
      have Hsp2 : Hid (matchSpec ar s t = (sortB bs, true, 0)) := by show _ = _; rw [Hsp.out, hgt]
      have hkk := Hk.out bs hgt ⟨fun i j x y hx => by simp at hx, fun x hx => by cases hx⟩
      have hss := Hs.out bs hgt
      have hbl : bs.length ≤ 1000 := by simp at hss; omega
      have H3 := hide (bindingsP_any _ w1.heap.size bs w2 hkk.1 hbl hkk.2 (HM2.out bs hgt))
      simp only [Option.isSome_some]
      clear hgt Hsp Hk Hs HM2 hkk hss
      go_wp2_with fail
      refine H3.out.mono ?_
      rintro e w3 ⟨a3, cap3, rfl, hin3, hb3⟩
      have Hb3 := hide (Hb2.out.trans (hb3.mono Hb2.out.size))
      have Hin3 := hide (Binds_imp (q := fun k => w.heap.size ≤ k) (fun k hk => Nat.le_trans Hb2.out.size hk) hin3)
      clear hb3 hin3
      go_wp2_with fail
      go_ret3
      exact ⟨by rw [Hsp2.out]; exact ⟨a3, cap3, (congrArg (fun n => Ending.returned (.tuple #[.slice a3 n cap3, .bool true, .int .i64 0])) (sortB_length bs).symm), Hin3.out⟩, Hb3.out⟩
  · have hb : (E != 0) = true := by simpa using h
    have Hsp : Hid (matchSpec ar s t = ([], false, E)) := by show _ = _; rw [matchSpec, if_neg (fun h' => h (HE.out.trans h')), HE.out]
    clear h
    go_wp2_with fail
    go_ret3
    exact ⟨by rw [Hsp.out]; exact ⟨none, 0, rfl, trivial⟩, hbw⟩

end Go.Proofs.YtbkedppkdhfpoabGreat

namespace Go.Proofs.YtbkedppkdhfpoabGreat
open Go.RowKit

theorem all_one {ar : List Int} (h : sigErr ar = 0) (t : T) : allErr ar [t] = termErr ar t := by
  rw [allErr, if_pos h, termsErr]
  by_cases h1 : termErr ar t = 0
  · rw [if_pos h1, h1]; rfl
  · rw [if_neg h1]

end Go.Proofs.YtbkedppkdhfpoabGreat

namespace Go.Proofs.YtbkedppkdhfpoabGreat
open Go.RowKit Go.Maps

theorem once_of_rise {bs : List (Int × T)} (h : bs.Pairwise (fun x y => x.1 < y.1)) : Once bs := by
  intro i j x y hx hy e
  rw [List.pairwise_iff_getElem] at h
  obtain ⟨hi, rfl⟩ := List.getElem?_eq_some_iff.1 hx
  obtain ⟨hj, rfl⟩ := List.getElem?_eq_some_iff.1 hy
  rcases Nat.lt_trichotomy i j with h1 | h1 | h1
  · have := h i j hi hj h1; omega
  · exact h1
  · have := h j i hj hi h1; omega

/-- What Apply answers. -/
def applySpec (ar : List Int) (bs : List (Int × T)) (t : T) : T × Int :=
  if bindsErr ar bs = 0 then (if termErr ar t = 0 then (if 120 < (applyT bs t).sz then (zeroT, 2) else (applyT bs t, 0)) else (zeroT, termErr ar t)) else (zeroT, bindsErr ar bs)

attribute [local go_sem ↓] Go.wp_at_zero Go.wp_at_succ
end Go.Proofs.YtbkedppkdhfpoabGreat

namespace Go.Proofs.YtbkedppkdhfpoabGreat

/-- What is bound by matching is a part of the term, or was bound ahead. -/
theorem grow_in {P : T → Prop} (hP : ∀ t, P t → ∀ c, c ∈ t.args → P c) : ∀ (n : Nat), (∀ (p t : T) (bs b2 : List (Int × T)), p.sz ≤ n → P t → growT p t bs = some b2 → (∀ x, x ∈ bs → P x.2) → ∀ x, x ∈ b2 → P x.2) ∧
    (∀ (ps ts : List T) (bs b2 : List (Int × T)), T.sz.szL ps ≤ n → (∀ c, c ∈ ts → P c) → growT.growL ps ts bs = some b2 → (∀ x, x ∈ bs → P x.2) → ∀ x, x ∈ b2 → P x.2) := by
  intro n
  induction n with
  | zero =>
    refine ⟨fun p t bs b2 h => by have := p.sz_pos; omega, fun ps ts bs b2 h _ hg hk => ?_⟩
    cases ps with
    | nil =>
      cases ts with
      | nil => simp [growT.growL] at hg; rw [← hg]; exact hk
      | cons t ts => cases hg
    | cons p ps => have := p.sz_pos; rw [T.szL_cons] at h; omega
  | succ n ih =>
    have h1 : ∀ (p t : T) (bs b2 : List (Int × T)), p.sz ≤ n + 1 → P t → growT p t bs = some b2 → (∀ x, x ∈ bs → P x.2) → ∀ x, x ∈ b2 → P x.2 := by
      intro p t bs b2 h ht hg hk
      have hpe := T.sz_eq p
      rw [growT_eq] at hg
      by_cases hv : p.v ≠ 0
      · rw [if_pos hv] at hg
        cases hl : lookB bs p.v with
        | some u =>
          rw [hl] at hg
          by_cases hs : sameT u t = true
          · simp only [hs, if_true, Option.some.injEq] at hg
            rw [← hg]; exact hk
          · simp only [hs] at hg; cases hg
        | none =>
          rw [hl] at hg
          simp only [Option.some.injEq] at hg
          rw [← hg]
          intro x hx
          rcases List.mem_append.1 hx with hx | hx
          · exact hk x hx
          · rw [List.mem_singleton] at hx; rw [hx]; exact ht
      · rw [if_neg hv] at hg
        by_cases h2 : t.v ≠ 0 ∨ p.f ≠ t.f
        · rw [if_pos h2] at hg; cases hg
        · rw [if_neg h2] at hg
          exact ih.2 p.args t.args bs b2 (by omega) (hP t ht) hg hk
    refine ⟨h1, ?_⟩
    intro ps
    induction ps with
    | nil =>
      intro ts bs b2 _ _ hg hk
      cases ts with
      | nil => simp [growT.growL] at hg; rw [← hg]; exact hk
      | cons t ts => cases hg
    | cons p ps ihp =>
      intro ts bs b2 h hts hg hk
      rw [T.szL_cons] at h
      cases ts with
      | nil => cases hg
      | cons t ts =>
        rw [growL_cons] at hg
        cases hb : growT p t bs with
        | none => rw [hb] at hg; cases hg
        | some b1 =>
          rw [hb] at hg
          have hk1 := h1 p t bs b1 (by omega) (hts t (by simp)) hb hk
          exact ihp ts b1 b2 (by omega) (fun c hc => hts c (by simp [hc])) hg hk1

theorem lookB_pairs {f : Int → T} (ks : List Int) (v : Int) : lookB (ks.map (fun k => (k, f k))) v = if v ∈ ks then some (f v) else none := by
  induction ks with
  | nil => simp [lookB]
  | cons k ks ih =>
    rw [List.map_cons, lookB, ih]
    by_cases h : k = v
    · subst h; simp
    · rw [if_neg h]
      have : (v ∈ k :: ks) ↔ v ∈ ks := by
        rw [List.mem_cons]
        exact ⟨fun e => e.resolve_left (fun e => h e.symm), Or.inr⟩
      simp only [this]
theorem lookB_sortB (bs : List (Int × T)) (v : Int) : lookB (sortB bs) v = lookB bs v := by
  rw [sortB, lookB_pairs, keysB]
  simp only [List.mem_mergeSort]
  cases h : lookB bs v with
  | none =>
    rw [if_neg]
    intro e
    rw [lookB_isSome, h] at e
    cases e
  | some u =>
    rw [if_pos (lookB_isSome.2 (by rw [h]; rfl))]; rfl
theorem putIn_sortB (bs : List (Int × T)) (v : Int) : putIn (sortB bs) v = putIn bs v := by rw [putIn, putIn, lookB_sortB]
theorem applyT_sortB_aux (bs : List (Int × T)) : ∀ (n : Nat) (t : T), t.sz ≤ n → applyT (sortB bs) t = applyT bs t := by
  intro n
  induction n with
  | zero => intro t h; have := t.sz_pos; omega
  | succ n ih =>
    intro t h
    have hte := T.sz_eq t
    cases hp : putIn bs t.v with
    | some u => rw [applyT_some hp, applyT_some ((putIn_sortB bs t.v).trans hp)]
    | none =>
      rw [applyT_none hp, applyT_none ((putIn_sortB bs t.v).trans hp)]
      have : t.args.map (applyT (sortB bs)) = t.args.map (applyT bs) := List.map_congr_left (fun c hc => ih c (by have := T.szL_mem hc; omega))
      rw [this]
theorem applyT_sortB (bs : List (Int × T)) (t : T) : applyT (sortB bs) t = applyT bs t := applyT_sortB_aux bs _ t (Nat.le_refl _)

theorem bindErr_of {ar : List Int} : ∀ {bs : List (Int × T)} {last : Int}, bs.Pairwise (fun x y => x.1 < y.1) → (∀ x, x ∈ bs → 1 ≤ x.1 ∧ x.1 ≤ 1000 ∧ last < x.1 ∧ termErr ar x.2 = 0) → bindErr ar last bs = 0 := by
  intro bs
  induction bs with
  | nil => intro last _ _; rfl
  | cons x bs ih =>
    intro last hp h
    have hx := h x (by simp)
    rw [bindErr, if_neg (by omega), if_neg (by omega), if_pos hx.2.2.2]
    rw [List.pairwise_cons] at hp
    refine ih hp.2 (fun y hy => ?_)
    have hy2 := h y (by simp [hy])
    exact ⟨hy2.1, hy2.2.1, hp.1 y hy, hy2.2.2.2⟩
theorem sortB_rise {bs : List (Int × T)} (h : Once bs) : (sortB bs).Pairwise (fun x y => x.1 < y.1) := by
  have h1 : (keysB bs).Pairwise (fun x y => x ≤ y) := by
    have h2 := List.pairwise_mergeSort (le := fun x y : Int => decide (x ≤ y)) (fun a b c h1 h2 => by simp at *; omega) (fun a b => by simp; omega) (bs.map (·.1))
    exact List.Pairwise.imp (fun h => by simpa using h) h2
  have h3 : (keysB bs).Nodup := by rw [keysB]; exact (List.mergeSort_perm _ _).nodup_iff.2 (once_nodup h)
  have h4 : (keysB bs).Pairwise (fun x y => x < y) := (h1.and h3).imp (fun h => by have := h.1; have := h.2; omega)
  rw [sortB, List.pairwise_map]
  exact h4
theorem sortB_mem {bs : List (Int × T)} {x : Int × T} (h : x ∈ sortB bs) : x ∈ bs := by
  rw [sortB, List.mem_map] at h
  obtain ⟨v, hv, rfl⟩ := h
  rw [keysB, List.mem_mergeSort] at hv
  obtain ⟨u, hu⟩ := Option.isSome_iff_exists.1 (lookB_isSome.1 hv)
  rw [hu]
  exact lookB_mem hu
/-- What is bound by matching a term that is right by a pattern that is. -/
theorem grow_binds {ar : List Int} {p t : T} {bs : List (Int × T)} (hp : okP ar p) (ht : t.sz ≤ 120 ∧ okP ar t) (h : growT p t [] = some bs) : (∀ x, x ∈ bs → x.2.sz ≤ 120 ∧ okP ar x.2) ∧ bindErr ar 0 (sortB bs) = 0 := by
  have h1 : ∀ x, x ∈ bs → x.2.sz ≤ 120 ∧ okP ar x.2 := (grow_in (P := fun t => t.sz ≤ 120 ∧ okP ar t) (fun t ht c hc => ⟨by have := T.szL_mem hc; have := T.sz_eq t; omega, okL_mem.1 (okP_iff.1 ht.2).2 c hc⟩) p.sz).1 p t [] bs (Nat.le_refl _) ht h (fun x hx => by cases hx)
  have h2 := (grow_keeps (ar := ar) p.sz).1 p t [] bs (Nat.le_refl _) hp h ⟨fun i j x y hx => by simp at hx, fun x hx => by cases hx⟩
  exact ⟨h1, bindErr_of (sortB_rise h2.1) (fun x hx => by
    have hm := sortB_mem hx
    have h3 := h2.2 x hm
    exact ⟨h3.1, h3.2, by omega, termErr_iff.2 (h1 x hm)⟩)⟩

end Go.Proofs.YtbkedppkdhfpoabGreat

namespace Go.Proofs.YtbkedppkdhfpoabGreat

/-- Bindings that are there stay, while others come. -/
theorem grow_more : ∀ (n : Nat), (∀ (p t : T) (bs b2 : List (Int × T)), p.sz ≤ n → growT p t bs = some b2 → ∃ r, b2 = bs ++ r) ∧
    (∀ (ps ts : List T) (bs b2 : List (Int × T)), T.sz.szL ps ≤ n → growT.growL ps ts bs = some b2 → ∃ r, b2 = bs ++ r) := by
  intro n
  induction n with
  | zero =>
    refine ⟨fun p t bs b2 h => by have := p.sz_pos; omega, fun ps ts bs b2 h hg => ?_⟩
    cases ps with
    | nil =>
      cases ts with
      | nil => simp [growT.growL] at hg; exact ⟨[], by rw [hg, List.append_nil]⟩
      | cons t ts => cases hg
    | cons p ps => have := p.sz_pos; rw [T.szL_cons] at h; omega
  | succ n ih =>
    have h1 : ∀ (p t : T) (bs b2 : List (Int × T)), p.sz ≤ n + 1 → growT p t bs = some b2 → ∃ r, b2 = bs ++ r := by
      intro p t bs b2 h hg
      have hpe := T.sz_eq p
      rw [growT_eq] at hg
      by_cases hv : p.v ≠ 0
      · rw [if_pos hv] at hg
        cases hl : lookB bs p.v with
        | some u =>
          rw [hl] at hg
          by_cases hs : sameT u t = true
          · simp only [hs, if_true, Option.some.injEq] at hg
            exact ⟨[], by rw [hg, List.append_nil]⟩
          · simp only [hs] at hg; cases hg
        | none =>
          rw [hl] at hg
          simp only [Option.some.injEq] at hg
          exact ⟨_, hg.symm⟩
      · rw [if_neg hv] at hg
        by_cases h2 : t.v ≠ 0 ∨ p.f ≠ t.f
        · rw [if_pos h2] at hg; cases hg
        · rw [if_neg h2] at hg
          exact ih.2 p.args t.args bs b2 (by omega) hg
    refine ⟨h1, ?_⟩
    intro ps
    induction ps with
    | nil =>
      intro ts bs b2 _ hg
      cases ts with
      | nil => simp [growT.growL] at hg; exact ⟨[], by rw [hg, List.append_nil]⟩
      | cons t ts => cases hg
    | cons p ps ihp =>
      intro ts bs b2 h hg
      rw [T.szL_cons] at h
      cases ts with
      | nil => cases hg
      | cons t ts =>
        rw [growL_cons] at hg
        cases hb : growT p t bs with
        | none => rw [hb] at hg; cases hg
        | some b1 =>
          rw [hb] at hg
          obtain ⟨r1, rfl⟩ := h1 p t bs b1 (by omega) hb
          obtain ⟨r2, rfl⟩ := ihp ts _ b2 (by omega) hg
          exact ⟨r1 ++ r2, by rw [List.append_assoc]⟩
theorem lookB_append {bs r : List (Int × T)} {v : Int} {u : T} (h : lookB bs v = some u) : lookB (bs ++ r) v = some u := by
  induction bs with
  | nil => cases h
  | cons x bs ih =>
    obtain ⟨k, y⟩ := x
    rw [List.cons_append, lookB]
    rw [lookB] at h
    by_cases hk : k = v
    · rw [if_pos hk] at h ⊢; exact h
    · rw [if_neg hk] at h ⊢; exact ih h
theorem lookB_last {bs : List (Int × T)} {v : Int} {u : T} (h : lookB bs v = none) : lookB (bs ++ [(v, u)]) v = some u := by
  induction bs with
  | nil => simp [lookB]
  | cons x bs ih =>
    obtain ⟨k, y⟩ := x
    rw [List.cons_append, lookB]
    rw [lookB] at h
    by_cases hk : k = v
    · rw [if_pos hk] at h; cases h
    · rw [if_neg hk] at h ⊢; exact ih h
/-- What is matched, applied, is the other one, by whatever more is bound. -/
theorem grow_apply {ar : List Int} : ∀ (n : Nat), (∀ (p t : T) (bs b2 r : List (Int × T)), p.sz ≤ n → okP ar p → okP ar t → growT p t bs = some b2 → applyT (b2 ++ r) p = t) ∧
    (∀ (ps ts : List T) (bs b2 r : List (Int × T)), T.sz.szL ps ≤ n → okP.okL ar ps → okP.okL ar ts → growT.growL ps ts bs = some b2 → ps.map (applyT (b2 ++ r)) = ts) := by
  intro n
  induction n with
  | zero =>
    refine ⟨fun p t bs b2 r h => by have := p.sz_pos; omega, fun ps ts bs b2 r h _ _ hg => ?_⟩
    cases ps with
    | nil =>
      cases ts with
      | nil => rfl
      | cons t ts => cases hg
    | cons p ps => have := p.sz_pos; rw [T.szL_cons] at h; omega
  | succ n ih =>
    have h1 : ∀ (p t : T) (bs b2 r : List (Int × T)), p.sz ≤ n + 1 → okP ar p → okP ar t → growT p t bs = some b2 → applyT (b2 ++ r) p = t := by
      intro p t bs b2 r h hp ht hg
      have hpe := T.sz_eq p
      have hpv := okP_v hp
      rw [growT_eq] at hg
      by_cases hv : p.v ≠ 0
      · rw [if_pos hv] at hg
        have hput : ∀ u, lookB b2 p.v = some u → applyT (b2 ++ r) p = u := fun u hu => applyT_some (by rw [putIn, if_pos (by omega)]; exact lookB_append hu)
        cases hl : lookB bs p.v with
        | some u =>
          rw [hl] at hg
          by_cases hs : sameT u t = true
          · simp only [hs, if_true, Option.some.injEq] at hg
            subst hg
            rw [hput u hl]; exact sameT_iff.1 hs
          · simp only [hs] at hg; cases hg
        | none =>
          rw [hl] at hg
          simp only [Option.some.injEq] at hg
          subst hg
          exact hput t (lookB_last hl)
      · rw [if_neg hv] at hg
        have hv0 : p.v = 0 := by omega
        by_cases h2 : t.v ≠ 0 ∨ p.f ≠ t.f
        · rw [if_pos h2] at hg; cases hg
        · rw [if_neg h2] at hg
          have h3 := ih.2 p.args t.args bs b2 r (by omega) (okP_iff.1 hp).2 (okP_iff.1 ht).2 hg
          rw [applyT_fn hv0, h3]
          have h4 : t.v = 0 := by omega
          have h5 : p.f = t.f := by omega
          cases t
          simp only at h4 h5
          rw [h5, h4]
    refine ⟨h1, ?_⟩
    intro ps
    induction ps with
    | nil =>
      intro ts bs b2 r _ _ _ hg
      cases ts with
      | nil => rfl
      | cons t ts => cases hg
    | cons p ps ihp =>
      intro ts bs b2 r h hp ht hg
      rw [T.szL_cons] at h
      cases ts with
      | nil => cases hg
      | cons t ts =>
        rw [growL_cons] at hg
        cases hb : growT p t bs with
        | none => rw [hb] at hg; cases hg
        | some b1 =>
          rw [hb] at hg
          obtain ⟨r2, hr2⟩ := (grow_more _).2 ps ts b1 b2 (Nat.le_refl _) hg
          have h6 := ihp ts b1 b2 r (by omega) (okL_cons.1 hp).2 (okL_cons.1 ht).2 hg
          rw [List.map_cons, h6]
          rw [hr2, List.append_assoc, h1 p t bs b1 (r2 ++ r) (by omega) (okL_cons.1 hp).1 (okL_cons.1 ht).1 hb]
end Go.Proofs.YtbkedppkdhfpoabGreat

namespace Go.Proofs.YtbkedppkdhfpoabGreat
open Go.RowKit Go.Maps

theorem all_sig {ar : List Int} {ts : List T} (h : allErr ar ts = 0) : sigErr ar = 0 := by
  rw [allErr] at h
  by_cases h1 : sigErr ar = 0
  · exact h1
  · rw [if_neg h1] at h; exact absurd h h1
theorem apply_ok {ar : List Int} {bs : List (Int × T)} {t : T} (h : (applySpec ar bs t).2 = 0) : bindsErr ar bs = 0 ∧ (t.sz ≤ 120 ∧ okP ar t) ∧ (applySpec ar bs t).1 = applyT bs t ∧ (applyT bs t).sz ≤ 120 := by
  by_cases h1 : bindsErr ar bs = 0
  · by_cases h2 : termErr ar t = 0
    · by_cases h3 : 120 < (applyT bs t).sz
      · rw [applySpec, if_pos h1, if_pos h2, if_pos h3] at h; cases h
      · refine ⟨h1, termErr_iff.1 h2, by rw [applySpec, if_pos h1, if_pos h2, if_neg h3], by omega⟩
    · rw [applySpec, if_pos h1, if_neg h2] at h; exact absurd h h2
  · rw [applySpec, if_neg h1] at h; exact absurd h h1
theorem apply_of {ar : List Int} {bs : List (Int × T)} {t : T} (h1 : bindsErr ar bs = 0) (h2 : t.sz ≤ 120 ∧ okP ar t) (h3 : (applyT bs t).sz ≤ 120) : applySpec ar bs t = (applyT bs t, 0) := by
  rw [applySpec, if_pos h1, if_pos (termErr_iff.2 h2), if_neg (by omega)]
theorem apply_by {ar : List Int} {bs : List (Int × T)} {σ : Int → T} {t : T} (h : ∀ v, v ≠ 0 → byB bs v = σ v) (ht : okP ar t) : applyT bs t = sub σ t := by
  rw [apply_sub _ t (Nat.le_refl _) ht]
  exact sub_congr _ t (Nat.le_refl _) (fun v h0 _ => h v h0)

/-- What is matched, applied, is the other one. -/
theorem match_most {ar : List Int} {s t : T} (h : (matchSpec ar s t).2.2 = 0) (h' : (matchSpec ar s t).2.1 = true) : applySpec ar (matchSpec ar s t).1 s = (t, 0) := by
  by_cases h1 : allErr ar [s, t] = 0
  · obtain ⟨k1, k2, k3, k4⟩ := ok_two h1
    cases hg : growT s t [] with
    | none => rw [matchSpec, if_pos h1, hg] at h'; cases h'
    | some bs =>
      rw [matchSpec, if_pos h1, hg]
      have h2 := grow_binds k2 ⟨k3, k4⟩ hg
      have h3 : applyT (sortB bs) s = t := by
        rw [applyT_sortB]
        have := (grow_apply (ar := ar) s.sz).1 s t [] bs [] (Nat.le_refl _) k2 k4 hg
        rwa [List.append_nil] at this
      show applySpec ar (sortB bs) s = _
      rw [apply_of (by rw [bindsErr, if_pos (all_sig h1)]; exact h2.2) ⟨k1, k2⟩ (by rw [h3]; exact k3), h3]
  · rw [matchSpec, if_neg h1] at h; exact absurd h h1
theorem match_len {ar : List Int} {s t : T} : (matchSpec ar s t).1.length ≤ 1000 := by
  by_cases h1 : allErr ar [s, t] = 0
  · obtain ⟨k1, k2, k3, k4⟩ := ok_two h1
    cases hg : growT s t [] with
    | none => rw [matchSpec, if_pos h1, hg]; simp
    | some bs =>
      rw [matchSpec, if_pos h1, hg]
      show (sortB bs).length ≤ 1000
      rw [sortB_length]
      have := (grow_size s.sz).1 s t [] bs (Nat.le_refl _) hg
      simp at this
      omega
  · rw [matchSpec, if_neg h1]; simp
attribute [local go_sem ↓] Go.wp_at_zero Go.wp_at_succ
end Go.Proofs.YtbkedppkdhfpoabGreat

namespace Go.Proofs.YtbkedppkdhfpoabGreat
open Go.RowKit Go.Maps

theorem match_ok {ar : List Int} {s t : T} : Once (matchSpec ar s t).1 ∧ ∀ x, x ∈ (matchSpec ar s t).1 → (1 ≤ x.1 ∧ x.1 ≤ 1000) ∧ x.2.sz ≤ 120 ∧ okP ar x.2 := by
  by_cases h1 : allErr ar [s, t] = 0
  · obtain ⟨k1, k2, k3, k4⟩ := ok_two h1
    cases hg : growT s t [] with
    | none => rw [matchSpec, if_pos h1, hg]; exact ⟨fun i j x y h => by simp at h, fun x hx => by cases hx⟩
    | some bs =>
      rw [matchSpec, if_pos h1, hg]
      have h2 := grow_binds k2 ⟨k3, k4⟩ hg
      have h3 := (grow_keeps (ar := ar) s.sz).1 s t [] bs (Nat.le_refl _) k2 hg ⟨fun i j x y h => by simp at h, fun x hx => by cases hx⟩
      show Once (sortB bs) ∧ _
      exact ⟨once_of_rise (sortB_rise h3.1), fun x hx => ⟨h3.2 x (sortB_mem hx), h2.1 x (sortB_mem hx)⟩⟩
  · rw [matchSpec, if_neg h1]; exact ⟨fun i j x y h => by simp at h, fun x hx => by cases hx⟩
theorem match_sz {ar : List Int} {s t : T} : WaySz (lookB (matchSpec ar s t).1) := fun v u h => by
  have := match_ok.2 (v, u) (lookB_mem h)
  simp only at this
  omega
/-- A way handed back: is there one? -/
def GivesW (base : Nat) (ok : Bool) (g : Way) (e : Ending) (w' : World) : Prop := ∃ b n f, e = .returned (.tuple #[.map (some b), .bool ok]) ∧ base ≤ b ∧ MapAt w' b n f ∧ GMap (fun k => base ≤ k ∧ k < b) w' g f ∧ n ≤ 1000
attribute [local go_sem ↓] Go.wp_at_zero Go.wp_at_succ
set_option maxRecDepth 100000 in
set_option maxHeartbeats 1000000 in
theorem matchSide_any (ar : List Int) (ga : Option Addr) (gcap : Nat) (s : T) (sa : Option Addr) (sc : Nat) (t : T) (ta : Option Addr) (tc : Nat) (w : World) (hg : Ints w ar ga) (hin : InL w s.args sa) (hin2 : InL w t.args ta) :
    Calls Tryz.prog 209 #[.agg #[.slice ga ar.length gcap], .agg #[.int .i64 s.v, .int .i64 s.f, .slice sa s.args.length sc], .agg #[.int .i64 t.v, .int .i64 t.f, .slice ta t.args.length tc]] w fun e w' => GivesW w.heap.size (matchSpec ar s t).2.1 (lookB (matchSpec ar s t).1) e w' ∧ Below w.heap.size w w' := by
  have HM := hide (fun o1 o2 o3 => Match_any ar ga gcap s sa sc t ta tc (((w.alloc o1).alloc o2).alloc o3) (Ints_alloc o3 (Ints_alloc o2 (Ints_alloc o1 hg))) (InP_alloc o3 (InP_alloc o2 (InP_alloc o1 hin))) (InP_alloc o3 (InP_alloc o2 (InP_alloc o1 hin2))))
  have Hok := hide (match_ok (ar := ar) (s := s) (t := t))
  have Hlen := hide (match_len (ar := ar) (s := s) (t := t))
  obtain ⟨M, hM⟩ : ∃ M, M = matchSpec ar s t := ⟨_, rfl⟩
  rw [← hM] at HM Hok Hlen
  rw [← hM]
  have hmm := @run_makeMap Tryz.prog
  clear hM hg hin hin2
  go_enter Tryz.func209, Tryz.ntmps209
  go_wp2_with fail
  refine (HM.out _ _ _).mono ?_
  rintro e w1 ⟨⟨ba, bc, rfl, hbs⟩, hb1⟩
  have Hb1 := hide ((below3 w _ _ _).trans (hb1.mono (by simp; omega)))
  have Hbs : Hid (Binds (fun k => w.heap.size ≤ k ∧ k < w1.heap.size) w1 M.1 ba) := Binds_imp (fun k hk => ⟨by have := hk.1; simp at this; omega, hk.2⟩) (Binds_lt hbs)
  have hlen := Hlen.out
  clear hbs hb1 HM Hlen
  go_wp2_with fail
  go_loopw [25] (fun i wr => ∃ (k : Nat) (f : Int → Option Value), k ≤ M.1.length ∧ i = .int .i64 k ∧ Hid (MapAt wr w1.heap.size k f) ∧ Hid (GMap (fun k => w.heap.size ≤ k ∧ k < w1.heap.size) wr (lookB (M.1.take k)) f) ∧ Hid (Below w1.heap.size w1 wr)) (fun i _ => M.1.length - (intOf i).toNat)
  case atStart => exact ⟨0, fun _ => none, Nat.zero_le _, rfl, hide (MapAt.made w1), hide (fun v => ⟨fun _ => rfl, fun u hu => by cases hu⟩), hide (below1 _ _)⟩
  case round =>
    obtain ⟨k, f, hk, rfl, HM, HB, Hb⟩ := hrel
    have hMl := HM.out.lt
    clear hmm
    by_cases hlt : k < M.1.length
    · obtain ⟨b, off, rfl⟩ := Binds_some Hbs.out (by omega)
      obtain ⟨x, hx⟩ : ∃ x, M.1[k]? = some x := ⟨M.1[k], List.getElem?_eq_getElem hlt⟩
      obtain ⟨a1, cap1, hqb, c0, c1, c2, c3, hin1⟩ := Binds_at (Binds_below Hb.out Hbs.out) hx
      have hxr := (Hok.out.2 x (List.mem_of_getElem? hx)).1
      have hkI : (k : Int) < M.1.length := by omega
      have hk0 : (0 : Int) ≤ k := by omega
      have Hx := hide hx
      have Hin1 := hide hin1
      have hbb := lt_of_cell c0
      have hz := Hb.out.size
      clear hx hin1
      go_wp2_with (at_mapUpdate; refine wpList_store_map _ rfl _ _ _ 152 rfl 77 Tryz.underW w1.heap.size k f rfl (HM.out.below (below1 _ _)) (by unfold maxLen; omega) x.1 (.agg #[.int .i64 x.2.v, .int .i64 x.2.f, .slice a1 x.2.args.length cap1]) (by first | rfl | simp [go_sem]) (by first | rfl | simp [go_sem]) (by omega) (by omega) ?_; intro w2 hM2 hg2)
      have hkeep : ∀ j, (w.heap.size ≤ j ∧ j < w1.heap.size) → j < wr.heap.size → w2.heap[j]? = wr.heap[j]? := fun j hj hjl => by
        rw [hg2.block j (by rw [World.size_alloc]; omega) (fun e => by cases e; omega), Below.heap_alloc _ _ _ hjl]
      have hb2 : Below w1.heap.size w1 w2 := (Hb.out.alloc (by omega) _).grown hg2 (by rw [World.size_alloc]; omega) (fun j hj => by cases hj; exact Nat.le_refl _)
      have hB2 : GMap (fun k => w.heap.size ≤ k ∧ k < w1.heap.size) w2 (lookB (M.1.take (k + 1))) (fun j => if j = x.1 then some (.agg #[.int .i64 x.2.v, .int .i64 x.2.f, .slice a1 x.2.args.length cap1]) else f j) := fun v => by
        rw [lookB_take Hok.out.1 Hx.out]
        by_cases e : v = x.1
        · simp only [if_pos e]
          refine ⟨fun h => (by cases h), fun u hu => ?_⟩
          obtain rfl : x.2 = u := by simpa using hu
          exact ⟨a1, cap1, rfl, InP_same hkeep Hin1.out⟩
        · simp only [if_neg e]
          exact (HB.out.mono (fun j hj hl => ⟨hj, hkeep j hj hl⟩)) v
      go_roundw
      case rel => exact ⟨k + 1, _, by omega, by go_num, hide hM2, hide hB2, hide hb2⟩
      case measure => simp [intOf]; omega
    · have hk2 : k = M.1.length := by omega
      subst hk2
      rw [List.take_length] at HB
      go_wp2_with fail
      go_ret2
      exact ⟨⟨w1.heap.size, M.1.length, f, rfl, Hb1.out.size, HM.out, HB.out, hlen⟩, Hb1.out.trans (Hb.out.mono Hb1.out.size)⟩
end Go.Proofs.YtbkedppkdhfpoabGreat

namespace Go.Proofs.YtbkedppkdhfpoabGreat
open Go.RowKit Go.Maps

/-- Both of them: what the second one binds comes first. -/
def bothW (g o : Way) : Way := fun v => match o v with
  | some u => some u
  | none => g v
attribute [local go_sem ↓] Go.wp_at_zero Go.wp_at_succ
set_option maxRecDepth 100000 in
set_option maxHeartbeats 1000000 in
theorem copyW_any (p : Nat → Prop) (g o : Way) (b n b2 n2 : Nat) (w : World) (hne : b ≠ b2) (hpb : ∀ k, p k → k < w.heap.size) (hpn : n + n2 ≤ 100000) (hnk : ∀ k, p k → k ≠ b) (hnb : p b2) (hg : ∃ f, MapAt w b n f ∧ GMap p w g f) (ho : WayAt p w b2 n2 o) :
    Calls Tryz.prog 210 #[.map (some b), .map (some b2)] w fun e w' => e = .returned (.tuple #[]) ∧ (∃ f, MapAt w' b (n + n2) f ∧ GMap p w' (bothW g o) f) ∧ w.grownBy w' (some b) := by
  obtain ⟨f, hM, hG⟩ := hg
  obtain ⟨_, f2, ⟨D, hD, hf⟩, hG2⟩ := ho
  have hsz := hD.size_le
  have hbl := hM.lt
  have Hf := hide hf
  have HG := hide hG
  have HG2 := hide hG2
  have HM := hide hM
  have Hpb := hide hpb
  have Hnk := hide hnk
  have hb2l := hpb b2 hnb
  clear hf hG hG2 hM hpb hnk
  go_enter Tryz.func210, Tryz.ntmps210
  go_wp2_with (first | (at_range; refine wpList_range_own _ rfl _ 152 rfl 3 77 Tryz.key3 Tryz.underW _ b2 n2 D rfl hD ?_; intro w0 hrg0 hg0 hs0) | go_in)
  go_frame
  have Hg0 : Hid (w.grownBy w0 (some b)) := ⟨hg0.os, hg0.tape, hg0.output, hg0.size, fun k hk _ => hg0.block k hk (by simp)⟩
  have H0 : Hid (∀ k : Int, Maps.has D (.int .i64 k) = true → (f2 k).isSome = true) := fun k hk => by rw [← (Hf.out k).1]; exact hk
  have HM0 := hide (HM.out.same (hg0.block b hbl (by simp)))
  have HF0 : Hid (∀ k : Int, f k = if (f2 k).isSome && !Maps.has D (.int .i64 k) then f2 k else f k) := fun k => by rw [(Hf.out k).1]; cases (f2 k).isSome <;> simp
  go_loopw [9] (fun _ wr => ∃ (left : Go.Lit → Bool) (cnt m : Nat) (F : Int → Option Value), Hid (wr.ranges Tryz.prog 3 Rv b2 w.heap.size n2 D left cnt) ∧ Hid (∀ k : Int, left (.int .i64 k) = true → (f2 k).isSome = true) ∧ Hid (MapAt wr b m F) ∧ m + cnt ≤ n + n2 ∧ Hid (∀ k : Int, F k = if (f2 k).isSome && !left (.int .i64 k) then f2 k else f k) ∧ Hid (w.grownBy wr (some b))) (fun _ wr => wr.rangeLeft b2 w.heap.size)
  case atStart => exact ⟨_, _, n, f, hide hrg0, H0, HM0, by omega, HF0, Hg0⟩
  case round =>
    obtain ⟨left, cnt, m, F, Hrg, Hsub, HMr, hmc, HF, Hgr⟩ := hrel
    have hzr := Hgr.out.size
    clear hrg0 hg0 hs0 hD HM0 HF0 H0 Hg0
    go_wp2_with (first | (at_next; refine wpList_next_way rfl _ rfl b2 w.heap.size n2 D left cnt f2 Hf.out Hsub.out rfl Hrg.out ?_ ?_) | go_in)
    · intro hl0
      have Hend : Hid (∃ f, MapAt wr b (n + n2) f ∧ GMap p wr (bothW g o) f) := by
        refine ⟨F, HMr.out.mono (by omega), fun v => ?_⟩
        have hk : ∀ j, p j → j < w.heap.size → wr.heap[j]? = w.heap[j]? := fun j hj hl => Hgr.out.block j hl (fun e => by cases e; exact Hnk.out _ hj rfl)
        have h9 := HF.out v
        rw [hl0 v] at h9
        have hg1 := (HG.out.mono (q := p) (w' := wr) (fun j hj hl => ⟨hj, hk j hj hl⟩)) v
        have hg2 := (HG2.out.mono (q := p) (w' := wr) (fun j hj hl => ⟨hj, hk j hj hl⟩)) v
        rw [bothW]
        cases hov : o v with
        | none =>
          have hf2 := hg2.1 hov
          rw [hf2] at h9
          simp only [Option.isSome_none, Bool.false_and] at h9
          rw [h9]
          exact hg1
        | some u =>
          obtain ⟨a, cap, h1, h2⟩ := hg2.2 u hov
          rw [h1] at h9
          simp at h9
          refine ⟨fun h => (by cases h), fun u' hu' => ?_⟩
          obtain rfl := Option.some.inj hu'
          exact ⟨a, cap, h9, h2⟩
      clear hl0
      go_wp2_with fail
      go_end0
      exact ⟨rfl, Hend.out, Hgr.out⟩
    · intro x v w1 cnt1 hxI hxJ hfx hrg1 hlt hg1 hs1 hen
      obtain ⟨t, htx⟩ : ∃ t, o x = some t := by
        cases hgx : o x with
        | none => rw [(HG2.out x).1 hgx] at hfx; cases hfx
        | some t => exact ⟨t, rfl⟩
      obtain ⟨a, cap, hfv, hin⟩ := (HG2.out x).2 t htx
      obtain rfl : v = .agg #[.int .i64 t.v, .int .i64 t.f, .slice a t.args.length cap] := Option.some.inj (hfx.symm.trans hfv)
      have hne1 : b ≠ w.heap.size := by omega
      have HM1 := hide (HMr.out.same (hg1.block b HMr.out.lt (fun e => hne1 (by cases e; rfl))))
      have hzs : w1.heap.size = wr.heap.size := hs1
      have Hg1 : Hid (w.grownBy w1 (some b)) := Hgr.out.andThen hg1 (fun j hj => by cases hj; exact Or.inl (Nat.le_refl _))
      have Hmes := hide (show ∀ wr' : World, wr'.ranges Tryz.prog 3 Rv b2 w.heap.size n2 D (fun z => left z && !z.sameKey (.int .i64 x)) cnt1 → wr'.rangeLeft b2 w.heap.size < wr.rangeLeft b2 w.heap.size from fun wr' h => by rw [h.left_eq, Hrg.out.left_eq]; exact hlt)
      have Hrg1 := hide hrg1
      have Hfx := hide hfx
      have hlt' := hlt
      clear hrg1 hlt hg1 hfx hfv hin htx hs1
      go_wp2_with (first | (at_mapUpdate; refine wpList_store_map _ rfl _ _ _ 152 rfl 77 Tryz.underW b m F rfl (HM1.out.below (below1 _ _)) (by unfold maxLen; omega) x (.agg #[.int .i64 t.v, .int .i64 t.f, .slice a t.args.length cap]) (by first | rfl | simp [go_sem]) (by first | rfl | simp [go_sem]) hxI hxJ ?_; intro w2 hM2 hg2; go_frame) | go_in)
      have Hrg2 := hide ((Hrg1.out.alloc _).kept hg2 (by simpa using hne.symm) (by simpa using hne1.symm))
      have Hg2 : Hid (w.grownBy w2 (some b)) := (Hg1.out.andThen (World.grownBy_alloc w1 _ none) (by simp)).andThen hg2 (fun j hj => by cases hj; exact Or.inr rfl)
      have HF2 : Hid (∀ k : Int, (if k = x then some (.agg #[.int .i64 t.v, .int .i64 t.f, .slice a t.args.length cap]) else F k) = if (f2 k).isSome && !(left (.int .i64 k) && !(Go.Lit.int .i64 k).sameKey (.int .i64 x)) then f2 k else f k) := by
        intro k
        rw [same_key]
        by_cases e : k = x
        · subst e
          rw [if_pos rfl, Hfx.out]; simp
        · have : (k == x) = false := by simpa using e
          rw [if_neg e, this, HF.out k]; simp
      have Hsub2 : Hid (∀ k : Int, (left (.int .i64 k) && !(Go.Lit.int .i64 k).sameKey (.int .i64 x)) = true → (f2 k).isSome = true) := fun k hk => Hsub.out k (by rw [Bool.and_eq_true] at hk; exact hk.1)
      go_roundw
      case rel => exact ⟨_, cnt1, m + 1, _, Hrg2, Hsub2, hide hM2, by omega, HF2, Hg2⟩
      case measure => exact Hmes.out _ Hrg2.out
end Go.Proofs.YtbkedppkdhfpoabGreat
