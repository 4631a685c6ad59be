/- The unifier answers, and right: what makes both the same, made of no more than it must be. What a part is to another one: greater, the same, or neither; and what need not be asked. No word of the program's memory here. The table that the program's order keeps: what it holds is right, as far as it is asked. What the program's order asks of arguments, by way of its table. -/
import Derived.Test.YtbkedppkdhfpoabGreatJoined8
namespace Go.Proofs.YtbkedppkdhfpoabGreat

/-- What variables are by bindings. -/
def byB (bs : List (Int × T)) (v : Int) : T := (putIn bs v).getD ⟨v, 0, []⟩
theorem apply_sub {ar : List Int} {bs : List (Int × T)} : ∀ (n : Nat) (t : T), t.sz ≤ n → okP ar t → applyT bs t = sub (byB bs) t := by
  intro n
  induction n with
  | zero => intro t h; have := t.sz_pos; omega
  | succ n ih =>
    intro t h ht
    by_cases hv : t.v = 0
    · rw [applyT_fn hv, sub_fn hv]
      have : t.args.map (applyT bs) = t.args.map (sub (byB bs)) := List.map_congr_left fun a ha => by
        have := arg_sz ha
        exact ih a (by omega) (okArg ht ha)
      rw [this]
    · rw [sub_var hv, byB]
      cases hp : putIn bs t.v with
      | some u => rw [applyT_some hp]; rfl
      | none =>
        rw [applyT_none hp, (ok_var ht hv).1, (ok_var ht hv).2]; rfl
theorem sub_comp {θ σ : Int → T} (h : ∀ v, v ≠ 0 → θ v = sub θ (σ v)) : ∀ (n : Nat) (t : T), t.sz ≤ n → sub θ (sub σ t) = sub θ t := by
  intro n
  induction n with
  | zero => intro t h; have := t.sz_pos; omega
  | succ n ih =>
    intro t ht
    by_cases hv : t.v = 0
    · rw [sub_fn (θ := σ) hv, sub_fn (t := ⟨0, t.f, t.args.map (sub σ)⟩) rfl, sub_fn (θ := θ) hv]
      have : (t.args.map (sub σ)).map (sub θ) = t.args.map (sub θ) := by
        rw [List.map_map]
        exact List.map_congr_left fun a ha => by
          have := arg_sz ha
          exact ih a (by omega)
      simp only [this]
    · rw [sub_var (θ := σ) hv, sub_var (θ := θ) hv, ← h _ hv]
theorem occL_of {v : Int} {a : T} {l : List T} (ha : a ∈ l) (hv : occ v a) : occ.occL v l := by
  induction l with
  | nil => cases ha
  | cons b l ihl =>
    rcases List.mem_cons.1 ha with rfl | ha
    · exact Or.inl hv
    · exact Or.inr (ihl ha)
theorem sub_congr {θ σ : Int → T} : ∀ (n : Nat) (t : T), t.sz ≤ n → (∀ v, v ≠ 0 → occ v t → θ v = σ v) → sub θ t = sub σ t := by
  intro n
  induction n with
  | zero => intro t h; have := t.sz_pos; omega
  | succ n ih =>
    intro t ht h
    by_cases hv : t.v = 0
    · rw [sub_fn hv, sub_fn hv]
      have : t.args.map (sub θ) = t.args.map (sub σ) := List.map_congr_left fun a ha => by
        have := arg_sz ha
        exact ih a (by omega) fun v h0 hv => h v h0 (occ_iff.2 (Or.inr (occL_of ha hv)))
      rw [this]
    · rw [sub_var hv, sub_var hv]; exact h _ hv (occ_iff.2 (Or.inl rfl))

/-- What makes two terms the same, made of no more than it must be, with the least variables. -/
structure Mgu (σ : Int → T) (s t : T) : Prop where
  same : sub σ s = sub σ t
  most : ∀ θ : Int → T, sub θ s = sub θ t → ∀ v, v ≠ 0 → θ v = sub θ (σ v)
  least : ∀ v, v ≠ 0 → (σ v).v ≠ 0 → (σ v).v ≤ v
  vars : ∀ v, v ≠ 0 → ¬ occ v s → ¬ occ v t → σ v = ⟨v, 0, []⟩
/-- Bindings as they are answered. -/
structure BsOk (ar : List Int) (bs : List (Int × T)) : Prop where
  rise : (bs.map Prod.fst).Pairwise (· < ·)
  each : ∀ v u, (v, u) ∈ bs → (1 ≤ v ∧ v ≤ 1000) ∧ okP ar u ∧ u.sz ≤ 120 ∧ u ≠ ⟨v, 0, []⟩

theorem lookB_of {bs : List (Int × T)} (hr : (bs.map Prod.fst).Pairwise (· < ·)) {v : Int} {u : T} (h : (v, u) ∈ bs) : lookB bs v = some u := by
  induction bs with
  | nil => cases h
  | cons b bs ih =>
    obtain ⟨w, x⟩ := b
    rw [List.map_cons, List.pairwise_cons] at hr
    rw [lookB]
    rcases List.mem_cons.1 h with h | h
    · cases h; rw [if_pos rfl]
    · have : w < v := hr.1 v (List.mem_map_of_mem (f := Prod.fst) h)
      rw [if_neg (by omega)]; exact ih hr.2 h
theorem lookB_not {bs : List (Int × T)} {v : Int} (h : v ∉ bs.map Prod.fst) : lookB bs v = none := by
  induction bs with
  | nil => rfl
  | cons b bs ih =>
    obtain ⟨w, x⟩ := b
    rw [List.map_cons, List.mem_cons] at h
    rw [lookB, if_neg (fun e => h (Or.inl e.symm))]
    exact ih (fun h' => h (Or.inr h'))

/-- The unifier answers, and right. -/
theorem unify_all {ar : List Int} {s t : T} (hs : okP ar s) (ht : okP ar t) (hs1 : s.sz ≤ 120) (ht1 : t.sz ≤ 120) : ∃ r, unifyF 1000 s t = some r ∧ ((r = ([], false, 0) ∧ ∀ θ : Int → T, sub θ s ≠ sub θ t) ∨
    ∃ σ : Int → T, Mgu σ s t ∧ ((r = ([], false, 2) ∧ 120 < (sub σ s).sz) ∨ ∃ bs, r = (bs, true, 0) ∧ (sub σ s).sz ≤ 120 ∧ BsOk ar bs ∧ ∀ v, v ≠ 0 → byB bs v = σ v)) := by
  obtain ⟨a1, a2, a3⟩ := (add_rep s.sz).1 s ([], []) (Nat.le_refl _) hs (AInv.nil ar)
  obtain ⟨b1, b2, b3⟩ := (add_rep t.sz).1 t (addT s ([], [])).2 (Nat.le_refl _) ht a1.inv
  have ks := (add_keys (ar := ar) s.sz).1 s ([], []) (Nat.le_refl _) hs ⟨List.nodup_nil, fun x hx => by cases hx⟩
  have kt := (add_keys (ar := ar) t.sz).1 t _ (Nat.le_refl _) ht ks
  have a4 := b1.rep a2
  have a5 : (addT s ([], [])).1 < (addT t (addT s ([], [])).2).2.1.length := (List.getElem?_eq_some_iff.1 (b1.more _ _ (List.getElem?_eq_getElem a3))).1
  have hfrom : ∀ v m, lookN (addT t (addT s ([], [])).2).2.2 v = some m → occ v s ∨ occ v t := fun v m hm => by
    rcases b1.from' v m hm with ⟨m', h9⟩ | h9
    · rcases a1.from' v m' h9 with ⟨m'', h8⟩ | h8
      · cases h8
      · exact Or.inl h8
    · exact Or.inr h9
  have hI := b1.inv
  have hsz1 := ((add_size s.sz).1 s ([], []) (Nat.le_refl _)).1
  have hsz2 := ((add_size t.sz).1 t (addT s ([], [])).2 (Nat.le_refl _)).1
  have hsz : (addT t (addT s ([], [])).2).2.1.length ≤ 240 := by
    have : ([] : List Pt).length = 0 := rfl
    simp only [this] at hsz1
    omega
  clear b1 a1 a2 a3 ks hsz1 hsz2
  unfold unifyF
  generalize (addT t (addT s ([], [])).2).1 = tj at b2 b3 ⊢
  generalize (addT t (addT s ([], [])).2).2 = S at a4 a5 b2 b3 hI hfrom kt hsz ⊢
  generalize (addT s ([], [])).1 = ti at a4 a5 ⊢
  obtain ⟨P, vs⟩ := S
  simp only at a4 a5 b2 b3 hI hfrom kt hsz ⊢
  have hw := hI.wf
  simp only at hw
  have hhl : heads P ≤ 240 := by
    have : heads P ≤ (List.range P.length).length := List.countP_le_length
    rw [List.length_range] at this; omega
  obtain ⟨ok, P2, j1, j2, j3, j4⟩ := join_ok (heads P + 1) P ti tj hw a5 b3 (by omega)
  have hresp0 : ∀ D, Resp P D := fun D k p hp => by rw [(hI.self k p hp).1]
  have hcomp : ∀ θ : Int → T, sub θ s = sub θ t → ∃ D, IsDen θ P D ∧ D ti = D tj ∧ ok = true ∧ Resp P2 D := fun θ he => by
    obtain ⟨D, hD⟩ := den_ex θ hw.args
    have e1 := rep_den hD s.sz s ti (Nat.le_refl _) a4
    have e2 := rep_den hD t.sz t tj (Nat.le_refl _) b2
    have e3 : D ti = D tj := by rw [e1, e2, he]
    exact ⟨D, hD, e3, j4 θ D hD (hresp0 D) e3⟩
  cases ok with
  | false =>
    refine ⟨([], false, 0), by rw [joinF_mono j1 (show heads P + 1 ≤ 1000 by omega)]; rfl, Or.inl ⟨rfl, fun θ he => ?_⟩⟩
    obtain ⟨D, _, _, h9, _⟩ := hcomp θ he
    cases h9
  | true =>
    have hlen := j2.sj.len
    have hgood : ∀ k, k < P2.length → Good P2 k := fun k hk => by
      have hk' : k < P.length := by omega
      have hp := List.getElem?_eq_getElem hk'
      have hp2 := List.getElem?_eq_getElem hk
      rcases j2.links rfl k _ _ hp hp2 with e | g
      · intro x y hx hy
        rw [hp2] at hx; cases hx
        rw [e, (hI.self k _ hp).1, hp2] at hy
        cases hy
        by_cases h0 : P2[k].v = 0
        · exact Or.inr ⟨h0, rfl, rfl, fun i a b ha hb => by rw [ha] at hb; cases hb; rfl⟩
        · exact Or.inl h0
      · exact g
    have hsz0 : ∀ (k : Nat) (p : Pt), P2[k]? = some p → p.size = 0 := fun k p hp => by
      obtain ⟨p', h1, _, _, _, h2⟩ := j2.sj.symm.at hp
      rw [← h2]; exact (hI.self k p' h1).2
    have hzl : zeros P2 ≤ 240 := by
      have : zeros P2 ≤ (List.range P2.length).length := List.countP_le_length
      rw [List.length_range] at this; omega
    obtain ⟨m, P3, m1, m2, m3, m4, m5, m6, m7⟩ := meas_ok (zeros P2 + 1) P2 ti j2.wf (by omega) (fun k p hp => Or.inl (hsz0 k p hp)) (by omega)
    rcases m5 with m5 | ⟨m51, m52, n0, u0, m53, m54⟩
    · refine ⟨([], false, 0), ?_, Or.inl ⟨rfl, fun θ he => ?_⟩⟩
      · rw [joinF_mono j1 (show heads P + 1 ≤ 1000 by omega)]
        simp only [if_true, measF_mono m1 (show zeros P2 + 1 ≤ 1000 by omega), if_pos m5]
      · obtain ⟨D, hD, hDe, _, hr⟩ := hcomp θ he
        exact (m7 _ (rank_den j2.wf (hD.same j2.sj) hr) (fun j p hp hm => by rw [hsz0 j p hp] at hm; cases hm)).1 m5
    · have hR1 : Rep P2 vs s ti := (Rep_more (fun k p hp => by obtain ⟨p', h1, h2, h3, h4, _⟩ := j2.sj.at hp; exact ⟨p', h1, h2, h3, h4⟩) (fun v n hn => hn) s.sz).1 s ti (Nat.le_refl _) a4
      have hR2 : Rep P2 vs t tj := (Rep_more (fun k p hp => by obtain ⟨p', h1, h2, h3, h4, _⟩ := j2.sj.at hp; exact ⟨p', h1, h2, h3, h4⟩) (fun v n hn => hn) t.sz).1 t tj (Nat.le_refl _) b2
      have hmj : madeF P2 n0 tj = some u0 := by rw [← made_hd j2.wf (by omega) (by omega) (j3 rfl)]; exact m53
      have hfine : ∀ v m, lookN vs v = some m → ∃ n u, madeF P2 n m = some u ∧ u.sz ≤ u0.sz := fun v m hm => by
        have hv := (hI.keys v m hm).1
        rcases hfrom v m hm with ho | ho
        · exact fine_occ j2.wf hgood s.sz s ti (Nat.le_refl _) hR1 ⟨n0, u0, m53, Nat.le_refl _⟩ v m hv ho hm
        · exact fine_occ j2.wf hgood t.sz t tj (Nat.le_refl _) hR2 ⟨n0, u0, hmj, Nat.le_refl _⟩ v m hv ho hm
      have hok2 : ∀ (k : Nat) (p : Pt), P2[k]? = some p → partErr ar p.v p.f p.args.length = 0 := fun k p hp => by
        obtain ⟨p', h1, h2, h3, h4, _⟩ := j2.sj.symm.at hp
        rw [← h2, ← h3, ← h4]; exact hI.ok k p' h1
      -- what variables are
      have hσex : ∃ σ : Int → T, (∀ v m n u, lookN vs v = some m → madeF P2 n m = some u → σ v = u) ∧ ∀ v, lookN vs v = none → σ v = ⟨v, 0, []⟩ := by
        have hall : ∀ v : Int, ∃ u : T, (∀ m n u', lookN vs v = some m → madeF P2 n m = some u' → u = u') ∧ (lookN vs v = none → u = ⟨v, 0, []⟩) := fun v => by
          cases hlk : lookN vs v with
          | none => exact ⟨⟨v, 0, []⟩, (fun m n u' h => by cases h), fun _ => rfl⟩
          | some m =>
            obtain ⟨n, u, hu, _⟩ := hfine v m hlk
            exact ⟨u, fun m' n' u' h1 h2 => by cases h1; exact madeF_det hu h2, (fun h => by cases h)⟩
        obtain ⟨f, hf⟩ := Classical.axiomOfChoice hall
        exact ⟨f, fun v => (hf v).1, fun v => (hf v).2⟩
      obtain ⟨σ, hσ, hσ0⟩ := hσex
      have hsub1 : u0 = sub σ s := made_rep j2.wf hgood hσ s.sz s ti n0 u0 (Nat.le_refl _) hR1 m53
      have hsub2 : u0 = sub σ t := made_rep j2.wf hgood hσ t.sz t tj n0 u0 (Nat.le_refl _) hR2 hmj
      -- the number of a variable's part
      have hpart : ∀ v m, lookN vs v = some m → ∃ p, P2[m]? = some p ∧ p.v = v ∧ p.v ≠ 0 := fun v m hm => by
        obtain ⟨h1, p, h2, h3⟩ := hI.keys v m hm
        obtain ⟨p', h4, h5, _⟩ := j2.sj.at h2
        exact ⟨p', h4, h5.trans h3, by rw [h5, h3]; exact h1⟩
      have hmgu : Mgu σ s t := by
        refine ⟨hsub1.symm.trans hsub2, fun θ he v hv => ?_, fun v hv h0 => ?_, fun v hv h1 h2 => ?_⟩
        · obtain ⟨D, hD, _, _, hr⟩ := hcomp θ he
          cases hlk : lookN vs v with
          | none => rw [hσ0 v hlk, sub_var (t := ⟨v, 0, []⟩) hv]
          | some m =>
            obtain ⟨n, u, hu, _⟩ := hfine v m hlk
            rw [hσ v m n u hlk hu, made_den j2.wf (hD.same j2.sj) hr n m u hu]
            obtain ⟨p, hp, hpv, hp0⟩ := hpart v m hlk
            rw [hD.same j2.sj m p hp, if_neg hp0, hpv]
        · cases hlk : lookN vs v with
          | none => rw [hσ0 v hlk]; exact Int.le_refl _
          | some m =>
            obtain ⟨n, u, hu, _⟩ := hfine v m hlk
            rw [hσ v m n u hlk hu]
            obtain ⟨p, hp, hpv, hp0⟩ := hpart v m hlk
            obtain ⟨n', r, q, ts, _, k1, k2, _, rfl⟩ := madeF_some hu
            have hml := (List.getElem?_eq_some_iff.1 hp).1
            have := hd_vle j2.wf m hml p q hp (by rw [hd_of j2.wf k1]; exact k2)
            show q.v ≤ v
            omega
        · refine hσ0 v ?_
          cases hlk : lookN vs v with
          | none => rfl
          | some m => rcases hfrom v m hlk with h9 | h9
                      · exact absurd h9 h1
                      · exact absurd h9 h2
      by_cases hgr : 120 < m
      · refine ⟨([], false, 2), ?_, Or.inr ⟨σ, hmgu, Or.inl ⟨rfl, by rw [← hsub1]; omega⟩⟩⟩
        rw [joinF_mono j1 (show heads P + 1 ≤ 1000 by omega)]
        simp only [if_true, measF_mono m1 (show zeros P2 + 1 ≤ 1000 by omega), if_neg (show ¬ m = -1 by omega), if_pos hgr]
      · have hu0 : u0.sz ≤ 120 := by omega
        have hkey : ∀ v, v ∈ (vs.map Prod.fst).mergeSort (fun x y => decide (x ≤ y)) ↔ ∃ m, lookN vs v = some m := fun v => by
          rw [List.mem_mergeSort, lookN_isSome, Option.isSome_iff_exists]
        have hnd : ((vs.map Prod.fst).mergeSort (fun x y => decide (x ≤ y))).Nodup := (List.mergeSort_perm _ _).nodup_iff.2 kt.1
        have hsort : ((vs.map Prod.fst).mergeSort (fun x y => decide (x ≤ y))).Pairwise (· < ·) := by
          have h1 := List.pairwise_mergeSort (le := fun (x y : Int) => decide (x ≤ y)) (fun a b c hab hbc => by simp only [decide_eq_true_eq] at hab hbc ⊢; omega) (fun a b => by simp only [Bool.or_eq_true, decide_eq_true_eq]; omega) (vs.map Prod.fst)
          refine (h1.and hnd).imp ?_
          rintro a b ⟨h2, h3⟩
          simp only [decide_eq_true_eq] at h2
          have h4 : a ≠ b := h3
          omega
        have w3 := m2.wf j2.wf
        obtain ⟨bs, o1, o2, o3⟩ := outF_ok w3 (M := 1000) (vn := fun v => (lookN vs v).getD 0) ((vs.map Prod.fst).mergeSort (fun x y => decide (x ≤ y))) (fun v hv => by
          obtain ⟨m', hm'⟩ := (hkey v).1 hv
          obtain ⟨n, u, hu, hul⟩ := hfine v m' hm'
          obtain ⟨p, hp, _⟩ := hpart v m' hm'
          rw [hm']
          exact ⟨by rw [m2.len]; exact (List.getElem?_eq_some_iff.1 hp).1, u, by rw [m2.madeE]; exact madeF_mono (made_fuel n _ u hu) (by omega)⟩)
        have hrise : (bs.map Prod.fst).Pairwise (· < ·) := hsort.sublist o2
        have hmemb : ∀ v u, (v, u) ∈ bs → ∃ m' n, lookN vs v = some m' ∧ madeF P2 n m' = some u ∧ hd P2 m' ≠ m' := fun v u hvu => by
          have hv : v ∈ (vs.map Prod.fst).mergeSort (fun x y => decide (x ≤ y)) := o2.subset (List.mem_map_of_mem (f := Prod.fst) hvu)
          obtain ⟨m', hm'⟩ := (hkey v).1 hv
          obtain ⟨n, u', hu, _⟩ := hfine v m' hm'
          have h9 := o3 v hv n u' (by rw [hm', m2.madeE]; exact hu)
          obtain ⟨_, n2, hn2⟩ := h9.2.2 v u hvu
          rw [hm', m2.madeE] at hn2
          refine ⟨m', n2, hm', hn2, fun e => ?_⟩
          refine h9.2.1 ?_ hnd (List.mem_map_of_mem (f := Prod.fst) hvu)
          rw [hm', m2.hdE]; exact e
        have hby : ∀ v, v ≠ 0 → byB bs v = σ v := fun v hv => by
          cases hlk : lookN vs v with
          | none =>
            rw [hσ0 v hlk, byB]
            have : v ∉ bs.map Prod.fst := fun hm => by
              obtain ⟨m', h9⟩ := (hkey v).1 (o2.subset hm)
              rw [hlk] at h9; cases h9
            have hpn : putIn bs v = none := by
              rw [putIn, lookB_not this]; split <;> rfl
            rw [hpn]; rfl
          | some m' =>
            obtain ⟨n, u, hu, _⟩ := hfine v m' hlk
            obtain ⟨p, hp, hpv, hp0⟩ := hpart v m' hlk
            have hvm : v ∈ vs.map Prod.fst := (lookN_isSome vs v).2 (by rw [hlk]; rfl)
            have hv1 : 0 < v := by have := (kt.2 v hvm).1; omega
            rw [hσ v m' n u hlk hu, byB, putIn, if_pos hv1]
            have h9 := o3 v ((hkey v).2 ⟨m', hlk⟩) n u (by rw [hlk, m2.madeE]; exact hu)
            by_cases e : hd P2 m' = m'
            · have h8 := h9.2.1 (by rw [hlk, m2.hdE]; exact e) hnd
              rw [lookB_not h8]
              obtain ⟨n', r, q, ts, _, k1, k2, k3, rfl⟩ := madeF_some hu
              have hr : r = m' := by rw [← hd_of j2.wf k1]; exact e
              subst hr
              rw [hp] at k2; cases k2
              have hva := j2.wf.var r p hp hp0
              rw [hva.1] at k3
              cases k3
              rw [hva.2, hpv]; rfl
            · have h8 := h9.1 (by rw [hlk, m2.hdE]; exact e)
              rw [lookB_of hrise h8]; rfl
        refine ⟨(bs, true, 0), ?_, Or.inr ⟨σ, hmgu, Or.inr ⟨bs, rfl, by rw [← hsub1]; exact hu0, ⟨hrise, fun v u hvu => ?_⟩, hby⟩⟩⟩
        · rw [joinF_mono j1 (show heads P + 1 ≤ 1000 by omega)]
          simp only [if_true, measF_mono m1 (show zeros P2 + 1 ≤ 1000 by omega), if_neg (show ¬ m = -1 by omega), if_neg hgr, o1]
        · obtain ⟨m', n, k1, k2, k3⟩ := hmemb v u hvu
          obtain ⟨n2, u2, k4, k5⟩ := hfine v m' k1
          have e := madeF_det k2 k4
          subst e
          have hvm : v ∈ vs.map Prod.fst := (lookN_isSome vs v).2 (by rw [k1]; rfl)
          have h0 := (hI.keys v m' k1).1
          have h1 := kt.2 v hvm
          refine ⟨by omega, made_ok hok2 n m' u k2, by omega, fun e => ?_⟩
          obtain ⟨p, hp, hpv, hp0⟩ := hpart v m' k1
          obtain ⟨n', r, q, ts, _, g1, g2, g3, g4⟩ := madeF_some k2
          rw [e] at g4
          simp only [T.mk.injEq] at g4
          have hrm := j2.wf.uniq r m' q p g2 hp (by rw [hpv]; exact g4.1.symm) (by rw [← g4.1]; exact h0)
          exact k3 (by rw [hd_of j2.wf g1]; exact hrm)
end Go.Proofs.YtbkedppkdhfpoabGreat

namespace Go.Proofs.YtbkedppkdhfpoabGreat

/-- 1: greater; 2: the same; 3: neither. -/
def cmpS (s t : T) : Int := if gt s t then 1 else if sameT s t then 2 else 3
theorem cmpS_range (s t : T) : cmpS s t = 1 ∨ cmpS s t = 2 ∨ cmpS s t = 3 := by
  rw [cmpS]; split
  · exact Or.inl rfl
  · split
    · exact Or.inr (Or.inl rfl)
    · exact Or.inr (Or.inr rfl)
theorem cmpS_one {s t : T} : cmpS s t = 1 ↔ gt s t = true := by
  rw [cmpS]
  by_cases h : gt s t = true
  · rw [if_pos h]; simp [h]
  · rw [if_neg h]
    constructor
    · intro h'; split at h' <;> cases h'
    · intro h'; exact absurd h' h
theorem cmpS_three {s t : T} : cmpS s t ≠ 3 ↔ gt s t = true ∨ s = t := by
  rw [cmpS]
  by_cases h : gt s t = true
  · rw [if_pos h]; simp [h]
  · rw [if_neg h]
    by_cases h2 : sameT s t = true
    · rw [if_pos h2]; simp [sameT_iff.1 h2]
    · rw [if_neg h2]
      constructor
      · intro h'; exact absurd rfl h'
      · rintro (h' | h')
        · exact absurd h' h
        · exact absurd (sameT_iff.2 h') h2
theorem cmpS_two {ar : List Int} {s t : T} (hs : okP ar s) : cmpS s t = 2 ↔ s = t := by
  constructor
  · intro h
    rw [cmpS] at h
    split at h
    · cases h
    · split at h
      · rename_i h2; exact sameT_iff.1 h2
      · cases h
  · rintro rfl
    rw [cmpS, gt_irr hs, sameT_refl]; rfl
theorem cmpS_is3 {ar : List Int} {s t : T} (hs : okP ar s) (h : cmpS s t = 3) : s ≠ t ∧ gt s t = false := by
  refine ⟨fun e => ?_, ?_⟩
  · rw [(cmpS_two hs).2 e] at h; cases h
  · cases hgt : gt s t with
    | false => rfl
    | true => rw [cmpS_one.2 hgt] at h; cases h
theorem cmpS_no {s t : T} (h : s ≠ t) : cmpS s t = if gt s t then 1 else 3 := by
  rw [cmpS, if_neg (fun h' => h (sameT_iff.1 h'))]

theorem cmp_var {ar : List Int} {s t : T} (hs : okP ar s) (ht : okP ar t) (h0 : s.v ≠ 0) : cmpS s t = if s.v = t.v then 2 else 3 := by
  rw [cmpS, gt_ofvar h0]
  obtain ⟨f1, a1⟩ := ok_var hs h0
  by_cases h : s.v = t.v
  · obtain ⟨f2, a2⟩ := ok_var ht (by rw [← h]; exact h0)
    have e : s = t := by
      obtain ⟨v, f, a⟩ := s
      obtain ⟨v', f', a'⟩ := t
      simp only at f1 a1 f2 a2 h
      rw [f1, a1, f2, a2, h]
    rw [if_pos h, e, sameT_refl]; rfl
  · rw [if_neg h]
    have : sameT s t = false := sameT_ne.2 (fun e => h (by rw [e]))
    rw [this]; rfl
/-- Where only an argument can be it. -/
theorem cmp_byArg {ar : List Int} {s t : T} (hs : okP ar s) (ht : okP ar t) (h0 : s.v = 0) (h : t.v ≠ 0 ∨ s.f < t.f) : cmpS s t = if s.args.any (fun a => cmpS a t != 3) then 1 else 3 := by
  have hne : s ≠ t := fun e => by
    rcases h with h | h
    · rw [← e] at h; exact h h0
    · rw [e] at h; exact Int.lt_irrefl _ h
  have hiff : gt s t = s.args.any (fun a => cmpS a t != 3) := by
    rw [Bool.eq_iff_iff, gt_iff hs ht, List.any_eq_true]
    constructor
    · rintro (⟨_, a, ha, h1⟩ | ⟨_, h1, h2, _⟩)
      · exact ⟨a, ha, by simpa using cmpS_three.2 h1⟩
      · rcases h with h | h
        · exact absurd h1 h
        · omega
    · rintro ⟨a, ha, h1⟩
      exact Or.inl ⟨h0, a, ha, cmpS_three.1 (by simpa using h1)⟩
  rw [cmpS_no hne, hiff]
/-- Where it is enough that it is greater than each argument. -/
theorem cmp_above {ar : List Int} {s t : T} (hs : okP ar s) (ht : okP ar t) (h0 : s.v = 0) (h1 : t.v = 0) (h : t.f < s.f) : cmpS s t = if t.args.any (fun c => cmpS s c != 1) then 3 else 1 := by
  have hne : s ≠ t := fun e => by rw [e] at h; exact Int.lt_irrefl _ h
  have hiff : gt s t = !t.args.any (fun c => cmpS s c != 1) := by
    rw [Bool.eq_iff_iff, Bool.not_eq_true', List.any_eq_false]
    constructor
    · intro hg c hc
      have h2 := gt_trans hs ht (okArg ht hc) hg (gt_arg ht hc)
      simp [cmpS_one.2 h2]
    · intro hall
      refine (gt_iff hs ht).2 (Or.inr ⟨h0, h1, by omega, fun c hc => ?_, Or.inl h⟩)
      have := hall c hc
      exact cmpS_one.1 (by simpa using this)
  rw [cmpS_no hne, hiff]
  cases t.args.any (fun c => cmpS s c != 1) <;> rfl

theorem mem_drop {xs : List T} {k i : Nat} {a : T} (h : xs[i]? = some a) (hk : k ≤ i) : a ∈ xs.drop k := by
  refine List.mem_of_getElem? (i := i - k) ?_
  rw [List.getElem?_drop, show k + (i - k) = i by omega]; exact h
/-- Of one function: the first arguments that are not the same, and that of s is greater. -/
theorem cmp_more {ar : List Int} {s t a c : T} {k : Nat} (hs : okP ar s) (ht : okP ar t) (h0 : s.v = 0) (h1 : t.v = 0) (hf : s.f = t.f) (ha : s.args[k]? = some a) (hc : t.args[k]? = some c) (hpre : ∀ i, i < k → s.args[i]? = t.args[i]?) (hg : gt a c = true) :
    cmpS s t = if (t.args.drop (k + 1)).any (fun c => cmpS s c != 1) then 3 else 1 := by
  have hma := List.mem_of_getElem? ha
  have hmc := List.mem_of_getElem? hc
  have hac : a ≠ c := fun e => by rw [e, gt_irr (okArg ht hmc)] at hg; cases hg
  have hne : s ≠ t := fun e => by subst e; rw [ha] at hc; exact hac (Option.some.inj hc)
  have hiff : gt s t = !(t.args.drop (k + 1)).any (fun c => cmpS s c != 1) := by
    rw [Bool.eq_iff_iff, Bool.not_eq_true', List.any_eq_false]
    constructor
    · intro hg' x hx
      have hx' := List.mem_of_mem_drop hx
      have h2 := gt_trans hs ht (okArg ht hx') hg' (gt_arg ht hx')
      simp [cmpS_one.2 h2]
    · intro hall
      refine (gt_iff hs ht).2 (Or.inr ⟨h0, h1, by omega, fun x hx => ?_, Or.inr ⟨hf, firstN_iff.2 ⟨k, a, c, ha, hc, hac, hg, hpre⟩⟩⟩)
      obtain ⟨i, hi, e⟩ := List.getElem_of_mem hx
      have hxi : t.args[i]? = some x := by rw [List.getElem?_eq_getElem hi, e]
      rcases Nat.lt_or_ge i k with h | h
      · have h2 : s.args[i]? = some x := (hpre i h).trans hxi
        exact gt_arg hs (List.mem_of_getElem? h2)
      · rcases Nat.eq_or_lt_of_le h with h | h
        · subst h
          obtain rfl : c = x := by rw [hc] at hxi; exact Option.some.inj hxi
          exact gt_trans hs (okArg hs hma) (okArg ht hmc) (gt_arg hs hma) hg
        · have := hall x (mem_drop hxi h)
          exact cmpS_one.1 (by simpa using this)
  rw [cmpS_no hne, hiff]
  cases (t.args.drop (k + 1)).any (fun c => cmpS s c != 1) <;> rfl
/-- Of one function: the first arguments that are not the same, and that of s is not greater. -/
theorem cmp_less {ar : List Int} {s t a c : T} {k : Nat} (hs : okP ar s) (ht : okP ar t) (h0 : s.v = 0) (hf : s.f = t.f) (ha : s.args[k]? = some a) (hc : t.args[k]? = some c) (hpre : ∀ i, i < k → s.args[i]? = t.args[i]?) (hac : a ≠ c) (hg : gt a c = false) :
    cmpS s t = if (s.args.drop (k + 1)).any (fun a => cmpS a t != 3) then 1 else 3 := by
  have hma := List.mem_of_getElem? ha
  have hmc := List.mem_of_getElem? hc
  have hne : s ≠ t := fun e => by subst e; rw [ha] at hc; exact hac (Option.some.inj hc)
  have hiff : gt s t = (s.args.drop (k + 1)).any (fun a => cmpS a t != 3) := by
    rw [Bool.eq_iff_iff, List.any_eq_true]
    constructor
    · intro hg'
      rcases (gt_iff hs ht).1 hg' with ⟨_, x, hx, h1⟩ | ⟨_, _, _, _, h1⟩
      · obtain ⟨i, hi, e⟩ := List.getElem_of_mem hx
        have hxi : s.args[i]? = some x := by rw [List.getElem?_eq_getElem hi, e]
        rcases Nat.lt_or_ge i k with h | h
        · have h2 : x ∈ t.args := List.mem_of_getElem? ((hpre i h).symm.trans hxi)
          have h3 := gt_arg ht h2
          rcases h1 with h1 | h1
          · rw [gt_asym ht (okArg ht h2) h3] at h1; cases h1
          · rw [h1, gt_irr ht] at h3; cases h3
        · rcases Nat.eq_or_lt_of_le h with h | h
          · subst h
            obtain rfl : a = x := by rw [ha] at hxi; exact Option.some.inj hxi
            have h3 : gt a c = true := by
              rcases h1 with h1 | h1
              · exact gt_trans (okArg hs hma) ht (okArg ht hmc) h1 (gt_arg ht hmc)
              · rw [h1]; exact gt_arg ht hmc
            rw [hg] at h3; cases h3
          · exact ⟨x, mem_drop hxi h, by simpa using cmpS_three.2 h1⟩
      · rcases h1 with h1 | ⟨_, h1⟩
        · omega
        · obtain ⟨j, x, y, hx, hy, hxy, hgxy, hall⟩ := firstN_iff.1 h1
          rcases Nat.lt_trichotomy j k with h | h | h
          · have := (hpre j h).symm.trans hx
            rw [hy] at this
            exact absurd (Option.some.inj this).symm hxy
          · subst h
            rw [ha] at hx; rw [hc] at hy
            obtain rfl := Option.some.inj hx
            obtain rfl := Option.some.inj hy
            rw [hg] at hgxy; cases hgxy
          · have := hall k h
            rw [ha, hc] at this
            exact absurd (Option.some.inj this) hac
    · rintro ⟨x, hx, h1⟩
      exact (gt_iff hs ht).2 (Or.inl ⟨h0, x, List.mem_of_mem_drop hx, cmpS_three.1 (by simpa using h1)⟩)
  rw [cmpS_no hne, hiff]
/-- Of one function, and all arguments the same. -/
theorem cmp_same {ar : List Int} {s t : T} (hs : okP ar s) (h0 : s.v = 0) (h1 : t.v = 0) (hf : s.f = t.f) (hall : s.args = t.args) : cmpS s t = 2 := by
  rw [cmpS_two hs]
  obtain ⟨v, f, a⟩ := s
  obtain ⟨v', f', a'⟩ := t
  simp only at h0 h1 hf hall
  rw [h0, h1, hf, hall]

end Go.Proofs.YtbkedppkdhfpoabGreat

namespace Go.Proofs.YtbkedppkdhfpoabGreat
open Go.RowKit

/-- A table: its block, how many rows, how long; the parts that its numbers mean; the signature. -/
structure TB where
  K : Nat
  R : Nat
  C : Nat
  PS : List T
  PT : List T
  ar : List Int
structure TB.Ok (b : TB) : Prop where
  hR : b.R = b.PS.length
  hC : b.C = b.PT.length
  r1 : b.R ≤ 1000
  c1 : b.C ≤ 1000
def TB.q (b : TB) : Nat → Prop := fun k => k ≠ b.K
structure Tab (b : TB) (w : World) (M : Nat → Nat → Int) : Prop where
  ent : ∀ i j, i < b.R → j < b.C → w.cell? ⟨b.K, i * b.C + j, none⟩ = some (.int .i8 (M i j))
  fr : ∀ k, w.frozen? ⟨b.K, k, none⟩ = false
  lt : b.K < w.heap.size

theorem idx_inj {C i j i' j' : Nat} (hj : j < C) (hj' : j' < C) (h : i * C + j = i' * C + j') : i = i' ∧ j = j' := by
  have hC : 0 < C := by omega
  have e1 : (i * C + j) / C = i := by rw [Nat.mul_comm, Nat.mul_add_div hC, Nat.div_eq_of_lt hj]; omega
  have e2 : (i' * C + j') / C = i' := by rw [Nat.mul_comm, Nat.mul_add_div hC, Nat.div_eq_of_lt hj']; omega
  have e3 : i = i' := by rw [← e1, h, e2]
  subst e3
  exact ⟨rfl, by omega⟩
theorem idx_lt {R C i j : Nat} (hi : i < R) (hj : j < C) : i * C + j < R * C := by
  have h : (i + 1) * C ≤ R * C := Nat.mul_le_mul_right C hi
  rw [Nat.add_mul] at h
  omega

theorem Tab.same {b : TB} {w w' : World} {M : Nat → Nat → Int} (h : Tab b w M) (hz : w.heap.size ≤ w'.heap.size) (hK : w'.heap[b.K]? = w.heap[b.K]?) : Tab b w' M :=
  ⟨fun i j hi hj => by rw [World.cell?_of_block (w := w) (a := ⟨b.K, i * b.C + j, none⟩) hK]; exact h.ent i j hi hj,
   fun k => by rw [World.frozen?_of_block (w := w) (a := ⟨b.K, k, none⟩) hK]; exact h.fr k, Nat.lt_of_lt_of_le h.lt hz⟩
theorem Tab.below {b : TB} {w w' : World} {M : Nat → Nat → Int} (h : Tab b w M) (hb : Below w.heap.size w w') : Tab b w' M := h.same hb.size (hb.block _ h.lt)
/-- An entry written. -/
theorem Tab.set {b : TB} {w : World} {M : Nat → Nat → Int} (h : Tab b w M) {i j : Nat} (hi : i < b.R) (hj : j < b.C) (x : Int) : Tab b (w.setCell ⟨b.K, i * b.C + j, none⟩ (.int .i8 x)) (fun i' j' => if i' = i ∧ j' = j then x else M i' j') := by
  have hs : (w.setCell ⟨b.K, i * b.C + j, none⟩ (.int .i8 x)).heap.size = w.heap.size := by simp [World.setCell]
  refine ⟨fun i' j' hi' hj' => ?_, fun k => ?_, by rw [hs]; exact h.lt⟩
  · by_cases e : i' = i ∧ j' = j
    · obtain ⟨rfl, rfl⟩ := e
      rw [World.cell?_setCell_same _ _ _ (h.ent i' j' hi hj), if_pos ⟨rfl, rfl⟩]
    · rw [World.cell?_setCell_other _ _ _ _ (fun e3 => e (by
        have h4 : i * b.C + j = i' * b.C + j' := by injection e3
        have := idx_inj hj hj' h4
        exact ⟨this.1.symm, this.2.symm⟩)), if_neg e]
      exact h.ent _ _ hi' hj'
  · rw [World.frozen?_setCell]; exact h.fr k

/-- Nothing but the table has changed, and what is new. -/
structure KT (b : TB) (w w' : World) : Prop where
  os : w'.os = w.os
  tape : w'.tape = w.tape
  output : w'.output = w.output
  size : w.heap.size ≤ w'.heap.size
  block : ∀ k, k < w.heap.size → k ≠ b.K → w'.heap[k]? = w.heap[k]?
theorem KT.refl (b : TB) (w : World) : KT b w w := ⟨rfl, rfl, rfl, Nat.le_refl _, fun _ _ _ => rfl⟩
theorem KT.trans {b : TB} {w w' w'' : World} (h : KT b w w') (k : KT b w' w'') : KT b w w'' :=
  ⟨k.os.trans h.os, k.tape.trans h.tape, k.output.trans h.output, Nat.le_trans h.size k.size, fun x hx hr => by rw [k.block x (Nat.lt_of_lt_of_le hx h.size) hr, h.block x hx hr]⟩
theorem KT.of_below {b : TB} {w w' : World} (h : Below w.heap.size w w') : KT b w w' := ⟨h.os, h.tape, h.output, h.size, fun k hk _ => h.block k hk⟩
theorem KT.set {b : TB} {w w' : World} (h : KT b w w') (j : Nat) (v : Value) : KT b w (w'.setCell ⟨b.K, j, none⟩ v) :=
  h.trans ⟨rfl, rfl, rfl, by simp [World.setCell], fun k _ hk => Below.heap_setCell _ _ _ _ hk⟩
theorem InP_kt {b : TB} {w w' : World} {ts : List T} {a : Option Addr} (h : KT b w w') (hi : InP b.q w ts a) : InP b.q w' ts a := InP_same (fun k hk hlt => h.block k hlt hk) hi
theorem PL_kt {b : TB} {w w' : World} {ts : List T} {n : Nat} {a : Option Addr} (h : KT b w w') (hi : PL b.q b.q w ts n a) : PL b.q b.q w' ts n a := PL_same (fun k hk hlt => h.block k hlt (hk.elim id id)) hi

/-- As far as size n, each entry is unasked or right. -/
def Corr (b : TB) (M : Nat → Nat → Int) (n : Nat) : Prop := ∀ i j s t, b.PS[i]? = some s → b.PT[j]? = some t → s.sz + t.sz ≤ n → M i j = 0 ∨ M i j = cmpS s t
/-- What is right as far as n stays so, and beyond it nothing changes. -/
def Step (b : TB) (n : Nat) (w w' : World) : Prop := ∀ M, Tab b w M → Corr b M n → ∃ M', Tab b w' M' ∧ Corr b M' n ∧ ∀ i j s t, b.PS[i]? = some s → b.PT[j]? = some t → n < s.sz + t.sz → M' i j = M i j
theorem Corr.mono {b : TB} {M : Nat → Nat → Int} {m n : Nat} (h : Corr b M n) (hm : m ≤ n) : Corr b M m := fun i j s t hi hj hs => h i j s t hi hj (Nat.le_trans hs hm)
theorem Step.refl (b : TB) (n : Nat) (w : World) : Step b n w w := fun M h1 h2 => ⟨M, h1, h2, fun _ _ _ _ _ _ _ => rfl⟩
theorem Step.trans {b : TB} {n : Nat} {w w' w'' : World} (h : Step b n w w') (k : Step b n w' w'') : Step b n w w'' := fun M h1 h2 => by
  obtain ⟨M', g1, g2, g3⟩ := h M h1 h2
  obtain ⟨M'', k1, k2, k3⟩ := k M' g1 g2
  exact ⟨M'', k1, k2, fun i j s t hi hj hs => (k3 i j s t hi hj hs).trans (g3 i j s t hi hj hs)⟩
theorem Step.mono {b : TB} {m n : Nat} {w w' : World} (h : Step b m w w') (hm : m ≤ n) : Step b n w w' := fun M h1 h2 => by
  obtain ⟨M', g1, g2, g3⟩ := h M h1 (h2.mono hm)
  refine ⟨M', g1, fun i j s t hi hj hs => ?_, fun i j s t hi hj hs => g3 i j s t hi hj (by omega)⟩
  rcases Nat.lt_or_ge m (s.sz + t.sz) with h3 | h3
  · rw [g3 i j s t hi hj h3]; exact h2 i j s t hi hj hs
  · exact g2 i j s t hi hj h3
theorem Step.of_below {b : TB} {n : Nat} {w w' : World} (h : Below w.heap.size w w') : Step b n w w' := fun M h1 h2 => ⟨M, h1.below h, h2, fun _ _ _ _ _ _ _ => rfl⟩

/-- The table is there, and right as far as n. -/
def TabOK (b : TB) (n : Nat) (w : World) : Prop := ∃ M, Tab b w M ∧ Corr b M n
/-- Both: what has changed, and that the table is right. -/
structure GS (b : TB) (n : Nat) (w w' : World) : Prop where
  kt : KT b w w'
  st : Step b n w w'
theorem GS.refl (b : TB) (n : Nat) (w : World) : GS b n w w := ⟨KT.refl _ _, Step.refl _ _ _⟩
theorem GS.trans {b : TB} {n : Nat} {w w' w'' : World} (h : GS b n w w') (k : GS b n w' w'') : GS b n w w'' := ⟨h.kt.trans k.kt, h.st.trans k.st⟩
theorem GS.of_below {b : TB} {n : Nat} {w w' : World} (h : Below w.heap.size w w') : GS b n w w' := ⟨KT.of_below h, Step.of_below h⟩
theorem GS.mono {b : TB} {m n : Nat} {w w' : World} (h : GS b m w w') (hm : m ≤ n) : GS b n w w' := ⟨h.kt, h.st.mono hm⟩
theorem TabOK.gs {b : TB} {n : Nat} {w w' : World} (h : TabOK b n w) (hg : GS b n w w') : TabOK b n w' := by
  obtain ⟨M, h1, h2⟩ := h
  obtain ⟨M', g1, g2, _⟩ := hg.st M h1 h2
  exact ⟨M', g1, g2⟩
theorem TabOK.mono {b : TB} {m n : Nat} {w : World} (h : TabOK b n w) (hm : m ≤ n) : TabOK b m w := by
  obtain ⟨M, h1, h2⟩ := h
  exact ⟨M, h1, h2.mono hm⟩

theorem any_step {f : T → Bool} {ts : List T} {k : Nat} {t : T} (ht : ts[k]? = some t) (h : (ts.take k).any f = false) : (f t = false → (ts.take (k + 1)).any f = false) ∧ (f t = true → ts.any f = true) := by
  constructor
  · intro h2
    rw [List.take_add_one, ht, List.any_append, h]
    simp [h2]
  · intro h2
    exact List.any_eq_true.2 ⟨t, List.mem_of_getElem? ht, h2⟩

set_option maxRecDepth 100000 in
set_option maxHeartbeats 400000 in
theorem partIdx_any (b : TB) (n : Nat) (L : List T) (Kf : Nat) (caps : Array Value) (f : T → Bool) (Inv : World → Prop) (eg : ∀ args w, (callFunc Kf args).run Tryz.prog w = .ok (.enter Kf args) w) (hinv : ∀ w w', GS b n w w' → Inv w → Inv w') (ts : List T)
    (hc : ∀ w x m ta tc pa pc, Inv w → x ∈ ts → x.args.length ≤ pc → L[m]? = some x → Subs L (m + 1) x.args → InP b.q w x.args ta → PL b.q b.q w x.args (m + 1) pa →
      Calls Tryz.prog Kf (#[.agg #[.int .i64 x.v, .int .i64 x.f, .slice ta x.args.length tc, .int .i64 (m : Int), .slice pa x.args.length pc]] ++ caps) w fun e w' => e = .returned (.bool (f x)) ∧ GS b n w w')
    (m0 : Nat) (a : Option Addr) (cap : Nat) (w : World) (h1000 : ts.length ≤ 1000) (hin : PL b.q b.q w ts m0 a) (hsub : Subs L m0 ts) (hi : Inv w) :
    Calls Tryz.prog 319 #[.slice a ts.length cap, .func (.func Kf) #[] caps] w fun e w' => ∃ r : Int, e = .returned (.int .i64 r) ∧ decide (0 ≤ r) = ts.any f ∧ GS b n w w' := by
  have Hc := hide hc
  have Hinv := hide hinv
  clear hc hinv
  go_enter Tryz.func319, Tryz.ntmps319
  go_wp2_with fail
  go_loopw [8] (fun i wr => ∃ k : Nat, k ≤ ts.length ∧ i = .int .i64 k ∧ Hid ((ts.take k).any f = false) ∧ GS b n w wr) (fun i _ => ts.length - (intOf i).toNat)
  case atStart => exact ⟨0, Nat.zero_le _, rfl, rfl, GS.refl _ _ _⟩
  case round =>
    obtain ⟨k, hk, rfl, HL, hg⟩ := hrel
    by_cases hlt : k < ts.length
    · obtain ⟨b1, off, rfl⟩ := PL_some hin (by omega)
      obtain ⟨y, hy⟩ : ∃ y, ts[k]? = some y := ⟨ts[k], List.getElem?_eq_getElem hlt⟩
      obtain ⟨ta, tc, pa, pc, _, k0, k1, k2, k3, k4, hpcy, hiny, hply⟩ := PL_at (PL_kt hg.kt hin) hy
      obtain ⟨s1, s2, _⟩ := hsub.at hy
      obtain ⟨m, hm⟩ : ∃ m, m = m0 + T.sz.szL (ts.take k) := ⟨_, rfl⟩
      rw [← hm] at k3 hply s1 s2
      have Hst := hide (any_step hy HL.out)
      have hk3 : k ≤ 1000 := by omega
      have hkI : (k : Int) < ts.length := by omega
      have hk0 : (0 : Int) ≤ k := by omega
      have HC := hide (Hc.out wr y m ta tc pa pc (Hinv.out _ _ hg hi) (List.mem_of_getElem? hy) hpcy s1 s2 hiny hply)
      have Hg := hide hg
      clear hy hiny hply hg s1 s2 hm hpcy
      go_wp2_with fail
      refine HC.out.mono ?_
      rintro e w3 ⟨rfl, hg3⟩
      have Hg3 := hide (Hg.out.trans hg3)
      clear hg3
      rcases Bool.eq_false_or_eq_true (f y) with hxy | hxy
      · have Hfin2 := hide (Hst.out.2 hxy)
        rw [hxy]
        clear Hst hxy
        go_wp2_with fail
        go_ret
        exact ⟨k, rfl, by rw [Hfin2.out]; exact decide_eq_true (by omega), Hg3.out⟩
      · have Hgo := hide (Hst.out.1 hxy)
        rw [hxy]
        clear Hst hxy
        go_wp2_with fail
        go_roundw
        case rel => exact ⟨k + 1, by omega, by go_num, Hgo.out, Hg3.out⟩
        case measure => simp [intOf]; omega
    · have hk2 : k = ts.length := by omega
      subst hk2
      have Hfin2 : Hid (ts.any f = false) := by
        have h5 := HL.out
        rw [List.take_length] at h5
        exact h5
      go_wp2_with fail
      go_ret
      exact ⟨-1, rfl, by rw [Hfin2.out]; rfl, hg⟩

set_option maxRecDepth 100000 in
set_option maxHeartbeats 400000 in
theorem partHas_any (b : TB) (n : Nat) (L : List T) (Kf : Nat) (caps : Array Value) (f : T → Bool) (Inv : World → Prop) (eg : ∀ args w, (callFunc Kf args).run Tryz.prog w = .ok (.enter Kf args) w) (hinv : ∀ w w', GS b n w w' → Inv w → Inv w') (ts : List T)
    (hc : ∀ w x m ta tc pa pc, Inv w → x ∈ ts → x.args.length ≤ pc → L[m]? = some x → Subs L (m + 1) x.args → InP b.q w x.args ta → PL b.q b.q w x.args (m + 1) pa →
      Calls Tryz.prog Kf (#[.agg #[.int .i64 x.v, .int .i64 x.f, .slice ta x.args.length tc, .int .i64 (m : Int), .slice pa x.args.length pc]] ++ caps) w fun e w' => e = .returned (.bool (f x)) ∧ GS b n w w')
    (m0 : Nat) (a : Option Addr) (cap : Nat) (w : World) (h1000 : ts.length ≤ 1000) (hin : PL b.q b.q w ts m0 a) (hsub : Subs L m0 ts) (hi : Inv w) :
    Calls Tryz.prog 316 #[.slice a ts.length cap, .func (.func Kf) #[] caps] w fun e w' => e = .returned (.bool (ts.any f)) ∧ GS b n w w' := by
  have H := hide (partIdx_any b n L Kf caps f Inv eg hinv ts hc m0 a cap w h1000 hin hsub hi)
  clear hc hinv
  go_enter Tryz.func316, Tryz.ntmps316
  go_wp2_with fail
  refine H.out.mono ?_
  rintro e w1 ⟨r, rfl, hr, hb1⟩
  have Hr := hide hr
  have Hb := hide hb1
  clear hr hb1
  go_wp2_with fail
  go_ret
  exact ⟨ret_bool Hr.out, Hb.out⟩

end Go.Proofs.YtbkedppkdhfpoabGreat

namespace Go.Proofs.YtbkedppkdhfpoabGreat
open Go.RowKit

/-- A part: right, numbered, and all of it lies there. -/
structure PA (b : TB) (L : List T) (w : World) (s : T) (i : Nat) (sa spa : Option Addr) (spc : Nat) : Prop where
  ok : okP b.ar s
  num : L[i]? = some s
  sub : Subs L (i + 1) s.args
  inn : InP b.q w s.args sa
  pl : PL b.q b.q w s.args (i + 1) spa
  sz : s.sz ≤ 1000
  cap : s.args.length ≤ spc
theorem PA.kt {b : TB} {L : List T} {w w' : World} {s : T} {i : Nat} {sa spa : Option Addr} {spc : Nat} (h : PA b L w s i sa spa spc) (hk : KT b w w') : PA b L w' s i sa spa spc := ⟨h.ok, h.num, h.sub, InP_kt hk h.inn, PL_kt hk h.pl, h.sz, h.cap⟩
/-- A part as a value. -/
abbrev pv (s : T) (i : Nat) (sa : Option Addr) (sc : Nat) (spa : Option Addr) (spc : Nat) : Value := .agg #[.int .i64 s.v, .int .i64 s.f, .slice sa s.args.length sc, .int .i64 (i : Int), .slice spa s.args.length spc]
abbrev tv (b : TB) : Value := .agg #[.slice (some ⟨b.K, 0, none⟩) (b.R * b.C) (b.R * b.C), .int .i64 (b.C : Int)]

/-- What the table's 'is' is to answer, up to a size. -/
def IsUp (b : TB) (n : Nat) : Prop := ∀ (s : T) (i : Nat) (t : T) (j : Nat) (sa : Option Addr) (sc : Nat) (spa : Option Addr) (spc : Nat) (ta : Option Addr) (tc : Nat) (tpa : Option Addr) (tpc : Nat) (w : World), s.sz + t.sz ≤ n → PA b b.PS w s i sa spa spc → PA b b.PT w t j ta tpa tpc → TabOK b (s.sz + t.sz) w →
    Calls Tryz.prog 266 #[tv b, pv s i sa sc spa spc, pv t j ta tc tpa tpc] w fun e w' => e = .returned (.int .i8 (cmpS s t)) ∧ GS b (s.sz + t.sz) w w'

theorem TabOK.lt {b : TB} {n : Nat} {w : World} (h : TabOK b n w) : b.K < w.heap.size := by
  obtain ⟨M, h1, _⟩ := h
  exact h1.lt

/-- The table's box, and a part's. -/
structure Boxes (b : TB) (n x y : Nat) (L : List T) (t : T) (j : Nat) (ta : Option Addr) (tc : Nat) (tpa : Option Addr) (tpc : Nat) (w : World) : Prop where
  k0 : w.cell? ⟨x, 0, none⟩ = some (.slice (some ⟨b.K, 0, none⟩) (b.R * b.C) (b.R * b.C))
  k1 : w.cell? ⟨x, 1, none⟩ = some (.int .i64 (b.C : Int))
  t5 : Five w y 0 (.int .i64 t.v) (.int .i64 t.f) (.slice ta t.args.length tc) (.int .i64 (j : Int)) (.slice tpa t.args.length tpc)
  pat : PA b L w t j ta tpa tpc
  tab : TabOK b n w
  hx : x ≠ b.K
  hy : y ≠ b.K
theorem Boxes.gs {b : TB} {n x y : Nat} {L : List T} {t : T} {j : Nat} {ta : Option Addr} {tc : Nat} {tpa : Option Addr} {tpc : Nat} {w w' : World} (h : Boxes b n x y L t j ta tc tpa tpc w) (hg : GS b n w w') : Boxes b n x y L t j ta tc tpa tpc w' := by
  have hbx := hg.kt.block x (lt_of_cell h.k0) h.hx
  exact ⟨(World.cell?_of_block (w := w) (a := ⟨x, 0, none⟩) hbx).trans h.k0, (World.cell?_of_block (w := w) (a := ⟨x, 1, none⟩) hbx).trans h.k1, h.t5.same (hg.kt.block y h.t5.lt h.hy), h.pat.kt hg.kt, h.tab.gs hg, h.hx, h.hy⟩

set_option maxRecDepth 100000 in
set_option maxHeartbeats 1000000 in
theorem isC1_any (b : TB) (n : Nat) (hup : IsUp b n) (a : T) (m : Nat) (t : T) (j : Nat) (aa : Option Addr) (ac : Nat) (apa : Option Addr) (apc : Nat) (ta : Option Addr) (tc : Nat) (tpa : Option Addr) (tpc : Nat) (x y : Nat) (w : World) (hn : a.sz + t.sz ≤ n) (ha : PA b b.PS w a m aa apa apc) (hB : Boxes b n x y b.PT t j ta tc tpa tpc w) :
    Calls Tryz.prog 317 #[pv a m aa ac apa apc, .pointer (some ⟨x, 0, none⟩), .pointer (some ⟨y, 0, none⟩)] w fun e w' => e = .returned (.bool (cmpS a t != 3)) ∧ GS b n w w' := by
  obtain ⟨k0, k1, ⟨y0, y1, y2, y3, y4⟩, hpt, htab, _, _⟩ := hB
  have hxl := lt_of_cell k0
  have hyl := lt_of_cell y0
  have HG := hide (fun o1 => hup a m t j aa ac apa apc ta tc tpa tpc (w.alloc o1) hn (ha.kt (KT.of_below (below1 w o1))) (hpt.kt (KT.of_below (below1 w o1))) ((htab.mono hn).gs (GS.of_below (below1 w o1))))
  obtain ⟨z, hz⟩ : ∃ z, z = cmpS a t := ⟨_, rfl⟩
  rw [← hz] at HG ⊢
  clear hup hz htab hpt ha
  go_enter Tryz.func317, Tryz.ntmps317
  go_wp2_with fail
  refine (HG.out _).mono ?_
  rintro e w2 ⟨rfl, hg2⟩
  have Hg2 := hide ((GS.of_below (below1 w _)).trans (hg2.mono hn))
  clear hg2
  go_wp2_with fail
  go_ret
  exact ⟨rfl, Hg2.out⟩

set_option maxRecDepth 100000 in
set_option maxHeartbeats 1000000 in
theorem isC2_any (b : TB) (n : Nat) (hup : IsUp b n) (a : T) (m : Nat) (s : T) (i : Nat) (aa : Option Addr) (ac : Nat) (apa : Option Addr) (apc : Nat) (sa : Option Addr) (sc : Nat) (spa : Option Addr) (spc : Nat) (x y : Nat) (w : World) (hn : s.sz + a.sz ≤ n) (ha : PA b b.PT w a m aa apa apc) (hB : Boxes b n x y b.PS s i sa sc spa spc w) :
    Calls Tryz.prog 318 #[pv a m aa ac apa apc, .pointer (some ⟨x, 0, none⟩), .pointer (some ⟨y, 0, none⟩)] w fun e w' => e = .returned (.bool (cmpS s a != 1)) ∧ GS b n w w' := by
  obtain ⟨k0, k1, ⟨y0, y1, y2, y3, y4⟩, hps, htab, _, _⟩ := hB
  have hxl := lt_of_cell k0
  have hyl := lt_of_cell y0
  have HG := hide (fun o1 => hup s i a m sa sc spa spc aa ac apa apc (w.alloc o1) hn (hps.kt (KT.of_below (below1 w o1))) (ha.kt (KT.of_below (below1 w o1))) ((htab.mono hn).gs (GS.of_below (below1 w o1))))
  obtain ⟨z, hz⟩ : ∃ z, z = cmpS s a := ⟨_, rfl⟩
  rw [← hz] at HG ⊢
  clear hup hz htab hps ha
  go_enter Tryz.func318, Tryz.ntmps318
  go_wp2_with fail
  refine (HG.out _).mono ?_
  rintro e w2 ⟨rfl, hg2⟩
  have Hg2 := hide ((GS.of_below (below1 w _)).trans (hg2.mono hn))
  clear hg2
  go_wp2_with fail
  go_ret
  exact ⟨rfl, Hg2.out⟩

theorem eg317 (args : Array Value) (w : World) : (callFunc 317 args).run Tryz.prog w = .ok (.enter 317 args) w := by kernel_rfl
theorem eg318 (args : Array Value) (w : World) : (callFunc 318 args).run Tryz.prog w = .ok (.enter 318 args) w := by kernel_rfl

theorem Boxes.new {b : TB} {n : Nat} {L : List T} {t : T} {j : Nat} {ta : Option Addr} {tc : Nat} {tpa : Option Addr} {tpc : Nat} {w : World} (ht : PA b L w t j ta tpa tpc) (htab : TabOK b n w) :
    Boxes b n w.heap.size (w.heap.size + 1) L t j ta tc tpa tpc ((w.alloc (.cells #[.slice (some ⟨b.K, 0, none⟩) (b.R * b.C) (b.R * b.C), .int .i64 (b.C : Int)] 309)).alloc (.cells #[.int .i64 t.v, .int .i64 t.f, .slice ta t.args.length tc, .int .i64 (j : Int), .slice tpa t.args.length tpc] 304)) := by
  have s1 : ∀ o, (w.alloc o).heap.size = w.heap.size + 1 := fun o => World.size_alloc _ _
  have hl := htab.lt
  have hb := fun o1 o2 => below2 w o1 o2
  refine ⟨?_, ?_, ?_, ht.kt (KT.of_below (hb _ _)), htab.gs (GS.of_below (hb _ _)), by omega, by omega⟩
  · rw [cell_alloc_lt (by rw [s1]; omega), cell_new 0 rfl]; rfl
  · rw [cell_alloc_lt (by rw [s1]; omega), cell_new 1 rfl]; rfl
  · refine Five.of_heap (e := 304) (fr := (0, 0)) ?_
    have h9 := heap_alloc_new (w.alloc (.cells #[.slice (some ⟨b.K, 0, none⟩) (b.R * b.C) (b.R * b.C), .int .i64 (b.C : Int)] 309)) (.cells #[.int .i64 t.v, .int .i64 t.f, .slice ta t.args.length tc, .int .i64 (j : Int), .slice tpa t.args.length tpc] 304)
    rw [s1] at h9
    exact h9

set_option maxRecDepth 100000 in
set_option maxHeartbeats 1000000 in
theorem byArg_any (b : TB) (n : Nat) (hup : IsUp b n) (ts : List T) (m0 : Nat) (pa : Option Addr) (pc : Nat) (t : T) (j : Nat) (ta : Option Addr) (tc : Nat) (tpa : Option Addr) (tpc : Nat) (w : World) (hts : ∀ x, x ∈ ts → okP b.ar x ∧ x.sz + t.sz ≤ n ∧ x.sz ≤ 1000) (hl : ts.length ≤ 1000) (hpl : PL b.q b.q w ts m0 pa) (hsub : Subs b.PS m0 ts) (ht : PA b b.PT w t j ta tpa tpc) (htab : TabOK b n w) :
    Calls Tryz.prog 310 #[tv b, .slice pa ts.length pc, pv t j ta tc tpa tpc] w fun e w' => e = .returned (.int .i8 (if ts.any (fun a => cmpS a t != 3) then 1 else 3)) ∧ GS b n w w' := by
  have hmf : ∀ (fn : Fn) (first cap : Array Value) (w : World), (Instr.makeFunc fn first cap).run Tryz.prog w = .ok (.func fn first cap) w := fun _ _ _ _ => rfl
  have hB := Boxes.new (tc := tc) ht htab
  obtain ⟨W2, hW2⟩ : ∃ W2, W2 = (w.alloc (.cells #[.slice (some ⟨b.K, 0, none⟩) (b.R * b.C) (b.R * b.C), .int .i64 (b.C : Int)] 309)).alloc (.cells #[.int .i64 t.v, .int .i64 t.f, .slice ta t.args.length tc, .int .i64 (j : Int), .slice tpa t.args.length tpc] 304) := ⟨_, rfl⟩
  have hb2 : Below w.heap.size w W2 := by rw [hW2]; exact below2 _ _ _
  rw [← hW2] at hB
  have HC := hide (partHas_any b n b.PS 317 #[.pointer (some ⟨w.heap.size, 0, none⟩), .pointer (some ⟨w.heap.size + 1, 0, none⟩)] (fun a => cmpS a t != 3) (Boxes b n w.heap.size (w.heap.size + 1) b.PT t j ta tc tpa tpc) eg317 (fun _ _ hg h => h.gs hg) ts
    (fun w' x m xa xc xpa xpc hI hx hcx hnum hsub hin hpl => isC1_any b n hup x m t j xa xc xpa xpc ta tc tpa tpc w.heap.size (w.heap.size + 1) w' (hts x hx).2.1 ⟨(hts x hx).1, hnum, hsub, hin, hpl, (hts x hx).2.2, hcx⟩ hI)
    m0 pa pc W2 hl (PL_below hb2 hpl) hsub hB)
  have HW2 := hide hW2
  have Hb2 := hide hb2
  clear hup hB hW2 hb2 hts hpl hsub ht htab
  obtain ⟨Z, hZ⟩ : ∃ Z : Int, Z = if ts.any (fun a => cmpS a t != 3) then 1 else 3 := ⟨_, rfl⟩
  rw [← hZ]
  have HZ := hide hZ
  clear hZ
  go_enter Tryz.func310, Tryz.ntmps310
  go_wp2_with fail
  rw [← HW2.out]
  refine HC.out.mono ?_
  rintro e w4 ⟨rfl, hg4⟩
  have H4 := hide ((GS.of_below Hb2.out).trans hg4)
  clear hg4 HC
  cases hany : ts.any (fun a => cmpS a t != 3) with
  | true =>
    obtain rfl : Z = 1 := by rw [HZ.out, hany]; rfl
    clear HZ hany
    go_wp2_with fail
    go_ret
    exact ⟨rfl, H4.out⟩
  | false =>
    obtain rfl : Z = 3 := by rw [HZ.out, hany]; rfl
    clear HZ hany
    go_wp2_with fail
    go_ret
    exact ⟨rfl, H4.out⟩

set_option maxRecDepth 100000 in
set_option maxHeartbeats 1000000 in
theorem above_any (b : TB) (n : Nat) (hup : IsUp b n) (s : T) (i : Nat) (sa : Option Addr) (sc : Nat) (spa : Option Addr) (spc : Nat) (ts : List T) (m0 : Nat) (pa : Option Addr) (pc : Nat) (w : World) (hts : ∀ x, x ∈ ts → okP b.ar x ∧ s.sz + x.sz ≤ n ∧ x.sz ≤ 1000) (hl : ts.length ≤ 1000) (hpl : PL b.q b.q w ts m0 pa) (hsub : Subs b.PT m0 ts) (hs : PA b b.PS w s i sa spa spc) (htab : TabOK b n w) :
    Calls Tryz.prog 311 #[tv b, pv s i sa sc spa spc, .slice pa ts.length pc] w fun e w' => e = .returned (.int .i8 (if ts.any (fun c => cmpS s c != 1) then 3 else 1)) ∧ GS b n w w' := by
  have hmf : ∀ (fn : Fn) (first cap : Array Value) (w : World), (Instr.makeFunc fn first cap).run Tryz.prog w = .ok (.func fn first cap) w := fun _ _ _ _ => rfl
  have hB := Boxes.new (tc := sc) hs htab
  obtain ⟨W2, hW2⟩ : ∃ W2, W2 = (w.alloc (.cells #[.slice (some ⟨b.K, 0, none⟩) (b.R * b.C) (b.R * b.C), .int .i64 (b.C : Int)] 309)).alloc (.cells #[.int .i64 s.v, .int .i64 s.f, .slice sa s.args.length sc, .int .i64 (i : Int), .slice spa s.args.length spc] 304) := ⟨_, rfl⟩
  have hb2 : Below w.heap.size w W2 := by rw [hW2]; exact below2 _ _ _
  rw [← hW2] at hB
  have HC := hide (partHas_any b n b.PT 318 #[.pointer (some ⟨w.heap.size, 0, none⟩), .pointer (some ⟨w.heap.size + 1, 0, none⟩)] (fun c => cmpS s c != 1) (Boxes b n w.heap.size (w.heap.size + 1) b.PS s i sa sc spa spc) eg318 (fun _ _ hg h => h.gs hg) ts
    (fun w' x m xa xc xpa xpc hI hx hcx hnum hsub hin hpl => isC2_any b n hup x m s i xa xc xpa xpc sa sc spa spc w.heap.size (w.heap.size + 1) w' (hts x hx).2.1 ⟨(hts x hx).1, hnum, hsub, hin, hpl, (hts x hx).2.2, hcx⟩ hI)
    m0 pa pc W2 hl (PL_below hb2 hpl) hsub hB)
  have HW2 := hide hW2
  have Hb2 := hide hb2
  clear hup hB hW2 hb2 hts hpl hsub hs htab
  obtain ⟨Z, hZ⟩ : ∃ Z : Int, Z = if ts.any (fun c => cmpS s c != 1) then 3 else 1 := ⟨_, rfl⟩
  rw [← hZ]
  have HZ := hide hZ
  clear hZ
  go_enter Tryz.func311, Tryz.ntmps311
  go_wp2_with fail
  rw [← HW2.out]
  refine HC.out.mono ?_
  rintro e w4 ⟨rfl, hg4⟩
  have H4 := hide ((GS.of_below Hb2.out).trans hg4)
  clear hg4 HC
  cases hany : ts.any (fun c => cmpS s c != 1) with
  | true =>
    obtain rfl : Z = 3 := by rw [HZ.out, hany]; rfl
    clear HZ hany
    go_wp2_with fail
    go_ret
    exact ⟨rfl, H4.out⟩
  | false =>
    obtain rfl : Z = 1 := by rw [HZ.out, hany]; rfl
    clear HZ hany
    go_wp2_with fail
    go_ret
    exact ⟨rfl, H4.out⟩

/-- Where an argument's part lies. -/
theorem PA.arg {b : TB} {L : List T} {w : World} {s a : T} {i k : Nat} {sa spa : Option Addr} {spc : Nat} (h : PA b L w s i sa spa spc) (hk : s.args[k]? = some a) : a.sz < s.sz ∧ ∃ bb off, spa = some ⟨bb, off, none⟩ ∧ b.q bb ∧
    ∃ m aa ac apa apc, Five w bb (off + k * 5) (.int .i64 a.v) (.int .i64 a.f) (.slice aa a.args.length ac) (.int .i64 ((m : Nat) : Int)) (.slice apa a.args.length apc) ∧ PA b L w a m aa apa apc := by
  have hlt : k < s.args.length := by
    rcases Nat.lt_or_ge k s.args.length with h | h
    · exact h
    · rw [List.getElem?_eq_none h] at hk; cases hk
  obtain ⟨bb, off, rfl⟩ := PL_some h.pl (by omega)
  obtain ⟨ta, tc, pa, pc, hq, k0, k1, k2, k3, k4, hc, hi, hp⟩ := PL_at h.pl hk
  obtain ⟨s1, s2, _⟩ := h.sub.at hk
  have hm := List.mem_of_getElem? hk
  have hsz := arg_sz hm
  have := h.sz
  exact ⟨hsz, bb, off, rfl, hq, _, ta, tc, pa, pc, ⟨k0, k1, k2, k3, k4⟩, ⟨okL_mem.1 (okP_iff.1 h.ok).2 a hm, s1, s2, hi, hp, by omega, hc⟩⟩
theorem preL_append : ∀ a b : List T, pre.preL (a ++ b) = pre.preL a ++ pre.preL b := by
  intro a b
  induction a with
  | nil => rfl
  | cons x xs ih => rw [List.cons_append, preL_cons, preL_cons, ih, List.append_assoc]
theorem Subs.drop {L : List T} {n : Nat} {ts : List T} (h : Subs L n ts) (k : Nat) : Subs L (n + T.sz.szL (ts.take k)) (ts.drop k) := by
  obtain ⟨rest, hr⟩ := h
  refine ⟨rest, ?_⟩
  have hl := (pre_length _).2 (ts.take k) (Nat.le_refl _)
  have e : pre.preL ts = pre.preL (ts.take k) ++ pre.preL (ts.drop k) := by rw [← preL_append, List.take_append_drop]
  rw [← List.drop_drop, hr, e, List.append_assoc, ← hl, List.drop_left]

end Go.Proofs.YtbkedppkdhfpoabGreat
