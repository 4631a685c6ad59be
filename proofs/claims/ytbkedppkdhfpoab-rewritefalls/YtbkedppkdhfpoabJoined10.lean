/- Steps and what no rule matches any more, as plain data: the first place by the program is the first of all places by the document; what comes is right. No word of the program's memory here. The program's Put, once more: what it answers is new memory. The program's step: what it answers. The program's Step and Normal: what they answer. Each step makes a lesser term, and what is normal stays as it is: as plain data. No word of the program's memory here. -/
import Derived.Deep.DeepCutAuto
import Derived.Deep.DrawnRows
import Derived.Deep.RegionHeld3
import Derived.Test.YtbkedppkdhfpoabJoined9
namespace Go.Proofs.Ytbkedppkdhfpoab

/-- What is bound by matching is a part of the term, or was bound ahead. -/
theorem grow_in {P : T → Prop} (hP : ∀ t, P t → ∀ c, c ∈ t.args → P c) : ∀ (n : Nat), (∀ (p t : T) (bs b2 : List (Int × T)), p.sz ≤ n → P t → growT p t bs = some b2 → (∀ x, x ∈ bs → P x.2) → ∀ x, x ∈ b2 → P x.2) ∧
    (∀ (ps ts : List T) (bs b2 : List (Int × T)), T.sz.szL ps ≤ n → (∀ c, c ∈ ts → P c) → growT.growL ps ts bs = some b2 → (∀ x, x ∈ bs → P x.2) → ∀ x, x ∈ b2 → P x.2) := by
  intro n
  induction n with
  | zero =>
    refine ⟨fun p t bs b2 h => by have := p.sz_pos; omega, fun ps ts bs b2 h _ hg hk => ?_⟩
    cases ps with
    | nil =>
      cases ts with
      | nil => simp [growT.growL] at hg; rw [← hg]; exact hk
      | cons t ts => cases hg
    | cons p ps => have := p.sz_pos; rw [T.szL_cons] at h; omega
  | succ n ih =>
    have h1 : ∀ (p t : T) (bs b2 : List (Int × T)), p.sz ≤ n + 1 → P t → growT p t bs = some b2 → (∀ x, x ∈ bs → P x.2) → ∀ x, x ∈ b2 → P x.2 := by
      intro p t bs b2 h ht hg hk
      have hpe := T.sz_eq p
      rw [growT_eq] at hg
      by_cases hv : p.v ≠ 0
      · rw [if_pos hv] at hg
        cases hl : lookB bs p.v with
        | some u =>
          rw [hl] at hg
          by_cases hs : sameT u t = true
          · simp only [hs, if_true, Option.some.injEq] at hg
            rw [← hg]; exact hk
          · simp only [hs] at hg; cases hg
        | none =>
          rw [hl] at hg
          simp only [Option.some.injEq] at hg
          rw [← hg]
          intro x hx
          rcases List.mem_append.1 hx with hx | hx
          · exact hk x hx
          · rw [List.mem_singleton] at hx; rw [hx]; exact ht
      · rw [if_neg hv] at hg
        by_cases h2 : t.v ≠ 0 ∨ p.f ≠ t.f
        · rw [if_pos h2] at hg; cases hg
        · rw [if_neg h2] at hg
          exact ih.2 p.args t.args bs b2 (by omega) (hP t ht) hg hk
    refine ⟨h1, ?_⟩
    intro ps
    induction ps with
    | nil =>
      intro ts bs b2 _ _ hg hk
      cases ts with
      | nil => simp [growT.growL] at hg; rw [← hg]; exact hk
      | cons t ts => cases hg
    | cons p ps ihp =>
      intro ts bs b2 h hts hg hk
      rw [T.szL_cons] at h
      cases ts with
      | nil => cases hg
      | cons t ts =>
        rw [growL_cons] at hg
        cases hb : growT p t bs with
        | none => rw [hb] at hg; cases hg
        | some b1 =>
          rw [hb] at hg
          have hk1 := h1 p t bs b1 (by omega) (hts t (by simp)) hb hk
          exact ihp ts b1 b2 (by omega) (fun c hc => hts c (by simp [hc])) hg hk1

theorem lookB_pairs {f : Int → T} (ks : List Int) (v : Int) : lookB (ks.map (fun k => (k, f k))) v = if v ∈ ks then some (f v) else none := by
  induction ks with
  | nil => simp [lookB]
  | cons k ks ih =>
    rw [List.map_cons, lookB, ih]
    by_cases h : k = v
    · subst h; simp
    · rw [if_neg h]
      have : (v ∈ k :: ks) ↔ v ∈ ks := by
        rw [List.mem_cons]
        exact ⟨fun e => e.resolve_left (fun e => h e.symm), Or.inr⟩
      simp only [this]
theorem lookB_sortB (bs : List (Int × T)) (v : Int) : lookB (sortB bs) v = lookB bs v := by
  rw [sortB, lookB_pairs, keysB]
  simp only [List.mem_mergeSort]
  cases h : lookB bs v with
  | none =>
    rw [if_neg]
    intro e
    rw [lookB_isSome, h] at e
    cases e
  | some u =>
    rw [if_pos (lookB_isSome.2 (by rw [h]; rfl))]; rfl
theorem putIn_sortB (bs : List (Int × T)) (v : Int) : putIn (sortB bs) v = putIn bs v := by rw [putIn, putIn, lookB_sortB]
theorem applyT_sortB_aux (bs : List (Int × T)) : ∀ (n : Nat) (t : T), t.sz ≤ n → applyT (sortB bs) t = applyT bs t := by
  intro n
  induction n with
  | zero => intro t h; have := t.sz_pos; omega
  | succ n ih =>
    intro t h
    have hte := T.sz_eq t
    cases hp : putIn bs t.v with
    | some u => rw [applyT_some hp, applyT_some ((putIn_sortB bs t.v).trans hp)]
    | none =>
      rw [applyT_none hp, applyT_none ((putIn_sortB bs t.v).trans hp)]
      have : t.args.map (applyT (sortB bs)) = t.args.map (applyT bs) := List.map_congr_left (fun c hc => ih c (by have := T.szL_mem hc; omega))
      rw [this]
theorem applyT_sortB (bs : List (Int × T)) (t : T) : applyT (sortB bs) t = applyT bs t := applyT_sortB_aux bs _ t (Nat.le_refl _)

theorem bindErr_of {ar : List Int} : ∀ {bs : List (Int × T)} {last : Int}, bs.Pairwise (fun x y => x.1 < y.1) → (∀ x, x ∈ bs → 1 ≤ x.1 ∧ x.1 ≤ 1000 ∧ last < x.1 ∧ termErr ar x.2 = 0) → bindErr ar last bs = 0 := by
  intro bs
  induction bs with
  | nil => intro last _ _; rfl
  | cons x bs ih =>
    intro last hp h
    have hx := h x (by simp)
    rw [bindErr, if_neg (by omega), if_neg (by omega), if_pos hx.2.2.2]
    rw [List.pairwise_cons] at hp
    refine ih hp.2 (fun y hy => ?_)
    have hy2 := h y (by simp [hy])
    exact ⟨hy2.1, hy2.2.1, hp.1 y hy, hy2.2.2.2⟩
theorem sortB_rise {bs : List (Int × T)} (h : Once bs) : (sortB bs).Pairwise (fun x y => x.1 < y.1) := by
  have h1 : (keysB bs).Pairwise (fun x y => x ≤ y) := by
    have h2 := List.pairwise_mergeSort (le := fun x y : Int => decide (x ≤ y)) (fun a b c h1 h2 => by simp at *; omega) (fun a b => by simp; omega) (bs.map (·.1))
    exact List.Pairwise.imp (fun h => by simpa using h) h2
  have h3 : (keysB bs).Nodup := by rw [keysB]; exact (List.mergeSort_perm _ _).nodup_iff.2 (once_nodup h)
  have h4 : (keysB bs).Pairwise (fun x y => x < y) := (h1.and h3).imp (fun h => by have := h.1; have := h.2; omega)
  rw [sortB, List.pairwise_map]
  exact h4
theorem sortB_mem {bs : List (Int × T)} {x : Int × T} (h : x ∈ sortB bs) : x ∈ bs := by
  rw [sortB, List.mem_map] at h
  obtain ⟨v, hv, rfl⟩ := h
  rw [keysB, List.mem_mergeSort] at hv
  obtain ⟨u, hu⟩ := Option.isSome_iff_exists.1 (lookB_isSome.1 hv)
  rw [hu]
  exact lookB_mem hu
/-- What is bound by matching a term that is right by a pattern that is. -/
theorem grow_binds {ar : List Int} {p t : T} {bs : List (Int × T)} (hp : okP ar p) (ht : t.sz ≤ 120 ∧ okP ar t) (h : growT p t [] = some bs) : (∀ x, x ∈ bs → x.2.sz ≤ 120 ∧ okP ar x.2) ∧ bindErr ar 0 (sortB bs) = 0 := by
  have h1 : ∀ x, x ∈ bs → x.2.sz ≤ 120 ∧ okP ar x.2 := (grow_in (P := fun t => t.sz ≤ 120 ∧ okP ar t) (fun t ht c hc => ⟨by have := T.szL_mem hc; have := T.sz_eq t; omega, okL_mem.1 (okP_iff.1 ht.2).2 c hc⟩) p.sz).1 p t [] bs (Nat.le_refl _) ht h (fun x hx => by cases hx)
  have h2 := (grow_keeps (ar := ar) p.sz).1 p t [] bs (Nat.le_refl _) hp h ⟨fun i j x y hx => by simp at hx, fun x hx => by cases hx⟩
  exact ⟨h1, bindErr_of (sortB_rise h2.1) (fun x hx => by
    have hm := sortB_mem hx
    have h3 := h2.2 x hm
    exact ⟨h3.1, h3.2, by omega, termErr_iff.2 (h1 x hm)⟩)⟩

/-- What a rule makes of a term at a place. -/
def madeR (t : T) (p : List Int) (y : T) (bs : List (Int × T)) : T × Bool × Int :=
  if 120 < (applyT bs y).sz then (zeroT, false, 2) else if 120 < (putT (applyT bs y) t p).sz then (zeroT, false, 2) else (putT (applyT bs y) t p, true, 0)
/-- A step: what comes, whether a rule matched, and what is wrong. -/
def stepSpec (rs : List (T × T)) (t : T) : T × Bool × Int := match findR rs t with
  | some r => madeR t r.1 r.2.1 r.2.2
  | none => (t, false, 0)
theorem madeR_sort (t : T) (p : List Int) (y : T) (bs : List (Int × T)) : madeR t p y (sortB bs) = madeR t p y bs := by rw [madeR, madeR, applyT_sortB]
/-- The first rule that matches is one of them, and its bindings are those of matching. -/
theorem hitR_rule {rs : List (T × T)} {u y : T} {bs : List (Int × T)} (h : hitR rs u = some (y, bs)) : ∃ x b, x ∈ rs ∧ y = x.2 ∧ growT x.1 u [] = some b ∧ bs = sortB b := by
  induction rs with
  | nil => cases h
  | cons x rs ih =>
    rw [hitR] at h
    cases hg : growT x.1 u [] with
    | some b =>
      rw [hg] at h
      simp only [Option.some.injEq, Prod.mk.injEq] at h
      exact ⟨x, b, by simp, h.1.symm, hg, h.2.symm⟩
    | none =>
      rw [hg] at h
      obtain ⟨x', b, h1, h2⟩ := ih h
      exact ⟨x', b, by simp [h1], h2⟩
/-- Rules that are right. -/
def RulesOk (ar : List Int) (rs : List (T × T)) : Prop := ∀ x, x ∈ rs → (x.1.sz ≤ 120 ∧ okP ar x.1) ∧ (x.2.sz ≤ 120 ∧ okP ar x.2) ∧ gt x.1 x.2 = true
/-- What is found is right. -/
theorem find_ok {ar : List Int} {rs : List (T × T)} {t : T} (hr : RulesOk ar rs) (ht : t.sz ≤ 120 ∧ okP ar t) {p : List Int} {y : T} {bs : List (Int × T)} (h : findR rs t = some (p, y, bs)) :
    ∃ u, atT t p = some u ∧ p.length ≤ 120 ∧ (y.sz ≤ 120 ∧ okP ar y) ∧ bindErr ar 0 bs = 0 ∧ (∀ v x, (v, x) ∈ bs → okP ar x) ∧ okP ar (applyT bs y) := by
  obtain ⟨u, h1, h2, h3⟩ := findR_place t.sz t _ (Nat.le_refl _) h
  obtain ⟨x, b, hx, rfl, hg, rfl⟩ := hitR_rule h2
  have hu : u.sz ≤ 120 ∧ okP ar u := ⟨by have := atT_sz h1; omega, okP_at h1 ht.2⟩
  have hb := grow_binds (hr x hx).1.2 hu hg
  have hb2 : ∀ v z, (v, z) ∈ sortB b → okP ar z := fun v z hz => (hb.1 _ (sortB_mem hz)).2
  exact ⟨u, h1, by simp only at h3; omega, (hr x hx).2.1, hb.2, hb2, okP_apply hb2 (hr x hx).2.1.2⟩
theorem step_ok {ar : List Int} {rs : List (T × T)} {t : T} (hr : RulesOk ar rs) (ht : t.sz ≤ 120 ∧ okP ar t) (h : (stepSpec rs t).2.2 = 0) : (stepSpec rs t).1.sz ≤ 120 ∧ okP ar (stepSpec rs t).1 := by
  rw [stepSpec] at h ⊢
  cases hf : findR rs t with
  | none => exact ht
  | some r =>
    obtain ⟨p, y, bs⟩ := r
    rw [hf] at h
    obtain ⟨u, h1, _, _, _, _, h6⟩ := find_ok hr ht hf
    simp only [madeR] at h ⊢
    by_cases h7 : 120 < (applyT bs y).sz
    · rw [if_pos h7] at h; cases h
    · rw [if_neg h7] at h ⊢
      by_cases h8 : 120 < (putT (applyT bs y) t p).sz
      · rw [if_pos h8] at h; cases h
      · rw [if_neg h8]
        exact ⟨by simp only; omega, okP_put h6 h1 ht.2⟩
theorem step_bad {rs : List (T × T)} {t : T} (h : (stepSpec rs t).2.2 ≠ 0) : stepSpec rs t = (zeroT, false, 2) := by
  rw [stepSpec] at h ⊢
  cases hf : findR rs t with
  | none => rw [hf] at h; exact absurd rfl h
  | some r =>
    rw [hf] at h
    simp only [madeR] at h ⊢
    by_cases h7 : 120 < (applyT r.2.2 r.2.1).sz
    · rw [if_pos h7]
    · rw [if_neg h7] at h ⊢
      by_cases h8 : 120 < (putT (applyT r.2.2 r.2.1) t r.1).sz
      · rw [if_pos h8]
      · rw [if_neg h8] at h; exact absurd rfl h
theorem step_none {rs : List (T × T)} {t : T} (h : (stepSpec rs t).2.2 = 0) (h2 : (stepSpec rs t).2.1 = false) : stepSpec rs t = (t, false, 0) := by
  rw [stepSpec] at h h2 ⊢
  cases hf : findR rs t with
  | none => rfl
  | some r =>
    rw [hf] at h h2
    simp only [madeR] at h h2 ⊢
    by_cases h7 : 120 < (applyT r.2.2 r.2.1).sz
    · rw [if_pos h7] at h; cases h
    · rw [if_neg h7] at h h2
      by_cases h8 : 120 < (putT (applyT r.2.2 r.2.1) t r.1).sz
      · rw [if_pos h8] at h; cases h
      · rw [if_neg h8] at h2; cases h2
/-- Steps, k at most, n behind them: what comes, how many there were, and what is wrong. -/
def normF (rs : List (T × T)) : Nat → Nat → T → T × Nat × Int
  | 0, _, _ => (zeroT, 0, 2)
  | k + 1, n, t => if (stepSpec rs t).2.2 = 0 then (if (stepSpec rs t).2.1 = true then normF rs k (n + 1) (stepSpec rs t).1 else (t, n, 0)) else (zeroT, 0, 2)
def normSpec (rs : List (T × T)) (t : T) : T × Nat × Int := normF rs 301 0 t
end Go.Proofs.Ytbkedppkdhfpoab

namespace Go.Proofs.Ytbkedppkdhfpoab
open Go.RowKit

set_option maxRecDepth 100000 in
set_option maxHeartbeats 2000000 in
theorem Put_new (ar : List Int) (ga : Option Addr) (gcap : Nat) (t : T) (a : Option Addr) (cap : Nat) (place : List Int) (pa : Option Addr) (pcap : Nat) (u : T) (a2 : Option Addr) (cap2 : Nat) (w : World) (hg : Ints w ar ga) (hin : InL w t.args a) (hp : Ints w place pa)
    (hin2 : InL w u.args a2) (hl : place.length ≤ 9223372036854775807) :
    Calls Try.prog 70 #[.agg #[.slice ga ar.length gcap], .agg #[.int .i64 t.v, .int .i64 t.f, .slice a t.args.length cap], .slice pa place.length pcap, .agg #[.int .i64 u.v, .int .i64 u.f, .slice a2 u.args.length cap2]] w fun e w' =>
      GivesN (putSpec ar t place u) w.heap.size e w' ∧ Below w.heap.size w w' := by
  have Hg := hide (fun o1 o2 o3 o4 o5 => Ints_alloc o5 (Ints_alloc o4 (Ints_alloc o3 (Ints_alloc o2 (Ints_alloc o1 hg)))))
  have Hin := hide (fun o1 o2 o3 o4 e => InP_new2 (n := w.heap.size + 1 + 1 + 1 + 1) (cap := cap) (cap2 := cap2) e (by simp) trivial (InP_alloc o4 (InP_alloc o3 (InP_alloc o2 (InP_alloc o1 hin)))) (InP_alloc o4 (InP_alloc o3 (InP_alloc o2 (InP_alloc o1 hin2)))))
  go_enter Try.func70, Try.ntmps70
  go_wp2_with fail
  refine (check_any ar ga gcap [t, u] _ 2 _ (Hg.out _ _ _ _ _) (Hin.out _ _ _ _ _) (by simp)).mono ?_
  rintro e w1 ⟨rfl, hb1⟩
  have hbw : Below w.heap.size w w1 := (((((below1 _ _).alloc (by simp) _).alloc (by simp; omega) _).alloc (by simp; omega) _).alloc (by simp; omega) _).trans (hb1.mono (by simp; omega))
  have hz1 : w.heap.size + 5 ≤ w1.heap.size := by have := hb1.size; simp at this; omega
  have h3t : Three w1 (w.heap.size + 1) (.int .i64 t.v) (.int .i64 t.f) (.slice a t.args.length cap) := ((((Three.new _ (by simp)).alloc _).alloc _).alloc _).below hb1
  have h3u : Three w1 (w.heap.size + 1 + 1) (.int .i64 u.v) (.int .i64 u.f) (.slice a2 u.args.length cap2) := (((Three.new _ (by simp)).alloc _).alloc _).below hb1
  have h3r : Three w1 (w.heap.size + 1 + 1 + 1) (.int .i64 0) (.int .i64 0) (.slice none 0 0) := ((Three.new _ (by simp)).alloc _).below hb1
  clear hb1 Hg Hin
  by_cases hs : allErr ar [t, u] = 0
  · have hszt := sz_of_ok hs (t := t) (by simp)
    have hszu := sz_of_ok hs (t := u) (by simp)
    rw [hs]
    obtain ⟨c0, c1, c2, _, _, _⟩ := h3t
    have hspec : putSpec ar t place u = (match atT t place with | some c => if 120 < (t.sz : Int) - c.sz + u.sz then (zeroT, 2) else (putT u t place, 0) | none => (zeroT, 5)) := by rw [putSpec, if_pos hs] <;> cases atT t place <;> rfl
    have Hspec := hide hspec
    clear hspec
    go_wp2_with fail
    refine (find_any t a cap place pa pcap _ (Ints_below hbw hp) (InP_below hbw hin) hl).mono ?_
    rintro e w2 ⟨hfound, hb2⟩
    have h3r2 := h3r.below hb2
    have h3t2 := Three.below ⟨c0, c1, c2, by assumption, by assumption, by assumption⟩ hb2
    have h3u2 := h3u.below hb2
    have hz2 := hb2.size
    have hbw2 := hbw.trans (hb2.mono (by omega))
    rcases hfound with ⟨c, a1, cap1, hat, rfl, hin1⟩ | ⟨hat, rfl⟩
    · have husz := atT_sz hat
      have hsp2 : putSpec ar t place u = if 120 < (t.sz : Int) - c.sz + u.sz then (zeroT, 2) else (putT u t place, 0) := by rw [Hspec.out, hat]
      have Hsp2 := hide hsp2
      have Hat := hide hat
      clear hsp2 Hspec hat h3r h3u c0 c1 c2
      obtain ⟨d0, d1, d2, f0, f1, f2⟩ := h3r2
      obtain ⟨t0, t1, t2, _, _, _⟩ := h3t2
      obtain ⟨u0, u1, u2, _, _, _⟩ := h3u2
      have hz3 : w.heap.size + 1 + 1 + 1 < w2.heap.size := by omega
      have hz4 : w.heap.size + 1 + 1 < w2.heap.size := by omega
      have hz5 : w.heap.size + 1 < w2.heap.size := by omega
      have hinT := InP_below hbw2 hin
      have hinU := InP_below hbw2 hin2
      have hinC := InP_below hb2 hin1
      have hHT := hide (fun (o : Obj) (w3 : World) (hb : Hid (Below (w2.heap.size + 1) (w2.alloc o) w3)) => (Three.alloc ⟨t0, t1, t2, by assumption, by assumption, by assumption⟩ o).same (hb.out.block _ (by omega)))
      have hHU := hide (fun (o : Obj) (w3 : World) (hb : Hid (Below (w2.heap.size + 1) (w2.alloc o) w3)) => (Three.alloc ⟨u0, u1, u2, by assumption, by assumption, by assumption⟩ o).same (hb.out.block _ (by omega)))
      have hHC := hide (fun (e : TypeId) (w3 : World) (hb : Hid (Below (w2.heap.size + 1) (w2.alloc (.cells #[.int .i64 c.v, .int .i64 c.f, .slice a1 c.args.length cap1] e)) w3)) => (Three.new (w := w2) (v0 := .int .i64 c.v) (v1 := .int .i64 c.f) (v2 := .slice a1 c.args.length cap1) e rfl).same (hb.out.block _ (by omega)))
      have hHR := hide (fun (o : Obj) (w3 : World) (hb : Hid (Below (w2.heap.size + 1) (w2.alloc o) w3)) => (Three.alloc ⟨d0, d1, d2, f0, f1, f2⟩ o).same (hb.out.block _ (by omega)))
      have HP := hide (Ints_below hbw2 hp)
      have hS := hide (fun (e : TypeId) (w' : World) (hb : Below (w2.heap.size + 1) (w2.alloc (.cells #[.int .i64 c.v, .int .i64 c.f, .slice a1 c.args.length cap1] e)) w') => (show w'.cell? ⟨w.heap.size + 1, 0, none⟩ = some (.int .i64 t.v) ∧ w'.cell? ⟨w.heap.size + 1, 1, none⟩ = some (.int .i64 t.f) ∧ w'.cell? ⟨w.heap.size + 1, 2, none⟩ = some (.slice a t.args.length cap) ∧ w'.cell? ⟨w.heap.size + 1 + 1, 0, none⟩ = some (.int .i64 u.v) ∧ w'.cell? ⟨w.heap.size + 1 + 1, 1, none⟩ = some (.int .i64 u.f) ∧ w'.cell? ⟨w.heap.size + 1 + 1, 2, none⟩ = some (.slice a2 u.args.length cap2) ∧ w'.cell? ⟨w2.heap.size, 0, none⟩ = some (.int .i64 c.v) ∧ w'.cell? ⟨w2.heap.size, 1, none⟩ = some (.int .i64 c.f) ∧ w'.cell? ⟨w2.heap.size, 2, none⟩ = some (.slice a1 c.args.length cap1) from
        ⟨(hHT.out _ w' hb).c0, (hHT.out _ w' hb).c1, (hHT.out _ w' hb).c2, (hHU.out _ w' hb).c0, (hHU.out _ w' hb).c1, (hHU.out _ w' hb).c2, (hHC.out _ w' hb).c0, (hHC.out _ w' hb).c1, (hHC.out _ w' hb).c2⟩))
      clear hbw hp hin hin2 hin1 hg hb2
      have husz2 : c.sz ≤ 120 := by omega
      have Hw : Hid (IntKind.i64.wrap (IntKind.i64.wrap ((t.sz : Int) - c.sz) + u.sz) = (t.sz : Int) - c.sz + u.sz) := by
        rw [wrap_ok ((t.sz : Int) - c.sz) (by omega) (by omega), wrap_ok ((t.sz : Int) - c.sz + u.sz) (by omega) (by omega)]; rfl
      go_upto_region 7 with fail
      go_cut [42] (fun v wc => v = .bool (decide (120 < (t.sz : Int) - c.sz + u.sz)) ∧ Hid (Below (w2.heap.size + 1) (w2.alloc (.cells #[.int .i64 c.v, .int .i64 c.f, .slice a1 c.args.length cap1] 28)) wc))
      case first =>
        go_region_held3 (fun w' => w'.cell? ⟨w.heap.size + 1, 0, none⟩ = some (.int .i64 t.v) ∧ w'.cell? ⟨w.heap.size + 1, 1, none⟩ = some (.int .i64 t.f) ∧ w'.cell? ⟨w.heap.size + 1, 2, none⟩ = some (.slice a t.args.length cap) ∧ w'.cell? ⟨w.heap.size + 1 + 1, 0, none⟩ = some (.int .i64 u.v) ∧ w'.cell? ⟨w.heap.size + 1 + 1, 1, none⟩ = some (.int .i64 u.f) ∧ w'.cell? ⟨w.heap.size + 1 + 1, 2, none⟩ = some (.slice a2 u.args.length cap2) ∧ w'.cell? ⟨w2.heap.size, 0, none⟩ = some (.int .i64 c.v) ∧ w'.cell? ⟨w2.heap.size, 1, none⟩ = some (.int .i64 c.f) ∧ w'.cell? ⟨w2.heap.size, 2, none⟩ = some (.slice a1 c.args.length cap1)) ((first | (refine hS.out 28 _ ?_; repeat' (first | with_reducible exact Hid.out ‹Hid (Below _ _ _)› | with_reducible exact Below.refl _ _ | (with_reducible refine Below.drew ?_) | (refine Below.alloc ?_ ?_ _; rotate_left; focus (first | omega | (simp; omega) | (simp; done))))) | go_keep)) ((
          go_at_call 106
          first
            | (refine (size_one t _ _ ?_ ?_).mono ?_; (focus omega); (focus ((repeat' (first | assumption | refine InP_drew ?_ | (refine InP_new1 _ ?_ trivial ?_; focus (first | rfl | (simp; done))) | refine InP_alloc _ ?_ | refine InP_below (by assumption) ?_)); done)))
            | (refine (size_one c _ _ ?_ ?_).mono ?_; (focus omega); (focus ((repeat' (first | assumption | refine InP_drew ?_ | (refine InP_new1 _ ?_ trivial ?_; focus (first | rfl | (simp; done))) | refine InP_alloc _ ?_ | refine InP_below (by assumption) ?_)); done)))
            | (refine (size_one u _ _ ?_ ?_).mono ?_; (focus omega); (focus ((repeat' (first | assumption | refine InP_drew ?_ | (refine InP_new1 _ ?_ trivial ?_; focus (first | rfl | (simp; done))) | refine InP_alloc _ ?_ | refine InP_below (by assumption) ?_)); done)))
          rintro e w3 ⟨rfl, hb3⟩
          have Hbb : Hid (Below (w2.heap.size + 1) (w2.alloc (.cells #[.int .i64 c.v, .int .i64 c.f, .slice a1 c.args.length cap1] 28)) w3) := by
            refine Below.trans (b := _) ?_ (hb3.mono ?_)
            · repeat' (first | with_reducible exact Hid.out ‹Hid (Below _ _ _)› | with_reducible exact Below.refl _ _ | (with_reducible refine Below.drew ?_) | (refine Below.alloc ?_ ?_ _; rotate_left; focus (first | omega | (simp; omega) | (simp; done))))
            · first | omega | (simp; omega) | (simp; done)
          have hsz3 := Hbb.out.size
          have hsz4 := hb3.size
          simp at hsz3 hsz4
          have hq1 : w.heap.size + 1 < w3.heap.size := by omega
          have hq2 : w.heap.size + 1 + 1 < w3.heap.size := by omega
          have hq3 : w2.heap.size < w3.heap.size := by omega
          obtain ⟨_, _, _, _, _, _⟩ := hHT.out _ _ Hbb
          obtain ⟨_, _, _, _, _, _⟩ := hHU.out _ _ Hbb
          obtain ⟨_, _, _, _, _, _⟩ := hHC.out _ _ Hbb))
        all_goals (go_wp2_with fail; go_meet; exact ⟨by rw [Hw.out], Hbb⟩)
      case rest =>
        obtain ⟨rfl, HB⟩ := hcut
        have hbb : Below w2.heap.size w2 wc := (below1 _ _).trans (HB.out.mono (by omega))
        have hzc : w2.heap.size + 1 ≤ wc.heap.size := by have := HB.out.size; simp at this; omega
        have hbf : Below w.heap.size w wc := hbw2.trans (hbb.mono (by omega))
        have h3 := hHR.out _ _ HB
        obtain ⟨x0, x1, x2, g0, g1, g2⟩ := h3
        by_cases hbig : 120 < (t.sz : Int) - c.sz + u.sz
        · have hsp3 : putSpec ar t place u = (zeroT, 2) := by rw [Hsp2.out, if_pos hbig]
          have Hsp3 := hide hsp3
          have hd : decide (120 < (t.sz : Int) - c.sz + u.sz) = true := by simpa using hbig
          rw [hd]
          clear hsp3 Hsp2 hS hHT hHU hHC hHR hbig
          go_wp2_with fail
          exact bodyPost_ret (v := .tuple #[.agg #[.int .i64 0, .int .i64 0, .slice none 0 0], .int .i64 2]) (by simp [results, Try.results70, go_sem, x0, x1, x2]) rfl
            ⟨by rw [Hsp3.out]; exact givesN_zero 2 _ _, below_set3 hbf (by omega) _ _ _⟩
        · have hsp3 : putSpec ar t place u = (putT u t place, 0) := by rw [Hsp2.out, if_neg hbig]
          have Hsp3 := hide hsp3
          have hd : decide (120 < (t.sz : Int) - c.sz + u.sz) = false := by simpa using hbig
          rw [hd]
          obtain ⟨y0, y1, y2, _, _, _⟩ := hHT.out _ _ HB
          obtain ⟨z0, z1, z2, _, _, _⟩ := hHU.out _ _ HB
          have Hpl := hide (Ints_below hbb HP.out)
          have HiT := hide (InP_below hbb hinT)
          have HiU := hide (InP_below hbb hinU)
          clear hsp3 Hsp2 hS hHT hHU hHC hHR hbig hinT hinU hinC
          go_wp2_with fail
          refine (put_any t a cap place pa pcap u a2 cap2 _ c Hpl.out HiT.out HiU.out hl (by omega) (by omega) Hat.out).mono ?_
          rintro e w4 ⟨a3, cap3, rfl, hin4, hb4⟩
          have h34 : Three w4 (w.heap.size + 1 + 1 + 1) (.int .i64 0) (.int .i64 0) (.slice none 0 0) := Three.below ⟨x0, x1, x2, g0, g1, g2⟩ hb4
          obtain ⟨q0, q1, q2, k0, k1, k2⟩ := h34
          have hbf4 : Below w.heap.size w w4 := hbf.trans (hb4.mono (by omega))
          go_wp2_with fail
          exact bodyPost_ret (v := .tuple #[.agg #[.int .i64 (putT u t place).v, .int .i64 (putT u t place).f, .slice a3 (putT u t place).args.length cap3], .int .i64 0]) (by simp [results, Try.results70, go_sem, q0, q1, q2]) rfl
            ⟨by rw [Hsp3.out]; exact ⟨a3, cap3, rfl, InP_imp (fun k hk => by omega) (InP_same (fun k hk _ => set3_block (by omega)) hin4)⟩, below_set3 hbf4 (by omega) _ _ _⟩
    · have hsp2 : putSpec ar t place u = (zeroT, 5) := by rw [Hspec.out, hat]
      have Hsp2 := hide hsp2
      clear hsp2 Hspec hat h3r
      obtain ⟨d0, d1, d2, f0, f1, f2⟩ := h3r2
      have hz3 : w.heap.size + 1 + 1 + 1 < w2.heap.size := by omega
      go_wp2_with fail
      exact bodyPost_ret (v := .tuple #[.agg #[.int .i64 0, .int .i64 0, .slice none 0 0], .int .i64 5]) (by simp [results, Try.results70, go_sem, d0, d1, d2, hz3]) rfl
        ⟨by rw [Hsp2.out]; exact givesN_zero 5 _ _, (below_set3 hbw2 (by omega) _ _ _).alloc (by rw [set3_size]; omega) _⟩
  · have hs1 : (allErr ar [t, u] != 0) = true := by simpa using hs
    have hspec : putSpec ar t place u = (zeroT, allErr ar [t, u]) := by rw [putSpec, if_neg hs]
    have Hspec := hide hspec
    clear hspec hs
    obtain ⟨d0, d1, d2, f0, f1, f2⟩ := h3r
    generalize allErr ar [t, u] = err at *
    go_wp2_with fail
    exact bodyPost_ret (v := .tuple #[.agg #[.int .i64 0, .int .i64 0, .slice none 0 0], .int .i64 err]) (by simp [results, Try.results70, go_sem, d0, d1, d2]) rfl
      ⟨by rw [Hspec.out]; exact givesN_zero err _ _, below_set3 hbw (by omega) _ _ _⟩

end Go.Proofs.Ytbkedppkdhfpoab

namespace Go.Proofs.Ytbkedppkdhfpoab
open Go.RowKit

/-- A term in blocks of which q holds, a yes or no, and an error handed back. -/
def GivesS (q : Nat → Prop) (x : T × Bool × Int) (e : Ending) (w' : World) : Prop :=
  ∃ a1 cap1, e = .returned (.tuple #[.agg #[.int .i64 x.1.v, .int .i64 x.1.f, .slice a1 x.1.args.length cap1], .bool x.2.1, .int .i64 x.2.2]) ∧ InP q w' x.1.args a1
theorem givesS_zero (q : Nat → Prop) (w' : World) : GivesS q (zeroT, false, 2) (.returned (.tuple #[.agg #[.int .i64 0, .int .i64 0, .slice none 0 0], .bool false, .int .i64 2])) w' := ⟨none, 0, rfl, InP_nil⟩

theorem rules_ok {ar : List Int} {rs : List (T × T)} (h : rulesErr ar rs = 0) : sigErr ar = 0 ∧ rs.length ≤ 20 ∧ RulesOk ar rs := by
  have hsig : sigErr ar = 0 := by
    rw [rulesErr] at h
    by_cases h1 : sigErr ar = 0
    · exact h1
    · rw [if_neg h1] at h; exact absurd h h1
  rw [rulesErr, if_pos hsig] at h
  by_cases h2 : 20 < rs.length
  · rw [if_pos h2] at h; cases h
  · rw [if_neg h2] at h
    refine ⟨hsig, by omega, fun x hx => ?_⟩
    have h3 := ruleErr_mem h x hx
    have h4 := allErr_iff.1 h3.1
    exact ⟨h4.2 x.1 (by simp), h4.2 x.2 (by simp), h3.2⟩

/-- A list of the call's own, with where it lies. -/
theorem own_where {base : Nat} {w : World} {v : Value} {l : List Int} (h : OwnI base w v l) : ∃ a cap, v = .slice a l.length cap ∧ ∀ w' : World, (∀ k, base ≤ k → k < w.heap.size → w'.heap[k]? = w.heap[k]?) → Ints w' l a := by
  have hi := own_ints h
  have hl := own_lt h
  rcases h.2 with ⟨rfl, h0⟩ | ⟨g, cap, cur, rfl, hb, hg, hc, hm, hs, ht⟩
  · exact ⟨none, 0, by rw [h0], fun _ _ => Or.inl (List.length_eq_zero_iff.1 h0)⟩
  · obtain ⟨a', cap', he, hI, _⟩ := hi
    simp only [Value.slice.injEq, true_and] at he
    obtain ⟨rfl, rfl⟩ := he
    refine ⟨_, _, rfl, fun w' hw => ?_⟩
    rcases hI with hI | ⟨b, off, he, hcell⟩
    · exact Or.inl hI
    · simp only [Option.some.injEq, Addr.mk.injEq, and_true] at he
      obtain ⟨rfl, rfl⟩ := he
      exact Or.inr ⟨g, 0, rfl, fun i hi => by rw [World.cell?_of_block (w := w) (a := ⟨g, 0 + i, none⟩) (hw g (hl g rfl).1 (hl g rfl).2)]; exact hcell i hi⟩

/-- What step lays ahead of its search. -/
structure SixB (ar : List Int) (ga : Option Addr) (gcap : Nat) (rs : List (T × T)) (ra : Option Addr) (rc : Nat) (t : T) (a : Option Addr) (cap : Nat) (w W : World) : Prop where
  b : Below w.heap.size w W
  size : W.heap.size = w.heap.size + 6
  g : W.cell? ⟨w.heap.size, 0, none⟩ = some (.slice ga ar.length gcap)
  l : W.cell? ⟨w.heap.size + 1, 0, none⟩ = some (.slice ra rs.length rc)
  t : Three W (w.heap.size + 1 + 1) (.int .i64 t.v) (.int .i64 t.f) (.slice a t.args.length cap)
  r : Three W (w.heap.size + 1 + 1 + 1) (.int .i64 0) (.int .i64 0) (.slice none 0 0)
  tt : Three W (w.heap.size + 1 + 1 + 1 + 1) (.int .i64 0) (.int .i64 0) (.slice none 0 0)
  y : W.cell? ⟨w.heap.size + 1 + 1 + 1 + 1 + 1, 0, none⟩ = some (.slice none 0 0)
  yf : W.frozen? ⟨w.heap.size + 1 + 1 + 1 + 1 + 1, 0, none⟩ = false
theorem SixB.new (ar : List Int) (ga : Option Addr) (gcap : Nat) (rs : List (T × T)) (ra : Option Addr) (rc : Nat) (t : T) (a : Option Addr) (cap : Nat) (w : World) (e1 e2 e3 e4 e5 e6 : TypeId) :
    SixB ar ga gcap rs ra rc t a cap w ((((((w.alloc (.cells #[.slice ga ar.length gcap] e1)).alloc (.cells #[.slice ra rs.length rc] e2)).alloc (.cells #[.int .i64 t.v, .int .i64 t.f, .slice a t.args.length cap] e3)).alloc (.cells #[.int .i64 0, .int .i64 0, .slice none 0 0] e4)).alloc (.cells #[.int .i64 0, .int .i64 0, .slice none 0 0] e5)).alloc (.cells #[.slice none 0 0] e6)) where
  b := (((((below1 w _).alloc (by simp <;> omega) _).alloc (by simp <;> omega) _).alloc (by simp <;> omega) _).alloc (by simp <;> omega) _).alloc (by simp <;> omega) _
  size := by simp
  g := by
    rw [cell_alloc_lt (by simp <;> omega), cell_alloc_lt (by simp <;> omega), cell_alloc_lt (by simp <;> omega), cell_alloc_lt (by simp <;> omega), cell_alloc_lt (by simp)]; exact cell_new 0 rfl
  l := by
    rw [cell_alloc_lt (by simp <;> omega), cell_alloc_lt (by simp <;> omega), cell_alloc_lt (by simp <;> omega), cell_alloc_lt (by simp)]; exact cell_new 0 (by simp)
  t := (((Three.new e3 (by simp)).alloc _).alloc _).alloc _
  r := ((Three.new e4 (by simp)).alloc _).alloc _
  tt := (Three.new e5 (by simp)).alloc _
  y := cell_new 0 (by simp)
  yf := by
    have h : ∀ (W : World) (n : Nat), n = W.heap.size → (W.alloc (.cells #[.slice none 0 0] e6)).frozen? ⟨n, 0, none⟩ = false := fun W n hn => by subst hn; simp
    exact h _ _ (by simp)
theorem SixB.fs {ar : List Int} {ga : Option Addr} {gcap : Nat} {rs : List (T × T)} {ra : Option Addr} {rc : Nat} {t : T} {a : Option Addr} {cap : Nat} {w W : World} (h : SixB ar ga gcap rs ra rc t a cap w W) (hrs : rulesErr ar rs = 0) (hg : Ints w ar ga) (hr : RulesP (fun _ => True) w rs ra) :
    FSz ar ga gcap rs ra rc (w.heap.size + 1) w.heap.size (w.heap.size + 1 + 1 + 1 + 1) (w.heap.size + 1 + 1 + 1 + 1 + 1) (w.heap.size + 6) W where
  rsok := hrs
  l := h.l
  g := h.g
  r := RulesP_mono (fun b o v hp hv => ⟨by have hp := hp.2; omega, by rw [h.b.cell (p := ⟨b, o, none⟩) hp.2]; exact hv⟩) (RulesP_lt hr)
  gi := fun w' hs => by
    rcases hg with hg | ⟨b, off, rfl, hg⟩
    · exact Or.inl hg
    · refine Or.inr ⟨b, off, rfl, fun i hi => ?_⟩
      have hb := lt_of_cell (hg i hi)
      rw [World.cell?_of_block (w := W) (a := ⟨b, off + i, none⟩) (hs b (by omega) (by omega) (by omega)), h.b.cell (p := ⟨b, off + i, none⟩) hb]
      exact hg i hi
  ll := by omega
  gl := by omega
  tl := by omega
  bl := by omega
  ne := by omega
theorem SixB.fd {ar : List Int} {ga : Option Addr} {gcap : Nat} {rs : List (T × T)} {ra : Option Addr} {rc : Nat} {t : T} {a : Option Addr} {cap : Nat} {w W : World} (h : SixB ar ga gcap rs ra rc t a cap w W) : FD (w.heap.size + 1 + 1 + 1 + 1) (w.heap.size + 1 + 1 + 1 + 1 + 1) (w.heap.size + 6) W W :=
  ⟨fun _ _ _ _ => rfl, ⟨_, _, _, h.tt⟩, ⟨_, h.y⟩, h.yf, by have := h.size; omega⟩

theorem putSpec_made {ar : List Int} {t z u : T} {p : List Int} (hs : sigErr ar = 0) (ht : t.sz ≤ 120 ∧ okP ar t) (hz : z.sz ≤ 120 ∧ okP ar z) (hu : atT t p = some u) : putSpec ar t p z = if 120 < (putT z t p).sz then (zeroT, 2) else (putT z t p, 0) := by
  have h : allErr ar [t, z] = 0 := allErr_iff.2 ⟨hs, fun x hx => by
    rcases List.mem_cons.1 hx with rfl | hx
    · exact ht
    · rcases List.mem_cons.1 hx with rfl | hx
      · exact hz
      · cases hx⟩
  have hsz := putT_sz (u := z) hu
  have hc := atT_sz hu
  rw [putSpec, if_pos h, hu]
  by_cases h1 : 120 < (putT z t p).sz
  · simp only [if_pos h1, if_pos (show 120 < (t.sz : Int) - u.sz + z.sz by omega)]
  · simp only [if_neg h1, if_neg (show ¬ 120 < (t.sz : Int) - u.sz + z.sz by omega)]
theorem applySpec_made {ar : List Int} {y : T} {bs : List (Int × T)} (hs : sigErr ar = 0) (hb : bindErr ar 0 bs = 0) (hy : y.sz ≤ 120 ∧ okP ar y) : applySpec ar bs y = if 120 < (applyT bs y).sz then (zeroT, 2) else (applyT bs y, 0) := by
  rw [applySpec, bindsErr, if_pos hs, if_pos hb, if_pos (termErr_iff.2 hy)]

set_option maxRecDepth 100000 in
set_option maxHeartbeats 1000000 in
theorem step_any (ar : List Int) (ga : Option Addr) (gcap : Nat) (rs : List (T × T)) (ra : Option Addr) (rc : Nat) (t : T) (a : Option Addr) (cap : Nat) (w : World) (hrs : rulesErr ar rs = 0) (ht : t.sz ≤ 120 ∧ okP ar t) (hg : Ints w ar ga) (hr : RulesP (fun _ => True) w rs ra) (hin : InL w t.args a) :
    Calls Try.prog 33 #[.agg #[.slice ga ar.length gcap], .slice ra rs.length rc, .agg #[.int .i64 t.v, .int .i64 t.f, .slice a t.args.length cap]] w fun e w' => GivesS (fun k => w.heap.size ≤ k) (stepSpec rs t) e w' ∧ Below w.heap.size w w' := by
  have HS := hide (fun e1 e2 e3 e4 e5 e6 => SixB.new ar ga gcap rs ra rc t a cap w e1 e2 e3 e4 e5 e6)
  have HF := hide (fun (W : World) (h : SixB ar ga gcap rs ra rc t a cap w W) => first_any (h.fs hrs hg hr) (w.heap.size + 6) (Nat.le_refl _) t.sz t a cap (.slice none 0 0) [] W (Nat.le_refl _) ht.1 ht.2 (by simp <;> omega) h.fd (by have := h.size; omega) (World.ownsRow_nil _ _ _ _) (InP_mono (p := fun k => True ∧ k < w.heap.size) (fun b o v hp hv => ⟨by have hp := hp.2; omega, by rw [h.b.cell (p := ⟨b, o, none⟩) hp.2]; exact hv⟩) _ _ _ (Nat.le_refl _) (InP_lt hin)))
  have Hro := hide (rules_ok hrs)
  have Ht := hide ht
  have Hg := hide hg
  have Hin := hide hin
  obtain ⟨S, hS⟩ : ∃ S, S = stepSpec rs t := ⟨_, rfl⟩
  rw [← hS]
  have HSp := hide hS
  clear hS hrs ht hg hr hin
  go_enter Try.func33, Try.ntmps33
  go_wp2_with fail
  have HW0 := hide (HS.out 24 25 28 28 28 98)
  generalize ((((((w.alloc (.cells #[.slice ga ar.length gcap] 24)).alloc (.cells #[.slice ra rs.length rc] 25)).alloc (.cells #[.int .i64 t.v, .int .i64 t.f, .slice a t.args.length cap] 28)).alloc (.cells #[.int .i64 0, .int .i64 0, .slice none 0 0] 28)).alloc (.cells #[.int .i64 0, .int .i64 0, .slice none 0 0] 28)).alloc (.cells #[.slice none 0 0] 98)) = W at *
  clear HS
  refine (HF.out _ HW0.out).mono ?_
  rintro e w1 ⟨v1, B, rfl, hout⟩
  have hzW := HW0.out.size
  rcases hout with ⟨hB, hr1, hv1, ho1, hg1⟩ | ⟨hB, p, y, bs, a1, c1, la, lc, hr1, ho1, hT1, hI1, hc1, hf1, hb1, e1, e2, e3, e4, e5⟩
  · subst hB hv1
    have hbW1 : Below W.heap.size W w1 := ⟨hg1.os, hg1.tape, hg1.output, hg1.size, fun k hk => hg1.block k hk (fun e => by cases e)⟩
    have hb1 : Below w.heap.size w w1 := HW0.out.b.trans (hbW1.mono (by omega))
    obtain ⟨c0, c1, c2, _, _, _⟩ := HW0.out.t.below hbW1
    have HR1 := hide (HW0.out.r.below hbW1)
    have Hsp : Hid (S = (t, false, 0)) := by show _ = _; rw [HSp.out, stepSpec, hr1]
    have HC := hide (copyOf_any (t.sz + 1) t a cap w1 (by omega) (by have := Ht.out.1; omega) (InP_below hb1 Hin.out))
    have Hb1 := hide hb1
    have hz1 : w.heap.size + 1 + 1 + 1 < w1.heap.size := by have := hg1.size; omega
    clear hr1 ho1 hg1 hbW1 hb1 HF HW0 HSp
    go_wp2_with fail
    refine HC.out.mono ?_
    rintro e w2 ⟨s, B, rfl, ho, _, hBk, hb2⟩
    obtain ⟨a2, cap2, rfl, hin2⟩ := Own_in ho
    obtain ⟨d0, d1, d2, f0, f1, f2⟩ := HR1.out.below hb2
    have Hb2 := hide (Hb1.out.trans (hb2.mono Hb1.out.size))
    have Hin2 : Hid (InP (fun k => w.heap.size ≤ k ∧ k ≠ w.heap.size + 1 + 1 + 1) w2 t.args a2) := by
      obtain ⟨a3, cap3, he, hi3⟩ := In_iff.1 (Own_inP ho)
      simp only [Value.slice.injEq, true_and] at he
      obtain ⟨rfl, rfl⟩ := he
      exact InP_imp (fun k hk => by have := (hBk k hk).1; omega) hi3
    have hz2 : w.heap.size + 1 + 1 + 1 < w2.heap.size := by have := hb2.size; omega
    clear ho hBk hb2 hin2 c0 c1 c2 HC
    go_wp2_with fail
    exact bodyPost_ret (v := .tuple #[.agg #[.int .i64 t.v, .int .i64 t.f, .slice a2 t.args.length cap2], .bool false, .int .i64 0]) (by simp [results, Try.results33, go_sem, d0, d1, d2]) rfl
      ⟨by rw [Hsp.out]; exact ⟨a2, cap2, rfl, InP_imp (fun k hk => hk.1) (InP_same (fun k hk _ => set3_block hk.2) Hin2.out)⟩, below_set3 Hb2.out (by omega) _ _ _⟩
  · subst hB
    obtain ⟨u, hu1, hpl, hy, hbe, hbo, hok⟩ := find_ok Hro.out.2.2 Ht.out hr1
    have Hsp : Hid (S = madeR t p y bs) := by show _ = _; rw [HSp.out, stepSpec, hr1]
    have Hap := hide (applySpec_made Hro.out.1 hbe hy)
    have Hpu := hide (fun hz => putSpec_made (z := applyT bs y) Hro.out.1 Ht.out ⟨hz, hok⟩ hu1)
    obtain ⟨pa, pc, hv1, hpI⟩ := own_where ho1
    rw [List.nil_append] at hv1 hpI
    subst hv1
    have hbl : bs.length ≤ 9223372036854775807 := by have := (bindErr_rise hbe).2.2 (by omega) (by omega); omega
    have hb1w : Below w.heap.size w w1 := ⟨e1.trans HW0.out.b.os, e2.trans HW0.out.b.tape, e3.trans HW0.out.b.output, by have := HW0.out.b.size; omega, fun k hk => by rw [e5 k (by omega) (by omega) (by omega) (by simp [Value.ownBlock]), HW0.out.b.block k hk]⟩
    have cg : w1.cell? ⟨w.heap.size, 0, none⟩ = some (.slice ga ar.length gcap) := by
      rw [World.cell?_of_block (w := W) (a := ⟨w.heap.size, 0, none⟩) (e5 w.heap.size (by omega) (by omega) (by omega) (by simp [Value.ownBlock]))]; exact HW0.out.g
    have HT2 := hide (HW0.out.t.same (e5 (w.heap.size + 1 + 1) (by omega) (by omega) (by omega) (by simp [Value.ownBlock])))
    have HR2 := hide (HW0.out.r.same (e5 (w.heap.size + 1 + 1 + 1) (by omega) (by omega) (by omega) (by simp [Value.ownBlock])))
    have HA := hide (Apply_new ar ga gcap bs la lc y a1 c1 w1 (Ints_below hb1w Hg.out) hbl (Binds_imp (fun _ _ => trivial) hb1) (InP_imp (fun _ _ => trivial) hI1))
    have HTT := hide hT1
    obtain ⟨t0, t1, t2, _, _, _⟩ := hT1
    have Hb1 := hide hb1w
    have HpI := hide hpI
    have hz1 : w.heap.size + 6 ≤ w1.heap.size := by omega
    have hpl2 : p.length ≤ 9223372036854775807 := by omega
    clear hr1 ho1 hI1 hf1 hb1 e1 e2 e3 e4 e5 hb1w HF HW0 HSp hu1 hy hbe hbo hok hpI hpl
    go_wp2_with fail
    refine HA.out.mono ?_
    rintro e w2 ⟨⟨a2, c2, rfl, hin2⟩, hb2⟩
    have HTT2 := hide (HTT.out.below hb2)
    have HT3 := hide (HT2.out.below hb2)
    have HR3 := hide (HR2.out.below hb2)
    have cg2 : w2.cell? ⟨w.heap.size, 0, none⟩ = some (.slice ga ar.length gcap) := by rw [hb2.cell (p := ⟨w.heap.size, 0, none⟩) (show w.heap.size < w1.heap.size by omega)]; exact cg
    have Hb2 := hide (Hb1.out.trans (hb2.mono Hb1.out.size))
    have HpI2 : Hid (∀ w' : World, (∀ k, w.heap.size + 6 ≤ k → k < w1.heap.size → w'.heap[k]? = w2.heap[k]?) → Ints w' p pa) := fun w' hw => HpI.out w' (fun k h1 h2 => (hw k h1 h2).trans (hb2.block k h2))
    have hz2 : w.heap.size + 6 ≤ w2.heap.size := by have := hb2.size; omega
    rw [Hap.out] at hin2 ⊢
    clear hb2 cg t0 t1 t2 hc1 HTT HT2 HR2 HpI Hap HA
    by_cases hbig : 120 < (applyT bs y).sz
    · rw [if_pos hbig] at hin2 ⊢
      have Hsp2 : Hid (S = (zeroT, false, 2)) := by show _ = _; rw [Hsp.out, madeR, if_pos hbig]
      clear hbig Hsp Hpu
      obtain ⟨x0, x1, x2, xf0, xf1, xf2⟩ := HTT2.out
      obtain ⟨d0, d1, d2, f0, f1, f2⟩ := HR3.out
      simp only [zeroT, List.length_nil]
      go_wp2_with fail
      exact bodyPost_ret (v := .tuple #[.agg #[.int .i64 0, .int .i64 0, .slice none 0 0], .bool false, .int .i64 2]) (by simp [results, Try.results33, go_sem, d0, d1, d2]) rfl
        ⟨by rw [Hsp2.out]; exact givesS_zero _ _, below_set3 (below_set3 (off := 0) Hb2.out (b := w.heap.size + 1 + 1 + 1 + 1) (by omega) _ _ _) (by omega) _ _ _⟩
    · rw [if_neg hbig] at hin2 ⊢
      have Hsp2 : Hid (S = if 120 < (putT (applyT bs y) t p).sz then (zeroT, false, 2) else (putT (applyT bs y) t p, true, 0)) := by show _ = _; rw [Hsp.out, madeR, if_neg hbig]
      have Hpu2 := hide (Hpu.out (by omega))
      obtain ⟨z, hz⟩ : ∃ z, z = applyT bs y := ⟨_, rfl⟩
      rw [← hz] at hin2 Hsp2 Hpu2 ⊢
      have Hin2 := hide hin2
      clear hbig Hsp Hpu hz hin2
      obtain ⟨x0, x1, x2, xf0, xf1, xf2⟩ := HTT2.out
      obtain ⟨q0, q1, q2, _, _, _⟩ := HT3.out
      have HIn3 : Hid (InL (set3 w2 (w.heap.size + 1 + 1 + 1 + 1) 0 (.int .i64 z.v) (.int .i64 z.f) (.slice a2 z.args.length c2)) z.args a2) := InP_mono (p := fun k => w1.heap.size ≤ k) (fun b o v hp hv => ⟨trivial, by rw [World.cell?_of_block (w := w2) (a := ⟨b, o, none⟩) (set3_block (show b ≠ w.heap.size + 1 + 1 + 1 + 1 by omega))]; exact hv⟩) _ _ _ (Nat.le_refl _) Hin2.out
      have HB3 := hide (below_set3 (off := 0) Hb2.out (b := w.heap.size + 1 + 1 + 1 + 1) (by omega) (.int .i64 z.v) (.int .i64 z.f) (.slice a2 z.args.length c2))
      have HX3 := hide (HTT2.out.set (.int .i64 z.v) (.int .i64 z.f) (.slice a2 z.args.length c2))
      have HP3 := hide (Put_new ar ga gcap t a cap p pa pc z a2 c2 (set3 w2 (w.heap.size + 1 + 1 + 1 + 1) 0 (.int .i64 z.v) (.int .i64 z.f) (.slice a2 z.args.length c2)) (Ints_below HB3.out Hg.out) (InP_below HB3.out Hin.out) (HpI2.out _ (fun k h1 _ => set3_block (by omega))) HIn3.out hpl2)
      rw [Hpu2.out] at HP3
      clear HpI2 Hpu2 Hin2 HIn3 HTT2 HT3
      go_wp2_with fail
      refine HP3.out.mono ?_
      rintro e w4 ⟨⟨a4, c4, rfl, hin4⟩, hb4⟩
      have hz4 : w.heap.size + 6 ≤ w4.heap.size := by have := hb4.size; rw [set3_size] at this; omega
      obtain ⟨d0, d1, d2, f0, f1, f2⟩ := (HR3.out.same (set3_block (off := 0) (u0 := .int .i64 z.v) (u1 := .int .i64 z.f) (u2 := .slice a2 z.args.length c2) (show w.heap.size + 1 + 1 + 1 ≠ w.heap.size + 1 + 1 + 1 + 1 by omega))).below hb4
      have Hb4 := hide (HB3.out.trans (hb4.mono (by rw [set3_size]; omega)))
      have Hin4 := hide hin4
      clear hb4 hin4 HP3 HB3 HX3 x0 x1 x2 xf0 xf1 xf2 q0 q1 q2 cg2
      rw [set3_size] at Hin4
      have hz4' : w.heap.size + 1 + 1 + 1 < w4.heap.size := by omega
      by_cases hb : 120 < (putT z t p).sz
      · have Hsp3 : Hid (S = (zeroT, false, 2)) := by show _ = _; rw [Hsp2.out, if_pos hb]
        simp only [if_pos hb, zeroT, List.length_nil]
        clear hb Hsp2 Hin4
        go_wp2_with fail
        exact bodyPost_ret (v := .tuple #[.agg #[.int .i64 0, .int .i64 0, .slice a4 0 c4], .bool false, .int .i64 2]) (by simp [results, Try.results33, go_sem, d0, d1, d2, hz4']) rfl
          ⟨by rw [Hsp3.out]; exact ⟨a4, c4, rfl, InP_nil⟩, (below_set3 Hb4.out (by omega) _ _ _).alloc (by rw [set3_size]; omega) _⟩
      · have Hsp3 : Hid (S = (putT z t p, true, 0)) := by show _ = _; rw [Hsp2.out, if_neg hb]
        rw [if_neg hb] at Hin4 ⊢
        clear hb Hsp2
        go_wp2_with fail
        exact bodyPost_ret (v := .tuple #[.agg #[.int .i64 (putT z t p).v, .int .i64 (putT z t p).f, .slice a4 (putT z t p).args.length c4], .bool true, .int .i64 0]) (by simp [results, Try.results33, go_sem, d0, d1, d2, hz4']) rfl
          ⟨by rw [Hsp3.out]; exact ⟨a4, c4, rfl, InP_imp (p := fun k => w2.heap.size ≤ k) (fun k hk => by omega) (InP_alloc _ (InP_same (fun k hk _ => set3_block (b := w.heap.size + 1 + 1 + 1) (off := 0) (by omega)) Hin4.out))⟩, (below_set3 Hb4.out (by omega) _ _ _).alloc (by rw [set3_size]; omega) _⟩

end Go.Proofs.Ytbkedppkdhfpoab

namespace Go.Proofs.Ytbkedppkdhfpoab
open Go.RowKit

/-- What Step answers. -/
def stepS (ar : List Int) (rs : List (T × T)) (t : T) : T × Bool × Int := if rtErr ar rs t = 0 then stepSpec rs t else (zeroT, false, rtErr ar rs t)
/-- What Normal answers. -/
def normS (ar : List Int) (rs : List (T × T)) (t : T) : T × Nat × Int := if rtErr ar rs t = 0 then normSpec rs t else (zeroT, 0, rtErr ar rs t)
theorem rt_ok {ar : List Int} {rs : List (T × T)} {t : T} (h : rtErr ar rs t = 0) : rulesErr ar rs = 0 ∧ t.sz ≤ 120 ∧ okP ar t := by
  rw [rtErr] at h
  by_cases h1 : rulesErr ar rs = 0
  · rw [if_pos h1] at h
    exact ⟨h1, (allErr_iff.1 h).2 t (by simp)⟩
  · rw [if_neg h1] at h; exact absurd h h1
/-- A term in blocks of which q holds, a number, and an error handed back. -/
def GivesM (q : Nat → Prop) (x : T × Nat × Int) (e : Ending) (w' : World) : Prop :=
  ∃ a1 cap1, e = .returned (.tuple #[.agg #[.int .i64 x.1.v, .int .i64 x.1.f, .slice a1 x.1.args.length cap1], .int .i64 (x.2.1 : Int), .int .i64 x.2.2]) ∧ InP q w' x.1.args a1

set_option maxRecDepth 100000 in
set_option maxHeartbeats 1000000 in
theorem Step_any (ar : List Int) (ga : Option Addr) (gcap : Nat) (rs : List (T × T)) (ra : Option Addr) (rc : Nat) (t : T) (a : Option Addr) (cap : Nat) (w : World) (hg : Ints w ar ga) (hl : rs.length ≤ 9223372036854775807) (hr : RulesP (fun _ => True) w rs ra) (hin : InL w t.args a) :
    Calls Try.prog 8 #[.agg #[.slice ga ar.length gcap], .slice ra rs.length rc, .agg #[.int .i64 t.v, .int .i64 t.f, .slice a t.args.length cap]] w fun e w' => GivesS (fun k => w.heap.size ≤ k) (stepS ar rs t) e w' ∧ Below w.heap.size w w' := by
  obtain ⟨W3, hW3⟩ : ∃ W3, W3 = (((w.alloc (.cells #[.slice ga ar.length gcap] 24)).alloc (.cells #[.int .i64 t.v, .int .i64 t.f, .slice a t.args.length cap] 28)).alloc (.cells #[.int .i64 0, .int .i64 0, .slice none 0 0] 28)) := ⟨_, rfl⟩
  have hT3 : Hid (Three W3 (w.heap.size + 1) (.int .i64 t.v) (.int .i64 t.f) (.slice a t.args.length cap)) := by rw [hW3]; exact (Three.new 28 (by simp)).alloc _
  have hR3 : Hid (Three W3 (w.heap.size + 1 + 1) (.int .i64 0) (.int .i64 0) (.slice none 0 0)) := by rw [hW3]; exact Three.new 28 (by simp)
  have hG3 : Hid (W3.cell? ⟨w.heap.size, 0, none⟩ = some (.slice ga ar.length gcap)) := by
    show _ = _
    rw [hW3, cell_alloc_lt (by simp; omega), cell_alloc_lt (by simp), cell_new _ rfl]; rfl
  have hWb : Hid (Below w.heap.size w W3) := by rw [hW3]; exact below3 _ _ _ _
  have hz3 : W3.heap.size = w.heap.size + 3 := by rw [hW3]; simp
  have HC := hide (checkAll_any ar ga gcap rs ra rc t a cap W3 (Ints_below hWb.out hg) hl (RulesP_below hWb.out hr) (InP_below hWb.out hin))
  have HW3 := hide hW3
  have Hg := hide hg
  have Hr := hide hr
  have Hin := hide hin
  clear hW3 hg hr hin
  go_enter Try.func8, Try.ntmps8
  go_wp2_with fail
  rw [← HW3.out]
  refine HC.out.mono ?_
  rintro e w1 ⟨rfl, hb1⟩
  have hz1 := hb1.size
  have Hb1 := hide (hWb.out.trans (hb1.mono (by omega)))
  obtain ⟨c0, c1, c2, _, _, _⟩ := hT3.out.below hb1
  have HR1 := hide (hR3.out.below hb1)
  have cg : w1.cell? ⟨w.heap.size, 0, none⟩ = some (.slice ga ar.length gcap) := by rw [hb1.cell (p := ⟨w.heap.size, 0, none⟩) (show w.heap.size < W3.heap.size by omega)]; exact hG3.out
  have hz1' : w.heap.size + 1 + 1 < w1.heap.size := by omega
  clear hb1 hWb hT3 hR3 hG3 HW3 HC
  by_cases h0 : rtErr ar rs t = 0
  · obtain ⟨hrs, ht⟩ := rt_ok h0
    have Hsp : Hid (stepS ar rs t = stepSpec rs t) := by show _ = _; rw [stepS, if_pos h0]
    have HS := hide (step_any ar ga gcap rs ra rc t a cap w1 hrs ht (Ints_below Hb1.out Hg.out) (RulesP_below Hb1.out Hr.out) (InP_below Hb1.out Hin.out))
    rw [h0]
    clear h0 hrs ht
    go_wp2_with fail
    refine HS.out.mono ?_
    rintro e w2 ⟨⟨a2, c2, rfl, hin2⟩, hb2⟩
    obtain ⟨S, hS⟩ : ∃ S, S = stepSpec rs t := ⟨_, rfl⟩
    rw [← hS] at hin2 Hsp ⊢
    obtain ⟨d0, d1, d2, f0, f1, f2⟩ := HR1.out.below hb2
    have Hb2 := hide (Hb1.out.trans (hb2.mono Hb1.out.size))
    have Hin2 := hide hin2
    have hz2 : w.heap.size + 1 + 1 < w2.heap.size := by have := hb2.size; omega
    clear hin2 hb2 HS hS
    go_wp2_with fail
    exact bodyPost_ret (v := .tuple #[.agg #[.int .i64 S.1.v, .int .i64 S.1.f, .slice a2 S.1.args.length c2], .bool S.2.1, .int .i64 S.2.2]) (by simp [results, Try.results8, go_sem, d0, d1, d2]) rfl
      ⟨by rw [Hsp.out]; exact ⟨a2, c2, rfl, InP_imp (p := fun k => w1.heap.size ≤ k) (fun k hk => by omega) (InP_same (fun k hk _ => set3_block (by omega)) Hin2.out)⟩, below_set3 Hb2.out (by omega) _ _ _⟩
  · have h0b : (rtErr ar rs t != 0) = true := by simpa using h0
    have Hsp : Hid (stepS ar rs t = (zeroT, false, rtErr ar rs t)) := by show _ = _; rw [stepS, if_neg h0]
    obtain ⟨d0, d1, d2, f0, f1, f2⟩ := HR1.out
    clear h0
    generalize rtErr ar rs t = err at *
    go_wp2_with fail
    exact bodyPost_ret (v := .tuple #[.agg #[.int .i64 0, .int .i64 0, .slice none 0 0], .bool false, .int .i64 err]) (by simp [results, Try.results8, go_sem, d0, d1, d2]) rfl
      ⟨by rw [Hsp.out]; exact ⟨none, 0, rfl, InP_nil⟩, below_set3 Hb1.out (by omega) _ _ _⟩

set_option maxRecDepth 100000 in
set_option maxHeartbeats 1000000 in
theorem Normal_any (ar : List Int) (ga : Option Addr) (gcap : Nat) (rs : List (T × T)) (ra : Option Addr) (rc : Nat) (t : T) (a : Option Addr) (cap : Nat) (w : World) (hg : Ints w ar ga) (hl : rs.length ≤ 9223372036854775807) (hr : RulesP (fun _ => True) w rs ra) (hin : InL w t.args a) :
    Calls Try.prog 11 #[.agg #[.slice ga ar.length gcap], .slice ra rs.length rc, .agg #[.int .i64 t.v, .int .i64 t.f, .slice a t.args.length cap]] w fun e w' => GivesM (fun k => w.heap.size ≤ k) (normS ar rs t) e w' ∧ Below w.heap.size w w' := by
  obtain ⟨W3, hW3⟩ : ∃ W3, W3 = (((w.alloc (.cells #[.slice ga ar.length gcap] 24)).alloc (.cells #[.int .i64 t.v, .int .i64 t.f, .slice a t.args.length cap] 28)).alloc (.cells #[.int .i64 0, .int .i64 0, .slice none 0 0] 28)) := ⟨_, rfl⟩
  have hT3 : Hid (Three W3 (w.heap.size + 1) (.int .i64 t.v) (.int .i64 t.f) (.slice a t.args.length cap)) := by rw [hW3]; exact (Three.new 28 (by simp)).alloc _
  have hR3 : Hid (Three W3 (w.heap.size + 1 + 1) (.int .i64 0) (.int .i64 0) (.slice none 0 0)) := by rw [hW3]; exact Three.new 28 (by simp)
  have hG3 : Hid (W3.cell? ⟨w.heap.size, 0, none⟩ = some (.slice ga ar.length gcap)) := by
    show _ = _
    rw [hW3, cell_alloc_lt (by simp; omega), cell_alloc_lt (by simp), cell_new _ rfl]; rfl
  have hWb : Hid (Below w.heap.size w W3) := by rw [hW3]; exact below3 _ _ _ _
  have hz3 : W3.heap.size = w.heap.size + 3 := by rw [hW3]; simp
  have HC := hide (checkAll_any ar ga gcap rs ra rc t a cap W3 (Ints_below hWb.out hg) hl (RulesP_below hWb.out hr) (InP_below hWb.out hin))
  have HW3 := hide hW3
  obtain ⟨Z, hZ⟩ : ∃ Z, Z = normS ar rs t := ⟨_, rfl⟩
  rw [← hZ]
  have HZ0 := hide hZ
  clear hZ
  have Hg := hide hg
  have Hr := hide hr
  have Hin := hide hin
  clear hW3 hg hr hin
  go_enter Try.func11, Try.ntmps11
  go_wp2_with fail
  rw [← HW3.out]
  refine HC.out.mono ?_
  rintro e w1 ⟨rfl, hb1⟩
  have hz1 := hb1.size
  have Hb1 := hide (hWb.out.trans (hb1.mono (by omega)))
  have HT1 := hide (hT3.out.below hb1)
  have HR1 := hide (hR3.out.below hb1)
  have cg : w1.cell? ⟨w.heap.size, 0, none⟩ = some (.slice ga ar.length gcap) := by rw [hb1.cell (p := ⟨w.heap.size, 0, none⟩) (show w.heap.size < W3.heap.size by omega)]; exact hG3.out
  have hz1' : w.heap.size + 1 + 1 < w1.heap.size := by omega
  clear hb1 hWb hT3 hR3 hG3 HW3 HC
  by_cases h0 : rtErr ar rs t = 0
  · obtain ⟨hrs, ht⟩ := rt_ok h0
    have HZ : Hid (Z = normF rs 301 0 t) := by show _ = _; rw [HZ0.out, normS, if_pos h0]; rfl
    have Hro := hide (rules_ok hrs)
    have Hrs := hide hrs
    have Ht := hide ht
    rw [h0]
    have Hcg := hide cg
    clear h0 hrs ht HZ0 cg
    go_wp2_with fail
    go_loopw [22] (fun nv wr => ∃ (n : Nat) (x : T) (ax : Option Addr) (cx : Nat), n ≤ 301 ∧ nv = .int .i64 n ∧ Hid (Z = normF rs (301 - n) n x) ∧ Hid (x.sz ≤ 120 ∧ okP ar x) ∧ Three wr (w.heap.size + 1) (.int .i64 x.v) (.int .i64 x.f) (.slice ax x.args.length cx) ∧ Hid (InP (fun k => k ≠ w.heap.size + 1 ∧ k ≠ w.heap.size + 1 + 1) wr x.args ax) ∧ Hid (Below w.heap.size w wr) ∧ Three wr (w.heap.size + 1 + 1) (.int .i64 0) (.int .i64 0) (.slice none 0 0) ∧ wr.cell? ⟨w.heap.size, 0, none⟩ = some (.slice ga ar.length gcap)) (fun nv _ => 301 - (intOf nv).toNat)
    case atStart => exact ⟨0, t, a, cap, by omega, rfl, HZ, Ht, HT1.out, InP_imp (fun k hk => by have := hk.2; omega) (InP_below Hb1.out (InP_lt Hin.out)), Hb1, HR1.out, Hcg.out⟩
    case round =>
      obtain ⟨n, x, ax, cx, hn, rfl, HZn, Hx, h3, Hinx, Hbw, hR, cg⟩ := hrel
      have hzr := hR.lt
      by_cases hlt : n < 301
      · have HS := hide (step_any ar ga gcap rs ra rc x ax cx wr Hrs.out Hx.out (Ints_below Hbw.out Hg.out) (RulesP_below Hbw.out Hr.out) (InP_imp (fun _ _ => trivial) Hinx.out))
        have HRr := hide hR
        have H3r := hide h3
        obtain ⟨c0, c1, c2, _, _, _⟩ := h3
        have hnI : (n : Int) < 301 := by omega
        have Hcgr := hide cg
        have Hst : Hid (Z = if (stepSpec rs x).2.2 = 0 then (if (stepSpec rs x).2.1 = true then normF rs (301 - (n + 1)) (n + 1) (stepSpec rs x).1 else (x, n, 0)) else (zeroT, 0, 2)) := by
          show _ = _
          rw [HZn.out, show 301 - n = (301 - (n + 1)) + 1 by omega, normF]
        have Hsok := hide (fun h => step_ok Hro.out.2.2 Hx.out h)
        have Hsbad := hide (fun h => step_bad (rs := rs) (t := x) h)
        have Hsno := hide (fun h h2 => step_none (rs := rs) (t := x) h h2)
        clear HZn hR
        go_wp2_with fail
        refine HS.out.mono ?_
        rintro e w2 ⟨⟨a2, c2', rfl, hin2⟩, hb2⟩
        obtain ⟨S, hS⟩ : ∃ S, S = stepSpec rs x := ⟨_, rfl⟩
        rw [← hS] at hin2 Hst Hsok Hsbad Hsno ⊢
        have HR2 := hide (HRr.out.below hb2)
        have H32 := hide (H3r.out.below hb2)
        have Hb2 := hide (Hbw.out.trans (hb2.mono Hbw.out.size))
        have hz2 : w.heap.size + 1 + 1 < w2.heap.size := by have := hb2.size; omega
        have cg2 : w2.cell? ⟨w.heap.size, 0, none⟩ = some (.slice ga ar.length gcap) := by rw [hb2.cell (p := ⟨w.heap.size, 0, none⟩) (show w.heap.size < wr.heap.size by omega)]; exact Hcgr.out
        have Hin2 := hide hin2
        have Hcg2 := hide cg2
        clear hin2 hb2 HS hS c0 c1 c2 cg cg2 HRr H3r Hcgr Hinx
        obtain ⟨y, B, E⟩ := S
        simp only at Hst Hsok Hsbad Hsno Hin2 ⊢
        by_cases hE : E = 0
        · subst hE
          cases B with
          | true =>
            have Hst2 : Hid (Z = normF rs (301 - (n + 1)) (n + 1) y) := by show _ = _; rw [Hst.out]; simp
            have Hy := hide (Hsok.out rfl)
            obtain ⟨x0, x1, x2, xf0, xf1, xf2⟩ := H32.out
            have hz2b : w.heap.size + 1 < w2.heap.size := by omega
            have HX := hide (fun o1 => (H32.out.alloc o1).set (.int .i64 y.v) (.int .i64 y.f) (.slice a2 y.args.length c2'))
            clear Hst Hsok Hsbad Hsno
            go_wp2_with fail
            go_roundw
            case rel =>
              refine ⟨n + 1, y, a2, c2', by omega, by go_num, Hst2, Hy, (H32.out.set _ _ _).alloc _, ?_, ?_, ?_, ?_⟩
              · exact InP_alloc _ (InP_same (p := fun k => k ≠ w.heap.size + 1 ∧ k ≠ w.heap.size + 1 + 1) (fun k hk _ => set3_block (b := w.heap.size + 1) (off := 0) hk.1) (InP_imp (p := fun k => wr.heap.size ≤ k) (fun k hk => by omega) Hin2.out))
              · exact (below_set3 (b := w.heap.size + 1) (off := 0) Hb2.out (by omega) _ _ _).alloc (by rw [set3_size]; omega) _
              · exact (HR2.out.same (set3_block (b := w.heap.size + 1) (off := 0) (by omega))).alloc _
              · rw [cell_alloc_lt (by simp [World.setCell]; omega), World.cell?_of_block (w := w2) (a := ⟨w.heap.size, 0, none⟩) (set3_block (b := w.heap.size + 1) (off := 0) (show w.heap.size ≠ w.heap.size + 1 by omega))]
                exact Hcg2.out
            case measure => simp [intOf]; omega
          | false =>
            have hy := Hsno.out rfl rfl
            simp only [Prod.mk.injEq, and_true] at hy
            subst hy
            have Hst2 : Hid (Z = (y, n, 0)) := by show _ = _; rw [Hst.out]; simp
            obtain ⟨d0, d1, d2, f0, f1, f2⟩ := HR2.out
            clear Hst Hsok Hsbad Hsno
            go_wp2_with fail
            exact bodyPost_ret (v := .tuple #[.agg #[.int .i64 y.v, .int .i64 y.f, .slice a2 y.args.length c2'], .int .i64 (n : Int), .int .i64 0]) (by simp [results, Try.results11, go_sem, d0, d1, d2, hz2]) rfl
              ⟨by rw [Hst2.out]; exact ⟨a2, c2', rfl, InP_imp (p := fun k => wr.heap.size ≤ k) (fun k hk => by omega) (InP_alloc _ (InP_same (fun k hk _ => set3_block (b := w.heap.size + 1 + 1) (off := 0) (by omega)) Hin2.out))⟩, (below_set3 Hb2.out (by omega) _ _ _).alloc (by rw [set3_size]; omega) _⟩
        · have hb := Hsbad.out hE
          simp only [Prod.mk.injEq] at hb
          obtain ⟨rfl, rfl, rfl⟩ := hb
          have Hst2 : Hid (Z = (zeroT, 0, 2)) := by show _ = _; rw [Hst.out]; simp
          obtain ⟨d0, d1, d2, f0, f1, f2⟩ := HR2.out
          clear Hst Hsok Hsbad Hsno hE
          simp only [zeroT, List.length_nil]
          go_wp2_with fail
          exact bodyPost_ret (v := .tuple #[.agg #[.int .i64 0, .int .i64 0, .slice none 0 0], .int .i64 0, .int .i64 2]) (by simp [results, Try.results11, go_sem, d0, d1, d2, hz2]) rfl
            ⟨by rw [Hst2.out]; exact ⟨none, 0, rfl, InP_nil⟩, (below_set3 Hb2.out (by omega) _ _ _).alloc (by rw [set3_size]; omega) _⟩
      · have hn2 : n = 301 := by omega
        subst hn2
        have Hst2 : Hid (Z = (zeroT, 0, 2)) := by show _ = _; rw [HZn.out]; rfl
        obtain ⟨d0, d1, d2, f0, f1, f2⟩ := hR
        clear HZn h3
        go_wp2_with fail
        exact bodyPost_ret (v := .tuple #[.agg #[.int .i64 0, .int .i64 0, .slice none 0 0], .int .i64 0, .int .i64 2]) (by simp [results, Try.results11, go_sem, d0, d1, d2]) rfl
          ⟨by rw [Hst2.out]; exact ⟨none, 0, rfl, InP_nil⟩, below_set3 Hbw.out (by omega) _ _ _⟩
  · have h0b : (rtErr ar rs t != 0) = true := by simpa using h0
    have Hsp : Hid (Z = (zeroT, 0, rtErr ar rs t)) := by show _ = _; rw [HZ0.out, normS, if_neg h0]
    obtain ⟨d0, d1, d2, f0, f1, f2⟩ := HR1.out
    obtain ⟨c0, c1, c2, _, _, _⟩ := HT1.out
    clear h0 HZ0
    generalize rtErr ar rs t = err at *
    go_wp2_with fail
    exact bodyPost_ret (v := .tuple #[.agg #[.int .i64 0, .int .i64 0, .slice none 0 0], .int .i64 0, .int .i64 err]) (by simp [results, Try.results11, go_sem, d0, d1, d2]) rfl
      ⟨by rw [Hsp.out]; exact ⟨none, 0, rfl, InP_nil⟩, below_set3 Hb1.out (by omega) _ _ _⟩

end Go.Proofs.Ytbkedppkdhfpoab

namespace Go.Proofs.Ytbkedppkdhfpoab

/-- A lesser argument makes a lesser term. -/
theorem gt_set {ar : List Int} {s a b : T} {i : Nat} (hs : okP ar s) (hs2 : okP ar ⟨s.v, s.f, s.args.set i b⟩) (hi : s.args[i]? = some a) (hb : okP ar b) (h : gt a b = true) : gt s ⟨s.v, s.f, s.args.set i b⟩ = true := by
  have hlt := (List.getElem?_eq_some_iff.1 hi).1
  have ha := List.mem_of_getElem? hi
  have hv := v_of_arg hs ha
  refine (gt_iff hs hs2).2 ?_
  have hne : a ≠ b := fun e => by rw [e, gt_irr hb] at h; cases h
  refine Or.inr ⟨hv, hv, Int.le_refl _, fun c hc => ?_, Or.inr ⟨rfl, firstN_iff.2 ⟨i, a, b, hi, by simp [hlt], hne, h, fun j hj => ?_⟩⟩⟩
  · rcases List.mem_or_eq_of_mem_set hc with hc | hc
    · exact gt_arg hs hc
    · rw [hc]; exact gt_trans hs (okArg hs ha) hb (gt_arg hs ha) h
  · show s.args[j]? = (s.args.set i b)[j]?
    rw [List.getElem?_set_ne (by omega)]
/-- So it is at any place. -/
theorem gt_put {ar : List Int} {z : T} (hz : okP ar z) : ∀ {p : List Int} {t c : T}, okP ar t → atT t p = some c → gt c z = true → gt t (putT z t p) = true := by
  intro p
  induction p with
  | nil =>
    intro t c _ hat h
    rw [atT] at hat
    cases hat
    rw [putT]; exact h
  | cons i p ih =>
    intro t c ht hat h
    have hat0 := hat
    rw [atT] at hat
    by_cases hi : 0 ≤ i ∧ i < t.args.length
    · rw [if_pos hi] at hat
      obtain ⟨d, hd, hc⟩ := Option.bind_eq_some_iff.1 hat
      have hdo := okArg ht (List.mem_of_getElem? hd)
      rw [putT_at hd]
      have h2 := ih hdo hc h
      have h3 := okP_put hz hat0 ht
      rw [putT_at hd] at h3
      exact gt_set ht h3 hd (okP_put hz hc hdo) h2
    · rw [if_neg hi] at hat; cases hat

/-- Bindings that are there stay, while others come. -/
theorem grow_more : ∀ (n : Nat), (∀ (p t : T) (bs b2 : List (Int × T)), p.sz ≤ n → growT p t bs = some b2 → ∃ r, b2 = bs ++ r) ∧
    (∀ (ps ts : List T) (bs b2 : List (Int × T)), T.sz.szL ps ≤ n → growT.growL ps ts bs = some b2 → ∃ r, b2 = bs ++ r) := by
  intro n
  induction n with
  | zero =>
    refine ⟨fun p t bs b2 h => by have := p.sz_pos; omega, fun ps ts bs b2 h hg => ?_⟩
    cases ps with
    | nil =>
      cases ts with
      | nil => simp [growT.growL] at hg; exact ⟨[], by rw [hg, List.append_nil]⟩
      | cons t ts => cases hg
    | cons p ps => have := p.sz_pos; rw [T.szL_cons] at h; omega
  | succ n ih =>
    have h1 : ∀ (p t : T) (bs b2 : List (Int × T)), p.sz ≤ n + 1 → growT p t bs = some b2 → ∃ r, b2 = bs ++ r := by
      intro p t bs b2 h hg
      have hpe := T.sz_eq p
      rw [growT_eq] at hg
      by_cases hv : p.v ≠ 0
      · rw [if_pos hv] at hg
        cases hl : lookB bs p.v with
        | some u =>
          rw [hl] at hg
          by_cases hs : sameT u t = true
          · simp only [hs, if_true, Option.some.injEq] at hg
            exact ⟨[], by rw [hg, List.append_nil]⟩
          · simp only [hs] at hg; cases hg
        | none =>
          rw [hl] at hg
          simp only [Option.some.injEq] at hg
          exact ⟨_, hg.symm⟩
      · rw [if_neg hv] at hg
        by_cases h2 : t.v ≠ 0 ∨ p.f ≠ t.f
        · rw [if_pos h2] at hg; cases hg
        · rw [if_neg h2] at hg
          exact ih.2 p.args t.args bs b2 (by omega) hg
    refine ⟨h1, ?_⟩
    intro ps
    induction ps with
    | nil =>
      intro ts bs b2 _ hg
      cases ts with
      | nil => simp [growT.growL] at hg; exact ⟨[], by rw [hg, List.append_nil]⟩
      | cons t ts => cases hg
    | cons p ps ihp =>
      intro ts bs b2 h hg
      rw [T.szL_cons] at h
      cases ts with
      | nil => cases hg
      | cons t ts =>
        rw [growL_cons] at hg
        cases hb : growT p t bs with
        | none => rw [hb] at hg; cases hg
        | some b1 =>
          rw [hb] at hg
          obtain ⟨r1, rfl⟩ := h1 p t bs b1 (by omega) hb
          obtain ⟨r2, rfl⟩ := ihp ts _ b2 (by omega) hg
          exact ⟨r1 ++ r2, by rw [List.append_assoc]⟩
theorem lookB_append {bs r : List (Int × T)} {v : Int} {u : T} (h : lookB bs v = some u) : lookB (bs ++ r) v = some u := by
  induction bs with
  | nil => cases h
  | cons x bs ih =>
    obtain ⟨k, y⟩ := x
    rw [List.cons_append, lookB]
    rw [lookB] at h
    by_cases hk : k = v
    · rw [if_pos hk] at h ⊢; exact h
    · rw [if_neg hk] at h ⊢; exact ih h
theorem lookB_last {bs : List (Int × T)} {v : Int} {u : T} (h : lookB bs v = none) : lookB (bs ++ [(v, u)]) v = some u := by
  induction bs with
  | nil => simp [lookB]
  | cons x bs ih =>
    obtain ⟨k, y⟩ := x
    rw [List.cons_append, lookB]
    rw [lookB] at h
    by_cases hk : k = v
    · rw [if_pos hk] at h; cases h
    · rw [if_neg hk] at h ⊢; exact ih h
/-- What is matched, applied, is the other one, by whatever more is bound. -/
theorem grow_apply {ar : List Int} : ∀ (n : Nat), (∀ (p t : T) (bs b2 r : List (Int × T)), p.sz ≤ n → okP ar p → okP ar t → growT p t bs = some b2 → applyT (b2 ++ r) p = t) ∧
    (∀ (ps ts : List T) (bs b2 r : List (Int × T)), T.sz.szL ps ≤ n → okP.okL ar ps → okP.okL ar ts → growT.growL ps ts bs = some b2 → ps.map (applyT (b2 ++ r)) = ts) := by
  intro n
  induction n with
  | zero =>
    refine ⟨fun p t bs b2 r h => by have := p.sz_pos; omega, fun ps ts bs b2 r h _ _ hg => ?_⟩
    cases ps with
    | nil =>
      cases ts with
      | nil => rfl
      | cons t ts => cases hg
    | cons p ps => have := p.sz_pos; rw [T.szL_cons] at h; omega
  | succ n ih =>
    have h1 : ∀ (p t : T) (bs b2 r : List (Int × T)), p.sz ≤ n + 1 → okP ar p → okP ar t → growT p t bs = some b2 → applyT (b2 ++ r) p = t := by
      intro p t bs b2 r h hp ht hg
      have hpe := T.sz_eq p
      have hpv := okP_v hp
      rw [growT_eq] at hg
      by_cases hv : p.v ≠ 0
      · rw [if_pos hv] at hg
        have hput : ∀ u, lookB b2 p.v = some u → applyT (b2 ++ r) p = u := fun u hu => applyT_some (by rw [putIn, if_pos (by omega)]; exact lookB_append hu)
        cases hl : lookB bs p.v with
        | some u =>
          rw [hl] at hg
          by_cases hs : sameT u t = true
          · simp only [hs, if_true, Option.some.injEq] at hg
            subst hg
            rw [hput u hl]; exact sameT_iff.1 hs
          · simp only [hs] at hg; cases hg
        | none =>
          rw [hl] at hg
          simp only [Option.some.injEq] at hg
          subst hg
          exact hput t (lookB_last hl)
      · rw [if_neg hv] at hg
        have hv0 : p.v = 0 := by omega
        by_cases h2 : t.v ≠ 0 ∨ p.f ≠ t.f
        · rw [if_pos h2] at hg; cases hg
        · rw [if_neg h2] at hg
          have h3 := ih.2 p.args t.args bs b2 r (by omega) (okP_iff.1 hp).2 (okP_iff.1 ht).2 hg
          rw [applyT_fn hv0, h3]
          have h4 : t.v = 0 := by omega
          have h5 : p.f = t.f := by omega
          cases t
          simp only at h4 h5
          rw [h5, h4]
    refine ⟨h1, ?_⟩
    intro ps
    induction ps with
    | nil =>
      intro ts bs b2 r _ _ _ hg
      cases ts with
      | nil => rfl
      | cons t ts => cases hg
    | cons p ps ihp =>
      intro ts bs b2 r h hp ht hg
      rw [T.szL_cons] at h
      cases ts with
      | nil => cases hg
      | cons t ts =>
        rw [growL_cons] at hg
        cases hb : growT p t bs with
        | none => rw [hb] at hg; cases hg
        | some b1 =>
          rw [hb] at hg
          obtain ⟨r2, hr2⟩ := (grow_more _).2 ps ts b1 b2 (Nat.le_refl _) hg
          have h6 := ihp ts b1 b2 r (by omega) (okL_cons.1 hp).2 (okL_cons.1 ht).2 hg
          rw [List.map_cons, h6]
          rw [hr2, List.append_assoc, h1 p t bs b1 (r2 ++ r) (by omega) (okL_cons.1 hp).1 (okL_cons.1 ht).1 hb]
/-- A step makes a lesser term. -/
theorem step_falls {ar : List Int} {rs : List (T × T)} {t : T} (hr : RulesOk ar rs) (ht : t.sz ≤ 120 ∧ okP ar t) (h : (stepSpec rs t).2.2 = 0) (h2 : (stepSpec rs t).2.1 = true) : gt t (stepSpec rs t).1 = true := by
  rw [stepSpec] at h h2 ⊢
  cases hf : findR rs t with
  | none => rw [hf] at h2; cases h2
  | some r =>
    obtain ⟨p, y, bs⟩ := r
    rw [hf] at h h2
    obtain ⟨u, g1, g2, _⟩ := findR_place t.sz t _ (Nat.le_refl _) hf
    obtain ⟨x, b, hx, rfl, hg, rfl⟩ := hitR_rule g2
    have hu : u.sz ≤ 120 ∧ okP ar u := ⟨by have := atT_sz g1; omega, okP_at g1 ht.2⟩
    have hxo := hr x hx
    have hb := grow_binds hxo.1.2 hu hg
    have hb2 : ∀ v z, (v, z) ∈ sortB b → okP ar z := fun v z hz => (hb.1 _ (sortB_mem hz)).2
    have happ : applyT (sortB b) x.1 = u := by
      have h9 := (grow_apply (ar := ar) x.1.sz).1 x.1 u [] b [] (Nat.le_refl _) hxo.1.2 hu.2 hg
      rw [List.append_nil] at h9
      rw [applyT_sortB]; exact h9
    have hgt := gt_stable hb2 hxo.1.2 hxo.2.1.2 hxo.2.2
    rw [happ] at hgt
    simp only [madeR] at h h2 ⊢
    by_cases h7 : 120 < (applyT (sortB b) x.2).sz
    · rw [if_pos h7] at h; cases h
    · rw [if_neg h7] at h h2 ⊢
      by_cases h8 : 120 < (putT (applyT (sortB b) x.2) t p).sz
      · rw [if_pos h8] at h; cases h
      · rw [if_neg h8]
        exact gt_put (okP_apply hb2 hxo.2.1.2) ht.2 g1 hgt
/-- What is normal stays as it is. -/
theorem norm_stays {rs : List (T × T)} : ∀ (k n : Nat) (t : T), (normF rs k n t).2.2 = 0 → stepSpec rs (normF rs k n t).1 = ((normF rs k n t).1, false, 0) ∧ n ≤ (normF rs k n t).2.1 ∧ (stepSpec rs t).2.2 = 0 ∧ (n < (normF rs k n t).2.1 ↔ (stepSpec rs t).2.1 = true) := by
  intro k
  induction k with
  | zero => intro n t h; cases h
  | succ k ih =>
    intro n t h
    rw [normF] at h ⊢
    by_cases h1 : (stepSpec rs t).2.2 = 0
    · rw [if_pos h1] at h ⊢
      by_cases h2 : (stepSpec rs t).2.1 = true
      · rw [if_pos h2] at h ⊢
        obtain ⟨g1, g2, g3, g4⟩ := ih (n + 1) _ h
        exact ⟨g1, by omega, h1, ⟨fun _ => h2, fun _ => by omega⟩⟩
      · rw [if_neg h2] at h ⊢
        refine ⟨step_none h1 (by simpa using h2), Nat.le_refl _, h1, ⟨fun h => absurd h (Nat.lt_irrefl _), fun h => absurd h h2⟩⟩
    · rw [if_neg h1] at h; cases h

theorem norm_ok {ar : List Int} {rs : List (T × T)} (hr : RulesOk ar rs) : ∀ (k n : Nat) (t : T), t.sz ≤ 120 ∧ okP ar t → (normF rs k n t).2.2 = 0 → (normF rs k n t).1.sz ≤ 120 ∧ okP ar (normF rs k n t).1 := by
  intro k
  induction k with
  | zero => intro n t _ h; cases h
  | succ k ih =>
    intro n t ht h
    rw [normF] at h ⊢
    by_cases h1 : (stepSpec rs t).2.2 = 0
    · rw [if_pos h1] at h ⊢
      by_cases h2 : (stepSpec rs t).2.1 = true
      · rw [if_pos h2] at h ⊢
        exact ih (n + 1) _ (step_ok hr ht h1) h
      · rw [if_neg h2]; exact ht
    · rw [if_neg h1] at h; cases h

end Go.Proofs.Ytbkedppkdhfpoab
