/- The walk of the statement on what is put and put back. A list of terms of the call's own, and what lies behind each of them. The document's own Put. The statement's own look at a term and an error; what At and Put answer, case by case. -/
import Derived.Deep.RegionLaw
import Derived.Test.YtbkedppkdhfpoaaJoined4
namespace Go.Proofs.Ytbkedppkdhfpoaa
open Go.RowKit

/-- What is put is there. -/
theorem atT_putT {u : T} : ∀ {p : List Int} {t c : T}, atT t p = some c → atT (putT u t p) p = some u := by
  intro p
  induction p with
  | nil => intro t c _; rfl
  | cons i p ih =>
    intro t c h
    rw [atT] at h
    by_cases hi : 0 ≤ i ∧ i < t.args.length
    · rw [if_pos hi] at h
      obtain ⟨d, hd, hc⟩ := Option.bind_eq_some_iff.1 h
      rw [putT_at hd, atT]
      have hlt : i.toNat < t.args.length := by omega
      have h2 : 0 ≤ i ∧ i < ((⟨t.v, t.f, t.args.set i.toNat (putT u d p)⟩ : T).args.length : Int) := by simpa using hi
      rw [if_pos h2]
      show ((t.args.set i.toNat (putT u d p))[i.toNat]?).bind _ = _
      rw [List.getElem?_set_self (by omega)]
      exact ih hc
    · rw [if_neg hi] at h; cases h

/-- What was there put back makes what it was. -/
theorem putT_putT {u : T} : ∀ {p : List Int} {t c : T}, atT t p = some c → putT c (putT u t p) p = t := by
  intro p
  induction p with
  | nil =>
    intro t c h
    simp only [atT, Option.some.injEq] at h
    subst h; rfl
  | cons i p ih =>
    intro t c h
    rw [atT] at h
    by_cases hi : 0 ≤ i ∧ i < t.args.length
    · rw [if_pos hi] at h
      obtain ⟨d, hd, hc⟩ := Option.bind_eq_some_iff.1 h
      rw [putT_at hd]
      have hlt : i.toNat < t.args.length := by omega
      rw [putT_at (t := ⟨t.v, t.f, t.args.set i.toNat (putT u d p)⟩) (c := putT u d p) (List.getElem?_set_self (by omega)), ih hc]
      have hd2 : t.args[i.toNat] = d := by
        rw [List.getElem?_eq_getElem hlt] at hd
        exact Option.some.inj hd
      cases t
      simp only [List.set_set]
      congr 1
      rw [← hd2, List.set_getElem_self]
    · rw [if_neg hi] at h; cases h

/-- How big what is put is. -/
theorem putT_sz {u : T} : ∀ {p : List Int} {t c : T}, atT t p = some c → (putT u t p).sz + c.sz = t.sz + u.sz := by
  intro p
  induction p with
  | nil =>
    intro t c h
    simp only [atT, Option.some.injEq] at h
    subst h
    show u.sz + t.sz = _
    omega
  | cons i p ih =>
    intro t c h
    rw [atT] at h
    by_cases hi : 0 ≤ i ∧ i < t.args.length
    · rw [if_pos hi] at h
      obtain ⟨d, hd, hc⟩ := Option.bind_eq_some_iff.1 h
      rw [putT_at hd]
      have hlt : i.toNat < t.args.length := by omega
      have h1 := ih hc
      have h2 : T.sz.szL (t.args.set i.toNat (putT u d p)) + d.sz = T.sz.szL t.args + (putT u d p).sz := by
        have e1 : t.args.set i.toNat (putT u d p) = t.args.take i.toNat ++ putT u d p :: t.args.drop (i.toNat + 1) := List.set_eq_take_append_cons_drop.trans (by rw [if_pos hlt])
        have e2 : t.args = t.args.take i.toNat ++ d :: t.args.drop (i.toNat + 1) := by
          have hd2 : t.args[i.toNat] = d := by
            rw [List.getElem?_eq_getElem hlt] at hd
            exact Option.some.inj hd
          rw [← hd2, List.getElem_cons_drop, List.take_append_drop]
        have e3 : T.sz.szL t.args = T.sz.szL (t.args.take i.toNat) + (d.sz + T.sz.szL (t.args.drop (i.toNat + 1))) := by
          rw [← T.szL_cons, ← T.szL_append, ← e2]
        rw [e1, T.szL_append, T.szL_cons, e3]; omega
      rw [T.sz_eq, T.sz_eq t]
      show 1 + T.sz.szL (t.args.set i.toNat (putT u d p)) + c.sz = _
      omega
    · rw [if_neg hi] at h; cases h

/-- Every part is right. -/
def okP (ar : List Int) : T → Prop
  | ⟨v, f, args⟩ => partErr ar v f args.length = 0 ∧ okL args
  where
  okL : List T → Prop
    | [] => True
    | t :: ts => okP ar t ∧ okL ts
theorem okP_iff {ar : List Int} {t : T} : okP ar t ↔ partErr ar t.v t.f t.args.length = 0 ∧ okP.okL ar t.args := by cases t; exact Iff.rfl
theorem okL_cons {ar : List Int} {t : T} {ts : List T} : okP.okL ar (t :: ts) ↔ okP ar t ∧ okP.okL ar ts := Iff.rfl
theorem okL_mem {ar : List Int} {ts : List T} : okP.okL ar ts ↔ ∀ t, t ∈ ts → okP ar t := by
  induction ts with
  | nil => simp [okP.okL]
  | cons t ts ih => rw [okL_cons, ih]; simp

theorem look_ok {ar : List Int} : ∀ (n : Nat), (∀ (t : T) (s : Int), t.sz ≤ n → okP ar t → lookT (partStep ar) s t = (0, true)) ∧ (∀ (ts : List T) (s : Int), T.sz.szL ts ≤ n → okP.okL ar ts → ∃ s', lookT.lookL (partStep ar) s ts = (s', true) ∧ (ts ≠ [] → s' = 0)) := by
  intro n
  induction n with
  | zero =>
    refine ⟨fun t s hn => by have := t.sz_pos; omega, fun ts s hn _ => ?_⟩
    cases ts with
    | nil => exact ⟨s, rfl, fun h => absurd rfl h⟩
    | cons t ts => have := t.sz_pos; rw [T.szL_cons] at hn; omega
  | succ n ih =>
    have h1 : ∀ (t : T) (s : Int), t.sz ≤ n + 1 → okP ar t → lookT (partStep ar) s t = (0, true) := fun t s hn hok => by
      rw [T.sz_eq] at hn
      obtain ⟨hp, hl⟩ := okP_iff.1 hok
      obtain ⟨s', hs', _⟩ := ih.2 t.args s (by omega) hl
      rw [lookT_eq, hs']
      simp [partStep, hp]
    refine ⟨h1, fun ts => ?_⟩
    induction ts with
    | nil => intro s _ _; exact ⟨s, rfl, fun h => absurd rfl h⟩
    | cons t ts iht =>
      intro s hn hok
      rw [T.szL_cons] at hn
      obtain ⟨hp, hl⟩ := okL_cons.1 hok
      rw [lookL_cons, h1 t s (by omega) hp]
      obtain ⟨s', hs', h0⟩ := iht 0 (by omega) hl
      refine ⟨s', by simpa using hs', fun _ => ?_⟩
      cases ts with
      | nil => rw [lookL_nil] at hs'; simp at hs'; exact hs'.symm
      | cons a b => exact h0 (by simp)

theorem look_not {ar : List Int} : ∀ (n : Nat), (∀ (t : T) (s : Int), t.sz ≤ n → ((lookT (partStep ar) s t).2 = true → okP ar t) ∧ ((lookT (partStep ar) s t).2 = false → (lookT (partStep ar) s t).1 ≠ 0)) ∧
    (∀ (ts : List T) (s : Int), T.sz.szL ts ≤ n → ((lookT.lookL (partStep ar) s ts).2 = true → okP.okL ar ts) ∧ ((lookT.lookL (partStep ar) s ts).2 = false → (lookT.lookL (partStep ar) s ts).1 ≠ 0)) := by
  intro n
  induction n with
  | zero =>
    refine ⟨fun t s hn => by have := t.sz_pos; omega, fun ts s hn => ?_⟩
    cases ts with
    | nil => exact ⟨fun _ => trivial, fun h => by cases h⟩
    | cons t ts => have := t.sz_pos; rw [T.szL_cons] at hn; omega
  | succ n ih =>
    have h1 : ∀ (t : T) (s : Int), t.sz ≤ n + 1 → ((lookT (partStep ar) s t).2 = true → okP ar t) ∧ ((lookT (partStep ar) s t).2 = false → (lookT (partStep ar) s t).1 ≠ 0) := fun t s hn => by
      rw [T.sz_eq] at hn
      obtain ⟨h2, h3⟩ := ih.2 t.args s (by omega)
      rw [lookT_eq]
      by_cases h : (lookT.lookL (partStep ar) s t.args).2 = false
      · rw [if_pos h]
        exact ⟨fun h' => (by cases h'), fun _ => h3 h⟩
      · rw [if_neg h]
        have hl := h2 (by simpa using h)
        refine ⟨fun h' => okP_iff.2 ⟨by simpa [partStep] using h', hl⟩, fun h' => by simpa [partStep] using h'⟩
    refine ⟨h1, fun ts => ?_⟩
    induction ts with
    | nil => intro s _; exact ⟨fun _ => trivial, fun h => by cases h⟩
    | cons t ts iht =>
      intro s hn
      rw [T.szL_cons] at hn
      obtain ⟨h2, h3⟩ := h1 t s (by omega)
      obtain ⟨h4, h5⟩ := iht (lookT (partStep ar) s t).1 (by omega)
      rw [lookL_cons]
      by_cases h : (lookT (partStep ar) s t).2 = false
      · rw [if_pos h]
        exact ⟨fun h' => (by cases h'), fun _ => h3 h⟩
      · rw [if_neg h]
        exact ⟨fun h' => okL_cons.2 ⟨h2 (by simpa using h), h4 h'⟩, h5⟩

theorem termErr_iff {ar : List Int} {t : T} : termErr ar t = 0 ↔ t.sz ≤ 120 ∧ okP ar t := by
  rw [termErr]
  by_cases h : 120 < t.sz
  · rw [if_pos h]; constructor
    · intro h'; cases h'
    · intro h'; omega
  · rw [if_neg h]
    constructor
    · intro h'
      refine ⟨by omega, ?_⟩
      obtain ⟨h2, h3⟩ := (look_not (ar := ar) _).2 [t] 0 (Nat.le_refl _)
      rcases Bool.eq_false_or_eq_true (lookT.lookL (partStep ar) 0 [t]).2 with h4 | h4
      · exact (okL_cons.1 (h2 h4)).1
      · exact absurd h' (h3 h4)
    · intro h'
      obtain ⟨s', hs', h0⟩ := (look_ok (ar := ar) _).2 [t] 0 (Nat.le_refl _) (okL_cons.2 ⟨h'.2, trivial⟩)
      rw [hs', h0 (by simp)]

theorem allErr_iff {ar : List Int} {ts : List T} : allErr ar ts = 0 ↔ sigErr ar = 0 ∧ ∀ t, t ∈ ts → t.sz ≤ 120 ∧ okP ar t := by
  have h1 : termsErr ar ts = 0 ↔ ∀ t, t ∈ ts → t.sz ≤ 120 ∧ okP ar t := by
    induction ts with
    | nil => simp [termsErr]
    | cons t ts ih =>
      rw [termsErr]
      by_cases h : termErr ar t = 0
      · rw [if_pos h, ih]; simp [termErr_iff.1 h]
      · rw [if_neg h]
        constructor
        · intro h'; exact absurd h' h
        · intro h'; exact absurd (termErr_iff.2 (h' t (by simp))) h
  rw [allErr]
  by_cases hs : sigErr ar = 0
  · rw [if_pos hs, h1]; simp [hs]
  · rw [if_neg hs]; simp [hs]

theorem okP_at {ar : List Int} : ∀ {p : List Int} {t c : T}, atT t p = some c → okP ar t → okP ar c := by
  intro p
  induction p with
  | nil => intro t c h hok; simp only [atT, Option.some.injEq] at h; subst h; exact hok
  | cons i p ih =>
    intro t c h hok
    rw [atT] at h
    by_cases hi : 0 ≤ i ∧ i < t.args.length
    · rw [if_pos hi] at h
      obtain ⟨d, hd, hc⟩ := Option.bind_eq_some_iff.1 h
      exact ih hc (okL_mem.1 (okP_iff.1 hok).2 d (List.mem_of_getElem? hd))
    · rw [if_neg hi] at h; cases h

theorem okP_put {ar : List Int} {u : T} (hu : okP ar u) : ∀ {p : List Int} {t c : T}, atT t p = some c → okP ar t → okP ar (putT u t p) := by
  intro p
  induction p with
  | nil => intro t c _ _; exact hu
  | cons i p ih =>
    intro t c h hok
    rw [atT] at h
    by_cases hi : 0 ≤ i ∧ i < t.args.length
    · rw [if_pos hi] at h
      obtain ⟨d, hd, hc⟩ := Option.bind_eq_some_iff.1 h
      obtain ⟨hp, hl⟩ := okP_iff.1 hok
      rw [putT_at hd]
      refine okP_iff.2 ⟨?_, okL_mem.2 fun x hx => ?_⟩
      · show partErr ar t.v t.f (t.args.set i.toNat (putT u d p)).length = 0
        rw [List.length_set]; exact hp
      · rcases List.mem_or_eq_of_mem_set hx with hx | rfl
        · exact okL_mem.1 hl x hx
        · exact ih hc (okL_mem.1 hl d (List.mem_of_getElem? hd))
    · rw [if_neg hi] at h; cases h

theorem back_facts {ar : List Int} {t u : T} {place : List Int} (h1 : (atSpec ar t place).2 = 0) (h2 : (putSpec ar t place u).2 = 0) :
    ∃ c, atSpec ar t place = (c, 0) ∧ putSpec ar t place u = (putT u t place, 0) ∧ atSpec ar (putT u t place) place = (u, 0) ∧ putSpec ar (putT u t place) place c = (t, 0) ∧ u.sz ≤ 120 ∧ t.sz ≤ 120 := by
  have h3 : allErr ar [t, u] = 0 := by
    rcases Classical.em (allErr ar [t, u] = 0) with h | h
    · exact h
    · rw [putSpec, if_neg h] at h2; exact h2
  have hx := allErr_iff.1 h3
  have ht := hx.2 t (by simp)
  have hu := hx.2 u (by simp)
  have h4 : allErr ar [t] = 0 := allErr_iff.2 ⟨hx.1, fun x hx' => by simp at hx'; subst hx'; exact ht⟩
  rw [putSpec, if_pos h3] at h2
  cases hat : atT t place with
  | none => rw [hat] at h2; cases h2
  | some c =>
    rw [hat] at h2
    have h5 : ¬ 120 < (t.sz : Int) - c.sz + u.sz := by
      intro h
      simp only [if_pos h] at h2
      cases h2
    have hsz := putT_sz (u := u) hat
    have hc := atT_sz hat
    have hokx := okP_put hu.2 hat ht.2
    have hxok : (putT u t place).sz ≤ 120 ∧ okP ar (putT u t place) := ⟨by omega, hokx⟩
    have hcok : c.sz ≤ 120 ∧ okP ar c := ⟨by omega, okP_at hat ht.2⟩
    refine ⟨c, ?_, ?_, ?_, ?_, hu.1, ht.1⟩
    · rw [atSpec, if_pos h4, hat]
    · rw [putSpec, if_pos h3, hat]; simp only [if_neg h5]
    · rw [atSpec, if_pos (allErr_iff.2 ⟨hx.1, fun x hx' => by simp at hx'; subst hx'; exact hxok⟩), atT_putT hat]
    · rw [putSpec, if_pos (allErr_iff.2 ⟨hx.1, fun x hx' => by
        simp at hx'
        rcases hx' with rfl | rfl
        · exact hxok
        · exact hcok⟩), atT_putT hat]
      have h6 : ¬ 120 < ((putT u t place).sz : Int) - u.sz + c.sz := by omega
      simp only [if_neg h6, putT_putT hat]

set_option maxRecDepth 100000 in
set_option maxHeartbeats 1000000 in
theorem TermBack_any (ar : List Int) (ga : Option Addr) (gcap : Nat) (t : T) (a : Option Addr) (cap : Nat) (place : List Int) (pa : Option Addr) (pcap : Nat) (u : T) (a2 : Option Addr) (cap2 : Nat) (w : World) (hg : Ints w ar ga) (hin : InL w t.args a) (hp : Ints w place pa)
    (hin2 : InL w u.args a2) (hl : place.length ≤ 9223372036854775807) :
    Calls Try.prog 5 #[.agg #[.slice ga ar.length gcap], .agg #[.int .i64 t.v, .int .i64 t.f, .slice a t.args.length cap], .slice pa place.length pcap, .agg #[.int .i64 u.v, .int .i64 u.f, .slice a2 u.args.length cap2]] w fun e w' =>
      e = .returned (.bool true) ∧ Below w.heap.size w w' := by
  go_enter Try.func5, Try.ntmps5
  go_wp2_with fail
  refine (begun_any _).mono ?_
  rintro e w1 ⟨rfl, hb1⟩
  have hbw : Below w.heap.size w w1 := (((below1 _ _).alloc (by simp) _).alloc (by simp; omega) _).trans (hb1.mono (by simp; omega))
  have hz1 : w.heap.size + 3 ≤ w1.heap.size := by have := hb1.size; simp at this; omega
  have cg : w1.cell? ⟨w.heap.size, 0, none⟩ = some (.slice ga ar.length gcap) := by
    rw [hb1.cell (p := ⟨w.heap.size, 0, none⟩) (by simp; omega), cell_alloc_lt (by simp; omega), cell_alloc_lt (by simp), cell_new _ rfl]; rfl
  have h3t : Three w1 (w.heap.size + 1) (.int .i64 t.v) (.int .i64 t.f) (.slice a t.args.length cap) := ((Three.new _ (by simp)).alloc _).below hb1
  have h3u : Three w1 (w.heap.size + 1 + 1) (.int .i64 u.v) (.int .i64 u.f) (.slice a2 u.args.length cap2) := (Three.new _ (by simp)).below hb1
  have H3t := hide h3t
  have H3u := hide h3u
  obtain ⟨c0, c1, c2, _, _, _⟩ := h3t
  obtain ⟨d0, d1, d2, _, _, _⟩ := h3u
  clear hb1
  obtain ⟨z, k, hzk⟩ : ∃ z k, atSpec ar t place = (z, k) := ⟨_, _, rfl⟩
  obtain ⟨x, l, hxl⟩ : ∃ x l, putSpec ar t place u = (x, l) := ⟨_, _, rfl⟩
  have hA1 := At_any ar ga gcap t a cap place pa pcap w1 (Ints_below hbw hg) (InP_below hbw hin) (Ints_below hbw hp) hl
  rw [hzk] at hA1
  have HA1 := hide hA1
  have Hzk := hide hzk
  have Hxl := hide hxl
  clear hA1 hzk hxl
  go_wp2_with fail
  refine HA1.out.mono ?_
  rintro e w2 ⟨⟨a3, cap3, rfl, hin3⟩, hb2⟩
  have hz2 := hb2.size
  have hbw2 : Below w.heap.size w w2 := hbw.trans (hb2.mono (by omega))
  have cg2 : w2.cell? ⟨w.heap.size, 0, none⟩ = some (.slice ga ar.length gcap) := by rw [hb2.cell (p := ⟨w.heap.size, 0, none⟩) (show w.heap.size < w1.heap.size by omega)]; exact cg
  have H3t2 := hide (H3t.out.below hb2)
  have H3u2 := hide (H3u.out.below hb2)
  obtain ⟨e0, e1, e2, _, _, _⟩ := H3t2.out
  obtain ⟨f0, f1, f2, _, _, _⟩ := H3u2.out
  have hq0 : w.heap.size < w2.heap.size := by omega
  have hq1 : w.heap.size + 1 < w2.heap.size := by omega
  have hq2 : w.heap.size + 1 + 1 < w2.heap.size := by omega
  have hbz : ∀ o, Below w.heap.size w (w2.alloc o) := fun o => hbw2.alloc (by omega) o
  have hP1 : ∀ o, _ := fun o => Put_any ar ga gcap t a cap place pa pcap u a2 cap2 (w2.alloc o) (Ints_below (hbz o) hg) (InP_below (hbz o) hin) (Ints_below (hbz o) hp) (InP_below (hbz o) hin2) hl
  rw [Hxl.out] at hP1
  have HP1 := hide hP1
  clear hP1 hbz HA1 cg c0 c1 c2 d0 d1 d2
  simp only at hin3
  go_wp2_with fail
  refine (HP1.out _).mono ?_
  rintro e w3 ⟨⟨a4, cap4, rfl, hin4⟩, hb3⟩
  have hz3 := hb3.size
  simp at hz3
  have hb23 : Below w2.heap.size w2 w3 := (below1 _ _).trans (hb3.mono (by simp))
  have hbw3 : Below w.heap.size w w3 := hbw2.trans (hb23.mono (by omega))
  have H3w : Hid (Three w3 w2.heap.size (.int .i64 z.v) (.int .i64 z.f) (.slice a3 z.args.length cap3)) := (Three.new 27 rfl).below hb3
  have hinz := InP_below hb23 hin3
  simp only at hin4
  by_cases hk : k = 0
  · subst hk
    by_cases hl0 : l = 0
    · subst hl0
      obtain ⟨c, g1, g2, g3, g4, hu120, ht120⟩ := back_facts (ar := ar) (t := t) (u := u) (place := place) (by rw [Hzk.out]) (by rw [Hxl.out])
      have ez : z = c := by have := Hzk.out.symm.trans g1; simpa using this
      have ex : x = putT u t place := by have := Hxl.out.symm.trans g2; simpa using this
      subst ez
      rw [← ex] at g3 g4
      have G3 := hide g3
      have G4 := hide g4
      have cg3 : w3.cell? ⟨w.heap.size, 0, none⟩ = some (.slice ga ar.length gcap) := by rw [hb23.cell (p := ⟨w.heap.size, 0, none⟩) hq0]; exact cg2
      obtain ⟨m0, m1, m2, _, _, _⟩ := H3w.out
      clear g1 g2 g3 g4 ex e0 e1 e2 f0 f1 f2 cg2 HP1
      have hr0 : w.heap.size < w3.heap.size := by omega
      have hr1 : w2.heap.size < w3.heap.size := by omega
      have hbz : ∀ o, Below w.heap.size w (w3.alloc o) := fun o => hbw3.alloc (by omega) o
      have hA2 : ∀ o, _ := fun o => At_any ar ga gcap x a4 cap4 place pa pcap (w3.alloc o) (Ints_below (hbz o) hg) (InP_alloc o hin4) (Ints_below (hbz o) hp) hl
      rw [G3.out] at hA2
      have HA2 := hide hA2
      clear hA2 hbz
      go_wp2_with fail
      refine (HA2.out _).mono ?_
      rintro e w4 ⟨⟨a5, cap5, rfl, hin5⟩, hb4⟩
      have hz4 := hb4.size
      simp at hz4
      have hb34 : Below w3.heap.size w3 w4 := (below1 _ _).trans (hb4.mono (by simp))
      have hb24 : Below w2.heap.size w2 w4 := hb23.trans (hb34.mono (by omega))
      have hbw4 : Below w.heap.size w w4 := hbw3.trans (hb34.mono (by omega))
      have H3x4 : Hid (Three w4 w3.heap.size (.int .i64 x.v) (.int .i64 x.f) (.slice a4 x.args.length cap4)) := (Three.new 27 rfl).below hb4
      have H3w4 : Hid (Three w4 w2.heap.size (.int .i64 z.v) (.int .i64 z.f) (.slice a3 z.args.length cap3)) := H3w.out.below hb34
      have cg4 : w4.cell? ⟨w.heap.size, 0, none⟩ = some (.slice ga ar.length gcap) := by rw [hb34.cell (p := ⟨w.heap.size, 0, none⟩) hr0]; exact cg3
      obtain ⟨p0, p1, p2, _, _, _⟩ := H3x4.out
      obtain ⟨q0, q1, q2, _, _, _⟩ := H3w4.out
      have hs0 : w.heap.size < w4.heap.size := by omega
      have hs2 : w2.heap.size < w4.heap.size := by omega
      have hs3 : w3.heap.size < w4.heap.size := by omega
      have hbz : ∀ o, Below w.heap.size w (w4.alloc o) := fun o => hbw4.alloc (by omega) o
      have hP2 : ∀ o, _ := fun o => Put_any ar ga gcap x a4 cap4 place pa pcap z a3 cap3 (w4.alloc o) (Ints_below (hbz o) hg) (InP_alloc o (InP_below hb34 hin4)) (Ints_below (hbz o) hp) (InP_alloc o (InP_below hb34 hinz)) hl
      rw [G4.out] at hP2
      have HP2 := hide hP2
      simp only at hin5
      clear hP2 hbz HA2 m0 m1 m2 cg3 G3 G4
      go_wp2_with fail
      refine (HP2.out _).mono ?_
      rintro e w5 ⟨⟨a6, cap6, rfl, hin6⟩, hb5⟩
      have hz5 := hb5.size
      simp at hz5
      have hb45 : Below w4.heap.size w4 w5 := (below1 _ _).trans (hb5.mono (by simp))
      have hbw5 : Below w.heap.size w w5 := hbw4.trans (hb45.mono (by omega))
      have hb25 : Below w2.heap.size w2 w5 := hb24.trans (hb45.mono (by omega))
      have H3i5 : Hid (Three w5 w4.heap.size (.int .i64 u.v) (.int .i64 u.f) (.slice a5 u.args.length cap5)) := (Three.new 27 rfl).below hb5
      have H3t5 := hide (H3t2.out.below hb25)
      have H3u5 := hide (H3u2.out.below hb25)
      obtain ⟨i0, i1, i2, _, _, _⟩ := H3i5.out
      obtain ⟨t0, t1, t2, _, _, _⟩ := H3t5.out
      obtain ⟨u0, u1, u2, _, _, _⟩ := H3u5.out
      have hv1 : w.heap.size + 1 < w5.heap.size := by omega
      have hv2 : w.heap.size + 1 + 1 < w5.heap.size := by omega
      have hv4 : w4.heap.size < w5.heap.size := by omega
      simp only at hin6
      have HS1 := hide (fun o => sameTerm_any 121 u u a5 cap5 a2 cap2 (w5.alloc o) (by omega) (by omega) (InP_alloc o (InP_below hb45 hin5)) (InP_alloc o (InP_below hbw5 hin2)))
      have HIy := hide hin6
      clear p0 p1 p2 q0 q1 q2 cg4 HP2 hb5
      rw [sameT_refl] at HS1
      go_wp2_with fail
      refine (HS1.out _).mono ?_
      rintro e w6 ⟨rfl, hb6⟩
      have hz6 := hb6.size
      simp at hz6
      have hb56 : Below w5.heap.size w5 w6 := (below1 _ _).trans (hb6.mono (by simp))
      have hbw6 : Below w.heap.size w w6 := hbw5.trans (hb56.mono (by omega))
      have H3y6 : Hid (Three w6 w5.heap.size (.int .i64 t.v) (.int .i64 t.f) (.slice a6 t.args.length cap6)) := (Three.new 27 rfl).below hb6
      have H3t6 := hide (H3t5.out.below hb56)
      obtain ⟨y0, y1, y2, _, _, _⟩ := H3y6.out
      obtain ⟨v0, v1, v2, _, _, _⟩ := H3t6.out
      have HS2 := hide (sameTerm_any 121 t t a6 cap6 a cap w6 (by omega) (by omega) (InP_below hb56 HIy.out) (InP_below hbw6 hin))
      rw [sameT_refl] at HS2
      clear HS1 hb6
      go_wp2_with fail
      refine HS2.out.mono ?_
      rintro e w7 ⟨rfl, hb7⟩
      go_wp2_with fail
      go_ret
      exact ⟨rfl, hbw6.trans (hb7.mono (by omega))⟩
    · have hl1 : (l != 0) = true := by simpa using hl0
      clear hl0
      go_wp2_with fail
      go_ret
      exact ⟨rfl, hbw3.alloc (by omega) _⟩
  · have hk1 : (k != 0) = true := by simpa using hk
    clear hk
    go_wp2_with fail
    go_ret
    exact ⟨rfl, hbw3.alloc (by omega) _⟩

end Go.Proofs.Ytbkedppkdhfpoaa

namespace Go.Proofs.Ytbkedppkdhfpoaa
open Go.RowKit

/-- The document's own putting: no number of a variable is kept on the way. -/
def putR (u : T) : T → List Int → T
  | _, [] => u
  | t, i :: p => ⟨0, t.f, t.args.mapIdx fun k c => if (k : Int) = i then putR u c p else c⟩

/-- Three cells a term, and its arguments. -/
def Kids (p : Nat → Prop) (w : World) : List T → List Value → Prop
  | [], cs => cs = []
  | t :: ts, cs => ∃ a cap rest, cs = .int .i64 t.v :: .int .i64 t.f :: .slice a t.args.length cap :: rest ∧ InP p w t.args a ∧ Kids p w ts rest
theorem Kids_append {p : Nat → Prop} {w : World} {ts us : List T} : ∀ {cs ds : List Value}, Kids p w ts cs → Kids p w us ds → Kids p w (ts ++ us) (cs ++ ds) := by
  induction ts with
  | nil => intro cs ds h1 h2; rw [show cs = [] from h1]; exact h2
  | cons t ts ih =>
    intro cs ds h1 h2
    obtain ⟨a, cap, rest, rfl, h0, h⟩ := h1
    exact ⟨a, cap, rest ++ ds, rfl, h0, ih h h2⟩
theorem Kids_mono {p q : Nat → Prop} {w w' : World} {ts : List T} (hs : ∀ k, p k → k < w.heap.size → q k ∧ w'.heap[k]? = w.heap[k]?) : ∀ {cs : List Value}, Kids p w ts cs → Kids q w' ts cs := by
  induction ts with
  | nil => intro cs h; exact h
  | cons t ts ih =>
    intro cs h
    obtain ⟨a, cap, rest, rfl, h0, h⟩ := h
    exact ⟨a, cap, rest, rfl, InP_mono (fun b o v hp hv => ⟨(hs b hp (lt_of_cell hv)).1, by rw [World.cell?_of_block (w := w) (a := ⟨b, o, none⟩) (hs b hp (lt_of_cell hv)).2]; exact hv⟩) _ _ _ (Nat.le_refl _) h0, ih h⟩

/-- A list of the call's own that holds these terms; nothing that lies behind them lies in the list's own block. -/
def Outs (q : Nat → Prop) (base : Nat) (w : World) (l : Value) (ts : List T) : Prop :=
  ∃ xs, w.ownsRow base 27 3 l ts.length xs ∧ Kids (fun k => (q k ∨ base ≤ k) ∧ l.ownBlock ≠ some k) w ts xs

theorem Outs_nil {q : Nat → Prop} {base : Nat} {w : World} : Outs q base w (.slice none 0 0) [] := ⟨[], ⟨rfl, Or.inl ⟨rfl, rfl⟩⟩, rfl⟩
theorem Outs_same {q : Nat → Prop} {base : Nat} {w w' : World} {l : Value} {ts : List T} (h : Outs q base w l ts) (hs : ∀ k, (q k ∨ base ≤ k) → k < w.heap.size → w'.heap[k]? = w.heap[k]?) : Outs q base w' l ts := by
  obtain ⟨xs, h1, h2⟩ := h
  exact ⟨xs, own_same h1 (fun g hg => hs g (Or.inr (own_lt h1 g hg).1) (own_lt h1 g hg).2), Kids_mono (fun k hk hlt => ⟨hk, hs k hk.1 hlt⟩) h2⟩
theorem Outs_below {q : Nat → Prop} {base : Nat} {w w' : World} {l : Value} {ts : List T} (h : Outs q base w l ts) (hb : Below w.heap.size w w') : Outs q base w' l ts := Outs_same h (fun k _ hk => hb.block k hk)
theorem Outs_step {q : Nat → Prop} {base : Nat} {w w' : World} {l : Value} {ts : List T} {c : T} {xs : List Value} {a : Option Addr} {cap g cap2 : Nat} (hk : Kids (fun k => (q k ∨ base ≤ k) ∧ l.ownBlock ≠ some k) w ts xs)
    (hc : InP (fun k => (q k ∨ base ≤ k) ∧ l.ownBlock ≠ some k) w c.args a)
    (hown : w'.ownsRow base 27 3 (.slice (some ⟨g, 0, none⟩) (ts.length + 1) cap2) (ts.length + 1) (xs ++ [.int .i64 c.v, .int .i64 c.f, .slice a c.args.length cap])) (hg : w.grownBy w' l.ownBlock) (hat : l.ownBlock = some g ∨ g = w.heap.size) :
    Outs q base w' (.slice (some ⟨g, 0, none⟩) (ts.length + 1) cap2) (ts ++ [c]) := by
  refine ⟨_, by rw [List.length_append]; exact hown, Kids_mono (p := fun k => (q k ∨ base ≤ k) ∧ l.ownBlock ≠ some k) (w := w) (fun k hp hlt => ⟨⟨hp.1, ?_⟩, hg.block k hlt (fun e => hp.2 e.symm)⟩) (Kids_append hk ⟨a, cap, [], rfl, hc, rfl⟩)⟩
  rcases hat with hat | hat
  · rw [show (Value.slice (some ⟨g, 0, none⟩) (ts.length + 1) cap2).ownBlock = some g from rfl, ← hat]; exact hp.2
  · show some g ≠ some k
    intro e; cases e; omega
theorem Kids_in {p : Nat → Prop} {w : World} {g : Nat} (hpg : p g) {ts : List T} : ∀ {off : Nat} {cs : List Value}, Kids p w ts cs → (∀ j u, cs[j]? = some u → w.cell? ⟨g, off + j, none⟩ = some u) → InP p w ts (some ⟨g, off, none⟩) := by
  induction ts with
  | nil => intro off cs _ _; exact InP_nil
  | cons t ts ih =>
    intro off cs h hc
    obtain ⟨a, cap, rest, rfl, h0, h⟩ := h
    refine InP_cons.2 ⟨g, off, .slice a t.args.length cap, rfl, hpg, hc 0 _ rfl, hc 1 _ rfl, hc 2 _ rfl, In_iff.2 ⟨a, cap, rfl, h0⟩, ih h fun j u hu => ?_⟩
    rw [show off + 3 + j = off + (j + 3) from by omega]
    exact hc (j + 3) u (by simpa using hu)
theorem Outs_end {q : Nat → Prop} {base : Nat} {w : World} {l : Value} {ts : List T} (h : Outs q base w l ts) : ∃ a cap, l = .slice a ts.length cap ∧ InP (fun k => q k ∨ base ≤ k) w ts a := by
  obtain ⟨xs, h1, h2⟩ := h
  by_cases h0 : 0 < ts.length
  · obtain ⟨g, cap, rfl, hb, hlt, hcell⟩ := own_cells h1 h0
    exact ⟨_, cap, rfl, Kids_in (Or.inr hb) (Kids_mono (fun k hk _ => ⟨hk.1, rfl⟩) h2) (fun j u hu => by rw [Nat.zero_add]; exact hcell j u hu)⟩
  · obtain ⟨a, c, rfl⟩ := own_shape h1
    have : ts = [] := List.length_eq_zero_iff.1 (by omega)
    subst this
    exact ⟨a, c, rfl, InP_nil⟩

/-- Where all is right, the document's putting is the program's. -/
theorem putR_putT {ar : List Int} {u : T} : ∀ {p : List Int} {t c : T}, atT t p = some c → okP ar t → putR u t p = putT u t p := by
  intro p
  induction p with
  | nil => intro t c _ _; rfl
  | cons i p ih =>
    intro t c h hok
    rw [atT] at h
    by_cases hi : 0 ≤ i ∧ i < t.args.length
    · rw [if_pos hi] at h
      obtain ⟨d, hd, hc⟩ := Option.bind_eq_some_iff.1 h
      obtain ⟨hp, hl⟩ := okP_iff.1 hok
      have hlt : i.toNat < t.args.length := by omega
      have hv : t.v = 0 := by
        rcases Classical.em (t.v = 0) with h0 | h0
        · exact h0
        · rw [partErr_var h0, varErr] at hp
          split at hp
          · cases hp
          · split at hp
            · cases hp
            · omega
      rw [putT_at hd, putR, hv]
      congr 1
      apply List.ext_getElem?
      intro k
      rw [List.getElem?_mapIdx, List.getElem?_set]
      by_cases hk : i.toNat = k
      · subst hk
        rw [if_pos rfl, if_pos hlt, hd]
        simp only [Option.map_some]
        rw [if_pos (by omega), ih hc (okL_mem.1 hl d (List.mem_of_getElem? hd))]
      · rw [if_neg hk]
        cases hk2 : t.args[k]? with
        | none => rfl
        | some y =>
          simp only [Option.map_some]
          rw [if_neg (by omega)]
    · rw [if_neg hi] at h; cases h

end Go.Proofs.Ytbkedppkdhfpoaa

namespace Go.Proofs.Ytbkedppkdhfpoaa
open Go.RowKit

theorem below3 (w : World) (o1 o2 o3 : Obj) : Below w.heap.size w (((w.alloc o1).alloc o2).alloc o3) := (below2 w o1 o2).alloc (by simp; omega) o3

theorem Three.set2 {w : World} {b : Nat} {v0 v1 v2 : Value} (h : Three w b v0 v1 v2) (u : Value) : Three (w.setCell ⟨b, 2, none⟩ u) b v0 v1 u := by
  obtain ⟨c0, c1, c2, f0, f1, f2⟩ := h
  refine ⟨?_, ?_, World.cell?_setCell_same _ _ _ c2, ?_, ?_, ?_⟩
  · rw [World.cell?_setCell_other _ _ _ _ (by simp)]; exact c0
  · rw [World.cell?_setCell_other _ _ _ _ (by simp)]; exact c1
  · rw [World.frozen?_setCell]; exact f0
  · rw [World.frozen?_setCell]; exact f1
  · rw [World.frozen?_setCell]; exact f2
/-- Behind the append: what stands, and what the list now holds. -/
theorem app_facts {q : Nat → Prop} {B : Nat} {W3 w w6 : World} {l v0 v1 : Value} {ts : List T} {c : T} {xs : List Value} {a : Option Addr} {cap g cap2 : Nat} (hb : Below B W3 w) (h3 : Three w B v0 v1 l)
    (hown : w.ownsRow (B + 1) 27 3 l ts.length xs) (hk : Kids (fun k => (q k ∨ B + 1 ≤ k) ∧ l.ownBlock ≠ some k) w ts xs) (hq : ∀ k, q k → k < B) (hc : InP (fun k => (q k ∨ B + 1 ≤ k) ∧ l.ownBlock ≠ some k) w c.args a)
    (h6 : w6.ownsRow (B + 1) 27 3 (.slice (some ⟨g, 0, none⟩) (ts.length + 1) cap2) (ts.length + 1) (xs ++ [.int .i64 c.v, .int .i64 c.f, .slice a c.args.length cap])) (hg : w.grownBy w6 l.ownBlock) (hat : l.ownBlock = some g ∨ g = w.heap.size) :
    Three w6 B v0 v1 l ∧ (∀ u, Below B W3 (w6.setCell ⟨B, 2, none⟩ u)) ∧ (∀ u, Three (w6.setCell ⟨B, 2, none⟩ u) B v0 v1 u) ∧ ∀ u, Outs q (B + 1) (w6.setCell ⟨B, 2, none⟩ u) (.slice (some ⟨g, 0, none⟩) (ts.length + 1) cap2) (ts ++ [c]) := by
  have hz := h3.lt
  have hT : Three w6 B v0 v1 l := h3.same (hg.block B hz (fun e => by have := (own_lt hown B e.symm).1; omega))
  have hB : Below B W3 w6 := hb.grown hg (by omega) (fun k hk' => by have := (own_lt hown k hk').1; omega)
  exact ⟨hT, fun u => hB.setCell (p := ⟨B, 2, none⟩) (Nat.le_refl _) u, fun u => hT.set2 u, fun u => Outs_same (Outs_step hk hc h6 hg hat) (fun k hk' _ => Below.heap_setCell _ _ _ _ (by
    show k ≠ B
    rcases hk' with h | h
    · have := hq k h; omega
    · omega))⟩

attribute [local go_sem ↓] Go.wp_at_zero Go.wp_at_succ
set_option maxRecDepth 100000 in
set_option maxHeartbeats 2000000 in
theorem putOf_any (q : Nat → Prop) (u : T) (a2 : Option Addr) (cap2 : Nat) (place : List Int) : ∀ (t : T) (a : Option Addr) (cap : Nat) (pa : Option Addr) (pcap : Nat) (w : World), (∀ k, q k → k < w.heap.size) → Ints w place pa → place.length ≤ pcap → t.sz ≤ 1000 → InP q w t.args a → InP q w u.args a2 →
    Calls Try.prog 26 #[.agg #[.int .i64 t.v, .int .i64 t.f, .slice a t.args.length cap], .slice pa place.length pcap, .agg #[.int .i64 u.v, .int .i64 u.f, .slice a2 u.args.length cap2]] w fun e w' =>
      ∃ a' cap', e = .returned (.agg #[.int .i64 (putR u t place).v, .int .i64 (putR u t place).f, .slice a' (putR u t place).args.length cap']) ∧ InP (fun k => q k ∨ w.heap.size ≤ k) w' (putR u t place).args a' ∧ Below w.heap.size w w' := by
  induction place with
  | nil =>
    intro t a cap pa pcap w hq hp hpc ht hin hin2
    go_enter Try.func26, Try.ntmps26
    go_wp2_with fail
    exact bodyPost_ret (v := .agg #[.int .i64 u.v, .int .i64 u.f, .slice a2 u.args.length cap2]) (by simp [results, Try.results26, go_sem]) rfl
      ⟨a2, cap2, rfl, InP_imp (fun k h => Or.inl h) (InP_below (w := w) (below3 _ _ _ _) hin2), below3 _ _ _ _⟩
  | cons i p ih =>
    intro t a cap pa pcap w hq hp hpc ht hin hin2
    have Hih := hide ih
    have Hq := hide hq
    clear ih hq
    obtain ⟨b, off, rfl, hc⟩ := Ints_some hp (by simp)
    have hci : w.cell? ⟨b, off, none⟩ = some (.int .i64 i) := by have := hc 0 (by simp); simpa using this
    have hbi := lt_of_cell hci
    have hne : ((p.length : Int) + 1 == 0) = false := by rw [beq_eq_false_iff_ne]; omega
    have hlen : (0 : Int) < ((i :: p).length : Int) := by rw [List.length_cons]; omega
    have hp1 : (1 : Int) ≤ ((i :: p).length : Int) := by rw [List.length_cons]; omega
    have htl : t.args.length ≤ 1000 := by have := T.length_le t.args; have := T.sz_eq t; omega
    have Hp := hide hp
    have Hin := hide hin
    have Hin2 := hide hin2
    have hl1 : (i :: p).length = p.length + 1 := by simp
    clear hc hp hin hin2
    rw [hl1] at hpc hlen hp1 ⊢
    obtain ⟨L, hL⟩ : ∃ L, L = (putR u t (i :: p)).args := ⟨_, rfl⟩
    have hLl : L.length = t.args.length := by rw [hL, putR]; simp
    have hLk : ∀ (k : Nat) (x : T), t.args[k]? = some x → L[k]? = some (if (k : Int) = i then putR u x p else x) := fun k x hx => by
      rw [hL, putR]; simp [hx]
    have hgoal : putR u t (i :: p) = ⟨0, t.f, L⟩ := by rw [hL]; rfl
    have HLk := hide hLk
    rw [hgoal]
    show Calls _ _ _ _ fun e w' => ∃ a' cap', e = .returned (.agg #[.int .i64 0, .int .i64 t.f, .slice a' L.length cap']) ∧ InP (fun k => q k ∨ w.heap.size ≤ k) w' L a' ∧ Below w.heap.size w w'
    clear hL hgoal hLk
    obtain ⟨W3, hW3⟩ : ∃ W3, W3 = (((w.alloc (.cells #[.int .i64 t.v, .int .i64 t.f, .slice a t.args.length cap] 27)).alloc (.cells #[.int .i64 u.v, .int .i64 u.f, .slice a2 u.args.length cap2] 27)).alloc (.cells #[.int .i64 0, .int .i64 0, .slice none 0 0] 27)) := ⟨_, rfl⟩
    have hT3 : Hid (Three W3 w.heap.size (.int .i64 t.v) (.int .i64 t.f) (.slice a t.args.length cap)) := by rw [hW3]; exact ((Three.new 27 rfl).alloc _).alloc _
    have hU3 : Hid (Three W3 (w.heap.size + 1) (.int .i64 u.v) (.int .i64 u.f) (.slice a2 u.args.length cap2)) := by rw [hW3]; exact (Three.new 27 (by simp)).alloc _
    have hWb : Hid (Below w.heap.size w W3) := by rw [hW3]; exact below3 _ _ _ _
    have HW3 := hide hW3
    clear hW3
    obtain ⟨ti, hi, hzz⟩ := Option.map_eq_some_iff.1 Try.info27
    simp only [Prod.mk.injEq] at hzz
    obtain ⟨hz0, hz1, hz2⟩ := hzz
    go_enter Try.func26, Try.ntmps26
    go_wp2_with fail
    go_loopw [8] (fun j wr => ∃ (k : Nat) (l : Value), k ≤ t.args.length ∧ j = .int .i64 k ∧ Below (w.heap.size + 1 + 1 + 1) W3 wr ∧
        Three wr (w.heap.size + 1 + 1 + 1) (.int .i64 0) (.int .i64 t.f) l ∧ Outs q (w.heap.size + 1 + 1 + 1 + 1) wr l (L.take k)) (fun j _ => t.args.length - (intOf j).toNat)
    case atStart =>
      refine ⟨0, .slice none 0 0, Nat.zero_le _, rfl, ?_, ?_, by rw [List.take_zero]; exact Outs_nil⟩
      · rw [HW3.out]
        exact (Below.refl _ _).alloc (by simp) _
      · exact Three.new 27 (by simp)
    case round =>
      obtain ⟨k, l, hk, rfl, hbr, h3o, hout⟩ := hrel
      have hzr := h3o.lt
      have HT := hide (hT3.out.same (hbr.block _ (by omega)))
      have HU := hide (hU3.out.same (hbr.block _ (by omega)))
      obtain ⟨c0, c1, c2, _, _, _⟩ := HT.out
      have H3o := hide h3o
      have Hbr := hide hbr
      have Hout := hide hout
      have hpr : wr.cell? ⟨b, off, none⟩ = some (.int .i64 i) := by rw [hbr.cell (p := ⟨b, off, none⟩) (show b < _ by omega), hWb.out.cell (p := ⟨b, off, none⟩) hbi]; exact hci
      clear hout hbr
      by_cases hlt : k < t.args.length
      · obtain ⟨b1, off1, rfl⟩ := InP_some Hin.out (by omega)
        obtain ⟨x, hx⟩ : ∃ x, t.args[k]? = some x := ⟨t.args[k], List.getElem?_eq_getElem hlt⟩
        obtain ⟨a3, cap3, _, k0, k1, k2, hinx⟩ := InP_at Hin.out hx
        have hb1 := lt_of_cell k0
        have hxsz : x.sz ≤ 1000 := by have := T.szL_mem (List.mem_of_getElem? hx); have := T.sz_eq t; omega
        have Hx3 := hide hinx
        have HLx := hide (HLk.out k x hx)
        have hkl : L.length = t.args.length := hLl
        have Htk : Hid ((L.take k).length = k) := by show (L.take k).length = k; simp; omega
        have hS := hide (fun (w' : World) (hbb : Below (w.heap.size + 1 + 1 + 1) W3 w') => (show w'.cell? ⟨w.heap.size, 2, none⟩ = some (.slice (some ⟨b1, off1, none⟩) t.args.length cap) ∧ w'.cell? ⟨b1, off1 + k * 3, none⟩ = some (.int .i64 x.v) ∧ w'.cell? ⟨b1, off1 + k * 3 + 1, none⟩ = some (.int .i64 x.f) ∧ w'.cell? ⟨b1, off1 + k * 3 + 2, none⟩ = some (.slice a3 x.args.length cap3) ∧ w'.cell? ⟨w.heap.size + 1, 0, none⟩ = some (.int .i64 u.v) ∧ w'.cell? ⟨w.heap.size + 1, 1, none⟩ = some (.int .i64 u.f) ∧ w'.cell? ⟨w.heap.size + 1, 2, none⟩ = some (.slice a2 u.args.length cap2) from
          ⟨(hT3.out.same (hbb.block _ (by omega))).c2,
           by rw [hbb.cell (p := ⟨b1, off1 + k * 3, none⟩) (show b1 < _ by omega), hWb.out.cell (p := ⟨b1, off1 + k * 3, none⟩) hb1]; exact k0,
           by rw [hbb.cell (p := ⟨b1, off1 + k * 3 + 1, none⟩) (show b1 < _ by omega), hWb.out.cell (p := ⟨b1, off1 + k * 3 + 1, none⟩) hb1]; exact k1,
           by rw [hbb.cell (p := ⟨b1, off1 + k * 3 + 2, none⟩) (show b1 < _ by omega), hWb.out.cell (p := ⟨b1, off1 + k * 3 + 2, none⟩) hb1]; exact k2,
           (hU3.out.same (hbb.block _ (by omega))).c0, (hU3.out.same (hbb.block _ (by omega))).c1, (hU3.out.same (hbb.block _ (by omega))).c2⟩))
        obtain ⟨q0, q1, q2, r0, r1, r2⟩ := H3o.out
        have hltI : (k : Int) < t.args.length := by omega
        have hk0 : (0 : Int) ≤ k := by omega
        by_cases hki : (k : Int) = i
        · subst hki
          obtain ⟨pa', hsl, hpt⟩ := tail_any Hp.out hpc
          have Hpt := hide hpt
          have HT1 := hide (show L.take (k + 1) = L.take k ++ [putR u x p] by rw [List.take_add_one, HLx.out, if_pos rfl]; rfl)
          obtain ⟨xs0, hown0, _⟩ := Hout.out
          have Hou0 := hide hown0
          obtain ⟨_, kk0, kk1, kk2, e0, e1, e2⟩ := hS.out wr Hbr.out
          clear hpt k0 k1 k2 hinx hx hci q0 q1 r0 r1 hown0 hS
          go_wp2_with fail
          go_region_law ((first
            | (refine step_append_lies _ rfl (.tmp 29) (.tmp 39) 25 rfl (w.heap.size + 1 + 1 + 1 + 1) 27 ti (.agg #[.int .i64 0, .int .i64 0, .slice none 0 0]) 3 40 Try.underlying25 hi hz0 hz1 hz2 rfl (by decide) l (L.take k).length xs rfl (HO.out _) ⟨w5.heap.size, 0, none⟩ 1 1 [.int .i64 (putR u x p).v, .int .i64 (putR u x p).f, .slice a5 (putR u x p).args.length cap5] rfl rfl (three_new (by first | rfl | simp)) (by simp [Value.oneCell']) (by decide) (by have := Htk.out; unfold maxLen; omega) (by have := Htk.out; omega) (by simp; omega) _ rfl ?_
               intro g capg w6 hown6 hgr6 hat6 hlt6
               have HF := hide (app_facts (c := putR u x p) (Hb.out.alloc (show w.heap.size + 1 + 1 + 1 ≤ w5.heap.size by omega) _) (H3.out.alloc _) (HO.out _) (Kids_mono (fun k' hk' hlt' => ⟨hk', (below1 _ _).block k' hlt'⟩) hkids) (fun k' hk' => by have := Hq.out k' hk'; omega) (InP_alloc _ HC.out) hown6 hgr6 hat6)
               obtain ⟨_, _, y2, _, _, y5⟩ := HF.out.1
               have hz6 := hgr6.size
               clear hown6 hgr6 hat6)
            | (go_simp
               go_at_call 26
               refine (Hih.out x a3 cap3 _ _ _ ?_ ?_ ?_ ?_ ?_ ?_).mono ?_
               · exact fun k' hk' => Nat.lt_trans (Hq.out k' hk') (show w.heap.size < wr.heap.size by omega)
               · exact Ints_below (w := w) ((hWb.out.trans (Hbr.out.mono (by omega))).drew) Hpt.out
               · omega
               · exact hxsz
               · exact InP_below (w := w) ((hWb.out.trans (Hbr.out.mono (by omega))).drew) Hx3.out
               · exact InP_below (w := w) ((hWb.out.trans (Hbr.out.mono (by omega))).drew) Hin2.out
               rintro e w5 ⟨a5, cap5, rfl, hin5, hb5⟩
               have hb5' : Below wr.heap.size wr w5 := below_undrew hb5
               have hz5 := hb5'.size
               have hz5' : w.heap.size + 1 + 1 + 1 < w5.heap.size := by omega
               have Hb := hide (Hbr.out.trans (hb5'.mono (by omega)))
               have H3 := hide (H3o.out.below hb5')
               have Hou := hide (Outs_below Hout.out hb5')
               obtain ⟨xs, hown, hkids⟩ := Hou.out
               have HO := hide (fun o1 => own_same hown (w' := w5.alloc o1) (fun g hg => (below1 w5 o1).block g (own_lt hown g hg).2))
               have HC : Hid (InP (fun k' => (q k' ∨ w.heap.size + 1 + 1 + 1 + 1 ≤ k') ∧ l.ownBlock ≠ some k') w5 (putR u x p).args a5) := InP_imp (fun k' hk' => by
                 refine ⟨hk'.imp id (fun h => by have h : wr.heap.size ≤ k' := h; omega), fun e => ?_⟩
                 have h9 := own_lt Hou0.out k' e
                 rcases hk' with h | h
                 · have := Hq.out k' h; omega
                 · have h : wr.heap.size ≤ k' := h
                   omega) hin5
               obtain ⟨_, _, s2, _, _, g2⟩ := H3.out
               clear hin5 hb5 hb5' hown)))
          all_goals
            go_wp2_with fail
            go_roundw
            case rel => exact ⟨k + 1, _, by omega, by go_num, HF.out.2.1 _, HF.out.2.2.1 _, by have h9 := HF.out.2.2.2 (.slice (some ⟨g, 0, none⟩) (k + 1) capg); rw [Htk.out] at h9; rw [HT1.out]; exact h9⟩
            case measure => simp [intOf]; omega
        · have hkb : ((k : Int) == i) = false := by simpa using hki
          have HT1 := hide (show L.take (k + 1) = L.take k ++ [x] by rw [List.take_add_one, HLx.out, if_neg hki]; rfl)
          obtain ⟨xs, hown, hkids⟩ := Hout.out
          have HO := hide (fun o1 => own_same hown (w' := wr.drew.alloc o1) (fun g hg => (below1 wr o1).block g (own_lt hown g hg).2))
          have Hb := hide Hbr.out.drew
          have H3 : Hid (Three wr.drew (w.heap.size + 1 + 1 + 1) (.int .i64 0) (.int .i64 t.f) l) := H3o.out.same rfl
          have HC : Hid (InP (fun k' => (q k' ∨ w.heap.size + 1 + 1 + 1 + 1 ≤ k') ∧ l.ownBlock ≠ some k') wr.drew x.args a3) := InP_imp (fun k' hk' => ⟨Or.inl hk', fun e => by have := own_lt hown k' e; have := Hq.out k' hk'; omega⟩) (InP_below (w := w) ((hWb.out.trans (Hbr.out.mono (by omega))).drew) Hx3.out)
          obtain ⟨_, kk0, kk1, kk2, _, _, _⟩ := hS.out wr Hbr.out
          clear k0 k1 k2 hinx hx hci q0 q1 r0 r1 hki hS hown
          go_wp2_with fail
          go_region_law ((first
            | (refine step_append_lies _ rfl (.tmp 43) (.tmp 49) 25 rfl (w.heap.size + 1 + 1 + 1 + 1) 27 ti (.agg #[.int .i64 0, .int .i64 0, .slice none 0 0]) 3 40 Try.underlying25 hi hz0 hz1 hz2 rfl (by decide) l (L.take k).length xs rfl (HO.out _) ⟨wr.heap.size, 0, none⟩ 1 1 [.int .i64 x.v, .int .i64 x.f, .slice a3 x.args.length cap3] rfl rfl (three_new (by first | rfl | simp)) (by simp [Value.oneCell']) (by decide) (by have := Htk.out; unfold maxLen; omega) (by have := Htk.out; omega) (by simp; omega) _ rfl ?_
               intro g capg w6 hown6 hgr6 hat6 hlt6
               have HF := hide (app_facts (c := x) (Hb.out.alloc (show w.heap.size + 1 + 1 + 1 ≤ wr.heap.size by omega) _) (H3.out.alloc _) (HO.out _) (Kids_mono (w := wr) (fun k' hk' hlt' => ⟨hk', (below1 wr.drew _).block k' hlt'⟩) hkids) (fun k' hk' => by have := Hq.out k' hk'; omega) (InP_alloc _ HC.out) hown6 hgr6 hat6)
               obtain ⟨_, _, y2, _, _, y5⟩ := HF.out.1
               have hz6 := hgr6.size
               clear hown6 hgr6 hat6)))
          all_goals
            go_wp2_with fail
            go_roundw
            case rel => exact ⟨k + 1, _, by omega, by go_num, HF.out.2.1 _, HF.out.2.2.1 _, by have h9 := HF.out.2.2.2 (.slice (some ⟨g, 0, none⟩) (k + 1) capg); rw [Htk.out] at h9; rw [HT1.out]; exact h9⟩
            case measure => simp [intOf]; omega
      · have hk2 : k = L.length := by omega
        subst hk2
        rw [List.take_length] at Hout
        obtain ⟨la, lc, rfl, hinL⟩ := Outs_end Hout.out
        obtain ⟨q0, q1, q2, r0, r1, r2⟩ := H3o.out
        have hbT : Hid (Three wr (w.heap.size + 1 + 1) (.int .i64 0) (.int .i64 0) (.slice none 0 0)) := by
          refine Three.same ?_ (Hbr.out.block _ (by omega))
          rw [HW3.out]; exact Three.new 27 (by simp)
        obtain ⟨m0, m1, m2, n0, n1, n2⟩ := hbT.out
        have HinL := hide hinL
        clear hinL
        go_wp2_with fail
        obtain ⟨z0, z1, z2, _, _, _⟩ := hbT.out.set (.int .i64 0) (.int .i64 t.f) (.slice la t.args.length lc)
        simp only [set3, Nat.zero_add] at z0 z1 z2
        refine bodyPost_ret (v := .agg #[.int .i64 0, .int .i64 t.f, .slice la t.args.length lc]) (by simp [results, Try.results26, go_sem, z0, z1, z2]) rfl ⟨la, lc, by rw [hLl], InP_imp (fun k' hk' => hk'.imp id (fun h => by omega)) (InP_same (fun k' hk' _ => set3_block (b := w.heap.size + 1 + 1) (off := 0) ?_) HinL.out), below_set3 (b := w.heap.size + 1 + 1) (off := 0) (hWb.out.trans (Hbr.out.mono (by omega))) (by omega) _ _ _⟩
        rcases hk' with h | h
        · have := Hq.out k' h; omega
        · omega

end Go.Proofs.Ytbkedppkdhfpoaa

namespace Go.Proofs.Ytbkedppkdhfpoaa
open Go.RowKit

set_option maxRecDepth 100000 in
set_option maxHeartbeats 1000000 in
theorem termIs_any (x want : T) (k : Int) (a : Option Addr) (cap : Nat) (a2 : Option Addr) (cap2 : Nat) (w : World) (hsz : x.sz ≤ 1000) (hin : InL w x.args a) (hin2 : InL w want.args a2) (h0 : k = 0 → sameT x want = true) (h1 : k ≠ 0 → x = zeroT) :
    Calls Try.prog 27 #[.agg #[.int .i64 x.v, .int .i64 x.f, .slice a x.args.length cap], .int .i64 k, .int .i64 k, .agg #[.int .i64 want.v, .int .i64 want.f, .slice a2 want.args.length cap2]] w fun e w' =>
      e = .returned (.bool true) ∧ Below w.heap.size w w' := by
  by_cases hk : k = 0
  · subst hk
    have hs := h0 rfl
    have HS := hide (fun o1 o2 => sameTerm_any (x.sz + 1) x want a cap a2 cap2 ((w.alloc o1).alloc o2) (by omega) hsz (InP_alloc o2 (InP_alloc o1 hin)) (InP_alloc o2 (InP_alloc o1 hin2)))
    rw [hs] at HS
    clear h0 h1 hs
    go_enter Try.func27, Try.ntmps27
    go_wp2_with fail
    refine (HS.out _ _).mono ?_
    rintro e w1 ⟨rfl, hb1⟩
    have Hb := hide ((below2 w _ _).trans (hb1.mono (by simp; omega)))
    clear hb1
    go_wp2_with fail
    go_ret
    exact ⟨rfl, Hb.out⟩
  · have hx := h1 hk
    subst hx
    have hk1 : (k != 0) = true := by simpa using hk
    have hk2 : (k == k) = true := by simp
    have hs : sameT zeroT zeroT = true := sameT_refl _
    have HS := hide (fun o1 o2 => sameTerm_any 2 zeroT zeroT a cap none 0 ((w.alloc o1).alloc o2) (by decide) (by decide) InP_nil InP_nil)
    rw [hs] at HS
    clear h0 h1 hs
    go_enter Try.func27, Try.ntmps27
    go_wp2_with fail
    refine (HS.out _ _).mono ?_
    rintro e w1 ⟨rfl, hb1⟩
    have Hb := hide ((below2 w _ _).trans (hb1.mono (by simp; omega)))
    clear hb1
    go_wp2_with fail
    go_ret
    exact ⟨rfl, Hb.out⟩

/-- What is wrong with the first is wrong with both. -/
theorem allErr_two {ar : List Int} {t u : T} (h : allErr ar [t] ≠ 0) : allErr ar [t, u] ≠ 0 := by
  intro h2
  apply h
  have := allErr_iff.1 h2
  exact allErr_iff.2 ⟨this.1, fun x hx => this.2 x (by simp at hx; simp [hx])⟩
theorem allErr_one {ar : List Int} {t u : T} (h : allErr ar [t, u] = 0) : allErr ar [t] = 0 := by
  rcases Classical.em (allErr ar [t] = 0) with h1 | h1
  · exact h1
  · exact absurd h (allErr_two h1)
theorem at_zero {ar : List Int} {t : T} {place : List Int} (h : (atSpec ar t place).2 ≠ 0) : (atSpec ar t place).1 = zeroT := by
  rw [atSpec] at h ⊢
  split
  · cases hat : atT t place with
    | none => rfl
    | some c => rw [if_pos (by assumption), hat] at h; exact absurd rfl h
  · rfl
theorem put_zero {ar : List Int} {t u : T} {place : List Int} (h : (putSpec ar t place u).2 ≠ 0) : (putSpec ar t place u).1 = zeroT := by
  rw [putSpec] at h ⊢
  by_cases h1 : allErr ar [t, u] = 0
  · rw [if_pos h1] at h ⊢
    cases hat : atT t place with
    | none => rfl
    | some c =>
      rw [hat] at h
      by_cases h2 : 120 < (t.sz : Int) - c.sz + u.sz
      · simp only [if_pos h2]
      · simp only [if_neg h2] at h; exact absurd rfl h
  · rw [if_neg h1]
theorem at_bad {ar : List Int} {t : T} {place : List Int} (h : allErr ar [t] ≠ 0) : (atSpec ar t place).2 = allErr ar [t] := by rw [atSpec, if_neg h]
theorem at_none {ar : List Int} {t : T} {place : List Int} (h : allErr ar [t] = 0) (hn : atT t place = none) : (atSpec ar t place).2 = 5 := by rw [atSpec, if_pos h, hn]
theorem at_some {ar : List Int} {t c : T} {place : List Int} (h : allErr ar [t] = 0) (hn : atT t place = some c) : atSpec ar t place = (c, 0) := by rw [atSpec, if_pos h, hn]
theorem put_bad {ar : List Int} {t u : T} {place : List Int} (h : allErr ar [t, u] ≠ 0) : (putSpec ar t place u).2 = allErr ar [t, u] := by rw [putSpec, if_neg h]
theorem put_none {ar : List Int} {t u : T} {place : List Int} (h : allErr ar [t, u] = 0) (hn : atT t place = none) : (putSpec ar t place u).2 = 5 := by rw [putSpec, if_pos h, hn]
theorem put_some {ar : List Int} {t u c : T} {place : List Int} (h : allErr ar [t, u] = 0) (hn : atT t place = some c) :
    putR u t place = putT u t place ∧ (putR u t place).sz ≤ 240 ∧ (120 < (putR u t place).sz → (putSpec ar t place u).2 = 2) ∧ ((putR u t place).sz ≤ 120 → putSpec ar t place u = (putR u t place, 0)) := by
  have hx := allErr_iff.1 h
  have ht := hx.2 t (by simp)
  have hu := hx.2 u (by simp)
  have e := putR_putT (u := u) hn ht.2
  have hsz := putT_sz (u := u) hn
  have hc := atT_sz hn
  rw [e]
  refine ⟨rfl, by omega, fun h1 => ?_, fun h1 => ?_⟩
  · rw [putSpec, if_pos h, hn]
    simp only [if_pos (show 120 < (t.sz : Int) - c.sz + u.sz by omega)]
  · rw [putSpec, if_pos h, hn]
    simp only [if_neg (show ¬ 120 < (t.sz : Int) - c.sz + u.sz by omega)]
theorem at_sz {ar : List Int} {t : T} {place : List Int} : (atSpec ar t place).1.sz ≤ 120 := by
  rw [atSpec]
  split
  · rename_i h
    cases hat : atT t place with
    | none => exact (by decide : zeroT.sz ≤ 120)
    | some c =>
      have := atT_sz hat
      have := sz_of_ok h (t := t) (by simp)
      show c.sz ≤ 120
      omega
  · exact (by decide : zeroT.sz ≤ 120)
theorem put_sz {ar : List Int} {t u : T} {place : List Int} : (putSpec ar t place u).1.sz ≤ 240 := by
  rcases Classical.em ((putSpec ar t place u).2 = 0) with h | h
  · rcases Classical.em (allErr ar [t, u] = 0) with h1 | h1
    · cases hat : atT t place with
      | none => rw [put_none h1 hat] at h; cases h
      | some c =>
        obtain ⟨e, h2, h3, h4⟩ := put_some h1 hat
        rcases Nat.lt_or_ge 120 (putR u t place).sz with h5 | h5
        · rw [h3 h5] at h; cases h
        · rw [h4 h5]; exact h2
    · rw [put_bad h1] at h; exact absurd h h1
  · rw [put_zero h]; decide

end Go.Proofs.Ytbkedppkdhfpoaa
