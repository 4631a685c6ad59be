/- The walk of the statement on what is put and put back. The order of terms, by the program's words. No word of the program's memory here. The order of terms, by the document's table: the same. No word of the program's memory here. The order of terms: nothing is greater than itself; what is greater than a greater one is; a term is greater than what stands in it; of two without variables one is. No word of the program's memory here. What a part is to another one: greater, the same, or neither; and what need not be asked. No word of the program's memory here. Terms with their parts numbered, as the program's order makes them. -/
import Derived.Test.YtbkedppkdhfpoaaJoined3
namespace Go.Proofs.Ytbkedppkdhfpoaa
open Go.RowKit

/-- What is put is there. -/
theorem atT_putT {u : T} : ∀ {p : List Int} {t c : T}, atT t p = some c → atT (putT u t p) p = some u := by
  intro p
  induction p with
  | nil => intro t c _; rfl
  | cons i p ih =>
    intro t c h
    rw [atT] at h
    by_cases hi : 0 ≤ i ∧ i < t.args.length
    · rw [if_pos hi] at h
      obtain ⟨d, hd, hc⟩ := Option.bind_eq_some_iff.1 h
      rw [putT_at hd, atT]
      have hlt : i.toNat < t.args.length := by omega
      have h2 : 0 ≤ i ∧ i < ((⟨t.v, t.f, t.args.set i.toNat (putT u d p)⟩ : T).args.length : Int) := by simpa using hi
      rw [if_pos h2]
      show ((t.args.set i.toNat (putT u d p))[i.toNat]?).bind _ = _
      rw [List.getElem?_set_self (by omega)]
      exact ih hc
    · rw [if_neg hi] at h; cases h

/-- What was there put back makes what it was. -/
theorem putT_putT {u : T} : ∀ {p : List Int} {t c : T}, atT t p = some c → putT c (putT u t p) p = t := by
  intro p
  induction p with
  | nil =>
    intro t c h
    simp only [atT, Option.some.injEq] at h
    subst h; rfl
  | cons i p ih =>
    intro t c h
    rw [atT] at h
    by_cases hi : 0 ≤ i ∧ i < t.args.length
    · rw [if_pos hi] at h
      obtain ⟨d, hd, hc⟩ := Option.bind_eq_some_iff.1 h
      rw [putT_at hd]
      have hlt : i.toNat < t.args.length := by omega
      rw [putT_at (t := ⟨t.v, t.f, t.args.set i.toNat (putT u d p)⟩) (c := putT u d p) (List.getElem?_set_self (by omega)), ih hc]
      have hd2 : t.args[i.toNat] = d := by
        rw [List.getElem?_eq_getElem hlt] at hd
        exact Option.some.inj hd
      cases t
      simp only [List.set_set]
      congr 1
      rw [← hd2, List.set_getElem_self]
    · rw [if_neg hi] at h; cases h

/-- How big what is put is. -/
theorem putT_sz {u : T} : ∀ {p : List Int} {t c : T}, atT t p = some c → (putT u t p).sz + c.sz = t.sz + u.sz := by
  intro p
  induction p with
  | nil =>
    intro t c h
    simp only [atT, Option.some.injEq] at h
    subst h
    show u.sz + t.sz = _
    omega
  | cons i p ih =>
    intro t c h
    rw [atT] at h
    by_cases hi : 0 ≤ i ∧ i < t.args.length
    · rw [if_pos hi] at h
      obtain ⟨d, hd, hc⟩ := Option.bind_eq_some_iff.1 h
      rw [putT_at hd]
      have hlt : i.toNat < t.args.length := by omega
      have h1 := ih hc
      have h2 : T.sz.szL (t.args.set i.toNat (putT u d p)) + d.sz = T.sz.szL t.args + (putT u d p).sz := by
        have e1 : t.args.set i.toNat (putT u d p) = t.args.take i.toNat ++ putT u d p :: t.args.drop (i.toNat + 1) := List.set_eq_take_append_cons_drop.trans (by rw [if_pos hlt])
        have e2 : t.args = t.args.take i.toNat ++ d :: t.args.drop (i.toNat + 1) := by
          have hd2 : t.args[i.toNat] = d := by
            rw [List.getElem?_eq_getElem hlt] at hd
            exact Option.some.inj hd
          rw [← hd2, List.getElem_cons_drop, List.take_append_drop]
        have e3 : T.sz.szL t.args = T.sz.szL (t.args.take i.toNat) + (d.sz + T.sz.szL (t.args.drop (i.toNat + 1))) := by
          rw [← T.szL_cons, ← T.szL_append, ← e2]
        rw [e1, T.szL_append, T.szL_cons, e3]; omega
      rw [T.sz_eq, T.sz_eq t]
      show 1 + T.sz.szL (t.args.set i.toNat (putT u d p)) + c.sz = _
      omega
    · rw [if_neg hi] at h; cases h

/-- Every part is right. -/
def okP (ar : List Int) : T → Prop
  | ⟨v, f, args⟩ => partErr ar v f args.length = 0 ∧ okL args
  where
  okL : List T → Prop
    | [] => True
    | t :: ts => okP ar t ∧ okL ts
theorem okP_iff {ar : List Int} {t : T} : okP ar t ↔ partErr ar t.v t.f t.args.length = 0 ∧ okP.okL ar t.args := by cases t; exact Iff.rfl
theorem okL_cons {ar : List Int} {t : T} {ts : List T} : okP.okL ar (t :: ts) ↔ okP ar t ∧ okP.okL ar ts := Iff.rfl
theorem okL_mem {ar : List Int} {ts : List T} : okP.okL ar ts ↔ ∀ t, t ∈ ts → okP ar t := by
  induction ts with
  | nil => simp [okP.okL]
  | cons t ts ih => rw [okL_cons, ih]; simp

theorem look_ok {ar : List Int} : ∀ (n : Nat), (∀ (t : T) (s : Int), t.sz ≤ n → okP ar t → lookT (partStep ar) s t = (0, true)) ∧ (∀ (ts : List T) (s : Int), T.sz.szL ts ≤ n → okP.okL ar ts → ∃ s', lookT.lookL (partStep ar) s ts = (s', true) ∧ (ts ≠ [] → s' = 0)) := by
  intro n
  induction n with
  | zero =>
    refine ⟨fun t s hn => by have := t.sz_pos; omega, fun ts s hn _ => ?_⟩
    cases ts with
    | nil => exact ⟨s, rfl, fun h => absurd rfl h⟩
    | cons t ts => have := t.sz_pos; rw [T.szL_cons] at hn; omega
  | succ n ih =>
    have h1 : ∀ (t : T) (s : Int), t.sz ≤ n + 1 → okP ar t → lookT (partStep ar) s t = (0, true) := fun t s hn hok => by
      rw [T.sz_eq] at hn
      obtain ⟨hp, hl⟩ := okP_iff.1 hok
      obtain ⟨s', hs', _⟩ := ih.2 t.args s (by omega) hl
      rw [lookT_eq, hs']
      simp [partStep, hp]
    refine ⟨h1, fun ts => ?_⟩
    induction ts with
    | nil => intro s _ _; exact ⟨s, rfl, fun h => absurd rfl h⟩
    | cons t ts iht =>
      intro s hn hok
      rw [T.szL_cons] at hn
      obtain ⟨hp, hl⟩ := okL_cons.1 hok
      rw [lookL_cons, h1 t s (by omega) hp]
      obtain ⟨s', hs', h0⟩ := iht 0 (by omega) hl
      refine ⟨s', by simpa using hs', fun _ => ?_⟩
      cases ts with
      | nil => rw [lookL_nil] at hs'; simp at hs'; exact hs'.symm
      | cons a b => exact h0 (by simp)

theorem look_not {ar : List Int} : ∀ (n : Nat), (∀ (t : T) (s : Int), t.sz ≤ n → ((lookT (partStep ar) s t).2 = true → okP ar t) ∧ ((lookT (partStep ar) s t).2 = false → (lookT (partStep ar) s t).1 ≠ 0)) ∧
    (∀ (ts : List T) (s : Int), T.sz.szL ts ≤ n → ((lookT.lookL (partStep ar) s ts).2 = true → okP.okL ar ts) ∧ ((lookT.lookL (partStep ar) s ts).2 = false → (lookT.lookL (partStep ar) s ts).1 ≠ 0)) := by
  intro n
  induction n with
  | zero =>
    refine ⟨fun t s hn => by have := t.sz_pos; omega, fun ts s hn => ?_⟩
    cases ts with
    | nil => exact ⟨fun _ => trivial, fun h => by cases h⟩
    | cons t ts => have := t.sz_pos; rw [T.szL_cons] at hn; omega
  | succ n ih =>
    have h1 : ∀ (t : T) (s : Int), t.sz ≤ n + 1 → ((lookT (partStep ar) s t).2 = true → okP ar t) ∧ ((lookT (partStep ar) s t).2 = false → (lookT (partStep ar) s t).1 ≠ 0) := fun t s hn => by
      rw [T.sz_eq] at hn
      obtain ⟨h2, h3⟩ := ih.2 t.args s (by omega)
      rw [lookT_eq]
      by_cases h : (lookT.lookL (partStep ar) s t.args).2 = false
      · rw [if_pos h]
        exact ⟨fun h' => (by cases h'), fun _ => h3 h⟩
      · rw [if_neg h]
        have hl := h2 (by simpa using h)
        refine ⟨fun h' => okP_iff.2 ⟨by simpa [partStep] using h', hl⟩, fun h' => by simpa [partStep] using h'⟩
    refine ⟨h1, fun ts => ?_⟩
    induction ts with
    | nil => intro s _; exact ⟨fun _ => trivial, fun h => by cases h⟩
    | cons t ts iht =>
      intro s hn
      rw [T.szL_cons] at hn
      obtain ⟨h2, h3⟩ := h1 t s (by omega)
      obtain ⟨h4, h5⟩ := iht (lookT (partStep ar) s t).1 (by omega)
      rw [lookL_cons]
      by_cases h : (lookT (partStep ar) s t).2 = false
      · rw [if_pos h]
        exact ⟨fun h' => (by cases h'), fun _ => h3 h⟩
      · rw [if_neg h]
        exact ⟨fun h' => okL_cons.2 ⟨h2 (by simpa using h), h4 h'⟩, h5⟩

theorem termErr_iff {ar : List Int} {t : T} : termErr ar t = 0 ↔ t.sz ≤ 120 ∧ okP ar t := by
  rw [termErr]
  by_cases h : 120 < t.sz
  · rw [if_pos h]; constructor
    · intro h'; cases h'
    · intro h'; omega
  · rw [if_neg h]
    constructor
    · intro h'
      refine ⟨by omega, ?_⟩
      obtain ⟨h2, h3⟩ := (look_not (ar := ar) _).2 [t] 0 (Nat.le_refl _)
      rcases Bool.eq_false_or_eq_true (lookT.lookL (partStep ar) 0 [t]).2 with h4 | h4
      · exact (okL_cons.1 (h2 h4)).1
      · exact absurd h' (h3 h4)
    · intro h'
      obtain ⟨s', hs', h0⟩ := (look_ok (ar := ar) _).2 [t] 0 (Nat.le_refl _) (okL_cons.2 ⟨h'.2, trivial⟩)
      rw [hs', h0 (by simp)]

theorem allErr_iff {ar : List Int} {ts : List T} : allErr ar ts = 0 ↔ sigErr ar = 0 ∧ ∀ t, t ∈ ts → t.sz ≤ 120 ∧ okP ar t := by
  have h1 : termsErr ar ts = 0 ↔ ∀ t, t ∈ ts → t.sz ≤ 120 ∧ okP ar t := by
    induction ts with
    | nil => simp [termsErr]
    | cons t ts ih =>
      rw [termsErr]
      by_cases h : termErr ar t = 0
      · rw [if_pos h, ih]; simp [termErr_iff.1 h]
      · rw [if_neg h]
        constructor
        · intro h'; exact absurd h' h
        · intro h'; exact absurd (termErr_iff.2 (h' t (by simp))) h
  rw [allErr]
  by_cases hs : sigErr ar = 0
  · rw [if_pos hs, h1]; simp [hs]
  · rw [if_neg hs]; simp [hs]

theorem okP_at {ar : List Int} : ∀ {p : List Int} {t c : T}, atT t p = some c → okP ar t → okP ar c := by
  intro p
  induction p with
  | nil => intro t c h hok; simp only [atT, Option.some.injEq] at h; subst h; exact hok
  | cons i p ih =>
    intro t c h hok
    rw [atT] at h
    by_cases hi : 0 ≤ i ∧ i < t.args.length
    · rw [if_pos hi] at h
      obtain ⟨d, hd, hc⟩ := Option.bind_eq_some_iff.1 h
      exact ih hc (okL_mem.1 (okP_iff.1 hok).2 d (List.mem_of_getElem? hd))
    · rw [if_neg hi] at h; cases h

theorem okP_put {ar : List Int} {u : T} (hu : okP ar u) : ∀ {p : List Int} {t c : T}, atT t p = some c → okP ar t → okP ar (putT u t p) := by
  intro p
  induction p with
  | nil => intro t c _ _; exact hu
  | cons i p ih =>
    intro t c h hok
    rw [atT] at h
    by_cases hi : 0 ≤ i ∧ i < t.args.length
    · rw [if_pos hi] at h
      obtain ⟨d, hd, hc⟩ := Option.bind_eq_some_iff.1 h
      obtain ⟨hp, hl⟩ := okP_iff.1 hok
      rw [putT_at hd]
      refine okP_iff.2 ⟨?_, okL_mem.2 fun x hx => ?_⟩
      · show partErr ar t.v t.f (t.args.set i.toNat (putT u d p)).length = 0
        rw [List.length_set]; exact hp
      · rcases List.mem_or_eq_of_mem_set hx with hx | rfl
        · exact okL_mem.1 hl x hx
        · exact ih hc (okL_mem.1 hl d (List.mem_of_getElem? hd))
    · rw [if_neg hi] at h; cases h

theorem back_facts {ar : List Int} {t u : T} {place : List Int} (h1 : (atSpec ar t place).2 = 0) (h2 : (putSpec ar t place u).2 = 0) :
    ∃ c, atSpec ar t place = (c, 0) ∧ putSpec ar t place u = (putT u t place, 0) ∧ atSpec ar (putT u t place) place = (u, 0) ∧ putSpec ar (putT u t place) place c = (t, 0) ∧ u.sz ≤ 120 ∧ t.sz ≤ 120 := by
  have h3 : allErr ar [t, u] = 0 := by
    rcases Classical.em (allErr ar [t, u] = 0) with h | h
    · exact h
    · rw [putSpec, if_neg h] at h2; exact h2
  have hx := allErr_iff.1 h3
  have ht := hx.2 t (by simp)
  have hu := hx.2 u (by simp)
  have h4 : allErr ar [t] = 0 := allErr_iff.2 ⟨hx.1, fun x hx' => by simp at hx'; subst hx'; exact ht⟩
  rw [putSpec, if_pos h3] at h2
  cases hat : atT t place with
  | none => rw [hat] at h2; cases h2
  | some c =>
    rw [hat] at h2
    have h5 : ¬ 120 < (t.sz : Int) - c.sz + u.sz := by
      intro h
      simp only [if_pos h] at h2
      cases h2
    have hsz := putT_sz (u := u) hat
    have hc := atT_sz hat
    have hokx := okP_put hu.2 hat ht.2
    have hxok : (putT u t place).sz ≤ 120 ∧ okP ar (putT u t place) := ⟨by omega, hokx⟩
    have hcok : c.sz ≤ 120 ∧ okP ar c := ⟨by omega, okP_at hat ht.2⟩
    refine ⟨c, ?_, ?_, ?_, ?_, hu.1, ht.1⟩
    · rw [atSpec, if_pos h4, hat]
    · rw [putSpec, if_pos h3, hat]; simp only [if_neg h5]
    · rw [atSpec, if_pos (allErr_iff.2 ⟨hx.1, fun x hx' => by simp at hx'; subst hx'; exact hxok⟩), atT_putT hat]
    · rw [putSpec, if_pos (allErr_iff.2 ⟨hx.1, fun x hx' => by
        simp at hx'
        rcases hx' with rfl | rfl
        · exact hxok
        · exact hcok⟩), atT_putT hat]
      have h6 : ¬ 120 < ((putT u t place).sz : Int) - u.sz + c.sz := by omega
      simp only [if_neg h6, putT_putT hat]

set_option maxRecDepth 100000 in
set_option maxHeartbeats 1000000 in
theorem TermBack_any (ar : List Int) (ga : Option Addr) (gcap : Nat) (t : T) (a : Option Addr) (cap : Nat) (place : List Int) (pa : Option Addr) (pcap : Nat) (u : T) (a2 : Option Addr) (cap2 : Nat) (w : World) (hg : Ints w ar ga) (hin : InL w t.args a) (hp : Ints w place pa)
    (hin2 : InL w u.args a2) (hl : place.length ≤ 9223372036854775807) :
    Calls Try.prog 5 #[.agg #[.slice ga ar.length gcap], .agg #[.int .i64 t.v, .int .i64 t.f, .slice a t.args.length cap], .slice pa place.length pcap, .agg #[.int .i64 u.v, .int .i64 u.f, .slice a2 u.args.length cap2]] w fun e w' =>
      e = .returned (.bool true) ∧ Below w.heap.size w w' := by
  go_enter Try.func5, Try.ntmps5
  go_wp2_with fail
  refine (begun_any _).mono ?_
  rintro e w1 ⟨rfl, hb1⟩
  have hbw : Below w.heap.size w w1 := (((below1 _ _).alloc (by simp) _).alloc (by simp; omega) _).trans (hb1.mono (by simp; omega))
  have hz1 : w.heap.size + 3 ≤ w1.heap.size := by have := hb1.size; simp at this; omega
  have cg : w1.cell? ⟨w.heap.size, 0, none⟩ = some (.slice ga ar.length gcap) := by
    rw [hb1.cell (p := ⟨w.heap.size, 0, none⟩) (by simp; omega), cell_alloc_lt (by simp; omega), cell_alloc_lt (by simp), cell_new _ rfl]; rfl
  have h3t : Three w1 (w.heap.size + 1) (.int .i64 t.v) (.int .i64 t.f) (.slice a t.args.length cap) := ((Three.new _ (by simp)).alloc _).below hb1
  have h3u : Three w1 (w.heap.size + 1 + 1) (.int .i64 u.v) (.int .i64 u.f) (.slice a2 u.args.length cap2) := (Three.new _ (by simp)).below hb1
  have H3t := hide h3t
  have H3u := hide h3u
  obtain ⟨c0, c1, c2, _, _, _⟩ := h3t
  obtain ⟨d0, d1, d2, _, _, _⟩ := h3u
  clear hb1
  obtain ⟨z, k, hzk⟩ : ∃ z k, atSpec ar t place = (z, k) := ⟨_, _, rfl⟩
  obtain ⟨x, l, hxl⟩ : ∃ x l, putSpec ar t place u = (x, l) := ⟨_, _, rfl⟩
  have hA1 := At_any ar ga gcap t a cap place pa pcap w1 (Ints_below hbw hg) (InP_below hbw hin) (Ints_below hbw hp) hl
  rw [hzk] at hA1
  have HA1 := hide hA1
  have Hzk := hide hzk
  have Hxl := hide hxl
  clear hA1 hzk hxl
  go_wp2_with fail
  refine HA1.out.mono ?_
  rintro e w2 ⟨⟨a3, cap3, rfl, hin3⟩, hb2⟩
  have hz2 := hb2.size
  have hbw2 : Below w.heap.size w w2 := hbw.trans (hb2.mono (by omega))
  have cg2 : w2.cell? ⟨w.heap.size, 0, none⟩ = some (.slice ga ar.length gcap) := by rw [hb2.cell (p := ⟨w.heap.size, 0, none⟩) (show w.heap.size < w1.heap.size by omega)]; exact cg
  have H3t2 := hide (H3t.out.below hb2)
  have H3u2 := hide (H3u.out.below hb2)
  obtain ⟨e0, e1, e2, _, _, _⟩ := H3t2.out
  obtain ⟨f0, f1, f2, _, _, _⟩ := H3u2.out
  have hq0 : w.heap.size < w2.heap.size := by omega
  have hq1 : w.heap.size + 1 < w2.heap.size := by omega
  have hq2 : w.heap.size + 1 + 1 < w2.heap.size := by omega
  have hbz : ∀ o, Below w.heap.size w (w2.alloc o) := fun o => hbw2.alloc (by omega) o
  have hP1 : ∀ o, _ := fun o => Put_any ar ga gcap t a cap place pa pcap u a2 cap2 (w2.alloc o) (Ints_below (hbz o) hg) (InP_below (hbz o) hin) (Ints_below (hbz o) hp) (InP_below (hbz o) hin2) hl
  rw [Hxl.out] at hP1
  have HP1 := hide hP1
  clear hP1 hbz HA1 cg c0 c1 c2 d0 d1 d2
  simp only at hin3
  go_wp2_with fail
  refine (HP1.out _).mono ?_
  rintro e w3 ⟨⟨a4, cap4, rfl, hin4⟩, hb3⟩
  have hz3 := hb3.size
  simp at hz3
  have hb23 : Below w2.heap.size w2 w3 := (below1 _ _).trans (hb3.mono (by simp))
  have hbw3 : Below w.heap.size w w3 := hbw2.trans (hb23.mono (by omega))
  have H3w : Hid (Three w3 w2.heap.size (.int .i64 z.v) (.int .i64 z.f) (.slice a3 z.args.length cap3)) := (Three.new 27 rfl).below hb3
  have hinz := InP_below hb23 hin3
  simp only at hin4
  by_cases hk : k = 0
  · subst hk
    by_cases hl0 : l = 0
    · subst hl0
      obtain ⟨c, g1, g2, g3, g4, hu120, ht120⟩ := back_facts (ar := ar) (t := t) (u := u) (place := place) (by rw [Hzk.out]) (by rw [Hxl.out])
      have ez : z = c := by have := Hzk.out.symm.trans g1; simpa using this
      have ex : x = putT u t place := by have := Hxl.out.symm.trans g2; simpa using this
      subst ez
      rw [← ex] at g3 g4
      have G3 := hide g3
      have G4 := hide g4
      have cg3 : w3.cell? ⟨w.heap.size, 0, none⟩ = some (.slice ga ar.length gcap) := by rw [hb23.cell (p := ⟨w.heap.size, 0, none⟩) hq0]; exact cg2
      obtain ⟨m0, m1, m2, _, _, _⟩ := H3w.out
      clear g1 g2 g3 g4 ex e0 e1 e2 f0 f1 f2 cg2 HP1
      have hr0 : w.heap.size < w3.heap.size := by omega
      have hr1 : w2.heap.size < w3.heap.size := by omega
      have hbz : ∀ o, Below w.heap.size w (w3.alloc o) := fun o => hbw3.alloc (by omega) o
      have hA2 : ∀ o, _ := fun o => At_any ar ga gcap x a4 cap4 place pa pcap (w3.alloc o) (Ints_below (hbz o) hg) (InP_alloc o hin4) (Ints_below (hbz o) hp) hl
      rw [G3.out] at hA2
      have HA2 := hide hA2
      clear hA2 hbz
      go_wp2_with fail
      refine (HA2.out _).mono ?_
      rintro e w4 ⟨⟨a5, cap5, rfl, hin5⟩, hb4⟩
      have hz4 := hb4.size
      simp at hz4
      have hb34 : Below w3.heap.size w3 w4 := (below1 _ _).trans (hb4.mono (by simp))
      have hb24 : Below w2.heap.size w2 w4 := hb23.trans (hb34.mono (by omega))
      have hbw4 : Below w.heap.size w w4 := hbw3.trans (hb34.mono (by omega))
      have H3x4 : Hid (Three w4 w3.heap.size (.int .i64 x.v) (.int .i64 x.f) (.slice a4 x.args.length cap4)) := (Three.new 27 rfl).below hb4
      have H3w4 : Hid (Three w4 w2.heap.size (.int .i64 z.v) (.int .i64 z.f) (.slice a3 z.args.length cap3)) := H3w.out.below hb34
      have cg4 : w4.cell? ⟨w.heap.size, 0, none⟩ = some (.slice ga ar.length gcap) := by rw [hb34.cell (p := ⟨w.heap.size, 0, none⟩) hr0]; exact cg3
      obtain ⟨p0, p1, p2, _, _, _⟩ := H3x4.out
      obtain ⟨q0, q1, q2, _, _, _⟩ := H3w4.out
      have hs0 : w.heap.size < w4.heap.size := by omega
      have hs2 : w2.heap.size < w4.heap.size := by omega
      have hs3 : w3.heap.size < w4.heap.size := by omega
      have hbz : ∀ o, Below w.heap.size w (w4.alloc o) := fun o => hbw4.alloc (by omega) o
      have hP2 : ∀ o, _ := fun o => Put_any ar ga gcap x a4 cap4 place pa pcap z a3 cap3 (w4.alloc o) (Ints_below (hbz o) hg) (InP_alloc o (InP_below hb34 hin4)) (Ints_below (hbz o) hp) (InP_alloc o (InP_below hb34 hinz)) hl
      rw [G4.out] at hP2
      have HP2 := hide hP2
      simp only at hin5
      clear hP2 hbz HA2 m0 m1 m2 cg3 G3 G4
      go_wp2_with fail
      refine (HP2.out _).mono ?_
      rintro e w5 ⟨⟨a6, cap6, rfl, hin6⟩, hb5⟩
      have hz5 := hb5.size
      simp at hz5
      have hb45 : Below w4.heap.size w4 w5 := (below1 _ _).trans (hb5.mono (by simp))
      have hbw5 : Below w.heap.size w w5 := hbw4.trans (hb45.mono (by omega))
      have hb25 : Below w2.heap.size w2 w5 := hb24.trans (hb45.mono (by omega))
      have H3i5 : Hid (Three w5 w4.heap.size (.int .i64 u.v) (.int .i64 u.f) (.slice a5 u.args.length cap5)) := (Three.new 27 rfl).below hb5
      have H3t5 := hide (H3t2.out.below hb25)
      have H3u5 := hide (H3u2.out.below hb25)
      obtain ⟨i0, i1, i2, _, _, _⟩ := H3i5.out
      obtain ⟨t0, t1, t2, _, _, _⟩ := H3t5.out
      obtain ⟨u0, u1, u2, _, _, _⟩ := H3u5.out
      have hv1 : w.heap.size + 1 < w5.heap.size := by omega
      have hv2 : w.heap.size + 1 + 1 < w5.heap.size := by omega
      have hv4 : w4.heap.size < w5.heap.size := by omega
      simp only at hin6
      have HS1 := hide (fun o => sameTerm_any 121 u u a5 cap5 a2 cap2 (w5.alloc o) (by omega) (by omega) (InP_alloc o (InP_below hb45 hin5)) (InP_alloc o (InP_below hbw5 hin2)))
      have HIy := hide hin6
      clear p0 p1 p2 q0 q1 q2 cg4 HP2 hb5
      rw [sameT_refl] at HS1
      go_wp2_with fail
      refine (HS1.out _).mono ?_
      rintro e w6 ⟨rfl, hb6⟩
      have hz6 := hb6.size
      simp at hz6
      have hb56 : Below w5.heap.size w5 w6 := (below1 _ _).trans (hb6.mono (by simp))
      have hbw6 : Below w.heap.size w w6 := hbw5.trans (hb56.mono (by omega))
      have H3y6 : Hid (Three w6 w5.heap.size (.int .i64 t.v) (.int .i64 t.f) (.slice a6 t.args.length cap6)) := (Three.new 27 rfl).below hb6
      have H3t6 := hide (H3t5.out.below hb56)
      obtain ⟨y0, y1, y2, _, _, _⟩ := H3y6.out
      obtain ⟨v0, v1, v2, _, _, _⟩ := H3t6.out
      have HS2 := hide (sameTerm_any 121 t t a6 cap6 a cap w6 (by omega) (by omega) (InP_below hb56 HIy.out) (InP_below hbw6 hin))
      rw [sameT_refl] at HS2
      clear HS1 hb6
      go_wp2_with fail
      refine HS2.out.mono ?_
      rintro e w7 ⟨rfl, hb7⟩
      go_wp2_with fail
      go_ret
      exact ⟨rfl, hbw6.trans (hb7.mono (by omega))⟩
    · have hl1 : (l != 0) = true := by simpa using hl0
      clear hl0
      go_wp2_with fail
      go_ret
      exact ⟨rfl, hbw3.alloc (by omega) _⟩
  · have hk1 : (k != 0) = true := by simpa using hk
    clear hk
    go_wp2_with fail
    go_ret
    exact ⟨rfl, hbw3.alloc (by omega) _⟩

end Go.Proofs.Ytbkedppkdhfpoaa

namespace Go.Proofs.Ytbkedppkdhfpoaa

/-- Of the first arguments that are not the same, is that of the first greater? -/
def firstN (g : T → T → Bool) : List T → List T → Bool
  | a :: xs, b :: ys => if sameT a b then firstN g xs ys else g a b
  | _, _ => false
def gtN : Nat → T → T → Bool
  | 0, _, _ => false
  | n + 1, s, t =>
    if s.v ≠ 0 then false else if t.v ≠ 0 then standsT t.v s else
      if s.args.any (fun a => sameT a t || gtN n a t) then true else
        if decide (s.f < t.f) || t.args.any (fun b => !gtN n s b) then false else decide (t.f < s.f) || firstN (gtN n) s.args t.args
/-- s is greater than t. -/
def gt (s t : T) : Bool := gtN (s.sz + t.sz) s t

theorem firstN_congr {g h : T → T → Bool} : ∀ {xs ys : List T}, (∀ a b, a ∈ xs → b ∈ ys → g a b = h a b) → firstN g xs ys = firstN h xs ys := by
  intro xs
  induction xs with
  | nil => intro ys _; rfl
  | cons a xs ih =>
    intro ys hh
    cases ys with
    | nil => rfl
    | cons b ys =>
      show (if sameT a b then firstN g xs ys else g a b) = (if sameT a b then firstN h xs ys else h a b)
      rw [ih (fun x y hx hy => hh x y (List.mem_cons_of_mem _ hx) (List.mem_cons_of_mem _ hy)), hh a b List.mem_cons_self List.mem_cons_self]
theorem any_congr' {α : Type} {l : List α} {f g : α → Bool} (h : ∀ a, a ∈ l → f a = g a) : l.any f = l.any g := by
  induction l with
  | nil => rfl
  | cons a l ih => rw [List.any_cons, List.any_cons, h a List.mem_cons_self, ih (fun x hx => h x (List.mem_cons_of_mem _ hx))]
theorem arg_sz {s a : T} (h : a ∈ s.args) : a.sz < s.sz := by
  have := T.szL_mem h
  have := T.sz_eq s
  omega

theorem gtN_stable : ∀ (n m : Nat) (s t : T), s.sz + t.sz ≤ n → s.sz + t.sz ≤ m → gtN n s t = gtN m s t := by
  intro n
  induction n with
  | zero => intro m s t h; have := s.sz_pos; omega
  | succ n ih =>
    intro m s t h1 h2
    cases m with
    | zero => have := s.sz_pos; omega
    | succ m =>
      have e1 : s.args.any (fun a => sameT a t || gtN n a t) = s.args.any (fun a => sameT a t || gtN m a t) := any_congr' (fun a ha => by
        have := arg_sz ha
        rw [ih m a t (by omega) (by omega)])
      have e2 : t.args.any (fun b => !gtN n s b) = t.args.any (fun b => !gtN m s b) := any_congr' (fun b hb => by
        have := arg_sz hb
        rw [ih m s b (by omega) (by omega)])
      have e3 : firstN (gtN n) s.args t.args = firstN (gtN m) s.args t.args := firstN_congr (fun a b ha hb => by
        have := arg_sz ha
        have := arg_sz hb
        exact ih m a b (by omega) (by omega))
      rw [gtN, gtN, e1, e2, e3]

theorem gt_eq (s t : T) : gt s t = if s.v ≠ 0 then false else if t.v ≠ 0 then standsT t.v s else
      if s.args.any (fun a => sameT a t || gt a t) then true else
        if decide (s.f < t.f) || t.args.any (fun b => !gt s b) then false else decide (t.f < s.f) || firstN gt s.args t.args := by
  have hs := s.sz_pos
  obtain ⟨n, hn⟩ : ∃ n, s.sz + t.sz = n + 1 := ⟨s.sz + t.sz - 1, by omega⟩
  have e1 : s.args.any (fun a => sameT a t || gtN n a t) = s.args.any (fun a => sameT a t || gt a t) := any_congr' (fun a ha => by
    have := arg_sz ha
    rw [gt, gtN_stable n _ a t (by omega) (Nat.le_refl _)])
  have e2 : t.args.any (fun b => !gtN n s b) = t.args.any (fun b => !gt s b) := any_congr' (fun b hb => by
    have := arg_sz hb
    rw [gt, gtN_stable n _ s b (by omega) (Nat.le_refl _)])
  have e3 : firstN (gtN n) s.args t.args = firstN gt s.args t.args := firstN_congr (fun a b ha hb => by
    have := arg_sz ha
    have := arg_sz hb
    rw [gt]
    exact gtN_stable n _ a b (by omega) (Nat.le_refl _))
  rw [gt, hn, gtN, e1, e2, e3]

/-- Two terms that are right and have the same function have as many arguments. -/
theorem same_arity {ar : List Int} {s t : T} (hs : okP ar s) (ht : okP ar t) (h1 : s.v = 0) (h2 : t.v = 0) (hf : s.f = t.f) : s.args.length = t.args.length := by
  have a1 := (okP_iff.1 hs).1
  have a2 := (okP_iff.1 ht).1
  simp only [partErr] at a1 a2
  rw [if_neg (by simp [h1])] at a1
  rw [if_neg (by simp [h2])] at a2
  split at a1
  · cases a1
  · split at a1
    · cases a1
    · split at a2
      · cases a2
      · split at a2
        · cases a2
        · rename_i h3 h4 _ h5
          rw [hf] at h4
          omega

/-- All parts of a term, each ahead of those that stand in it. -/
def pre : T → List T
  | ⟨v, f, args⟩ => ⟨v, f, args⟩ :: preL args
  where
  preL : List T → List T
    | [] => []
    | t :: ts => pre t ++ preL ts
theorem pre_eq (t : T) : pre t = t :: pre.preL t.args := by cases t; rfl
theorem preL_cons (t : T) (ts : List T) : pre.preL (t :: ts) = pre t ++ pre.preL ts := rfl
theorem pre_length : ∀ (n : Nat), (∀ t : T, t.sz ≤ n → (pre t).length = t.sz) ∧ (∀ ts : List T, T.sz.szL ts ≤ n → (pre.preL ts).length = T.sz.szL ts) := by
  intro n
  induction n with
  | zero =>
    refine ⟨fun t h => by have := t.sz_pos; omega, fun ts h => ?_⟩
    cases ts with
    | nil => rfl
    | cons t ts => have := t.sz_pos; rw [T.szL_cons] at h; omega
  | succ n ih =>
    have h1 : ∀ t : T, t.sz ≤ n + 1 → (pre t).length = t.sz := fun t h => by
      rw [T.sz_eq] at h ⊢
      rw [pre_eq, List.length_cons, ih.2 _ (by omega)]; omega
    refine ⟨h1, fun ts => ?_⟩
    induction ts with
    | nil => intro _; rfl
    | cons t ts iht =>
      intro h
      rw [T.szL_cons] at h ⊢
      rw [preL_cons, List.length_append, h1 t (by omega), iht (by omega)]

/-- From number n on, the parts of these terms stand in the list of all. -/
def Subs (PS : List T) (n : Nat) (ts : List T) : Prop := ∃ rest, PS.drop n = pre.preL ts ++ rest
theorem Subs.at {PS : List T} {n : Nat} {ts : List T} {k : Nat} {t : T} (h : Subs PS n ts) (hk : ts[k]? = some t) : PS[n + T.sz.szL (ts.take k)]? = some t ∧ Subs PS (n + T.sz.szL (ts.take k) + 1) t.args ∧ n + T.sz.szL (ts.take k) < PS.length := by
  obtain ⟨rest, hr⟩ := h
  have hlt : k < ts.length := by
    rcases Nat.lt_or_ge k ts.length with h | h
    · exact h
    · rw [List.getElem?_eq_none h] at hk; cases hk
  have e : ts = ts.take k ++ t :: ts.drop (k + 1) := by
    rw [List.getElem?_eq_getElem hlt] at hk
    simp at hk
    rw [← hk, List.getElem_cons_drop, List.take_append_drop]
  have happ : ∀ a b : List T, pre.preL (a ++ b) = pre.preL a ++ pre.preL b := by
    intro a b
    induction a with
    | nil => rfl
    | cons x xs ih => rw [List.cons_append, preL_cons, preL_cons, ih, List.append_assoc]
  have hl := (pre_length _).2 (ts.take k) (Nat.le_refl _)
  have e2 : PS.drop (n + T.sz.szL (ts.take k)) = t :: (pre.preL t.args ++ (pre.preL (ts.drop (k + 1)) ++ rest)) := by
    rw [← List.drop_drop, hr]
    have h3 : pre.preL ts = pre.preL (ts.take k) ++ (pre t ++ pre.preL (ts.drop (k + 1))) := by
      rw [← preL_cons, ← happ, ← e]
    rw [h3, pre_eq, List.append_assoc, ← hl, List.drop_left]
    simp
  have e3 : PS[n + T.sz.szL (ts.take k)]? = some t := by
    have := congrArg List.head? e2
    rw [List.head?_drop] at this
    simpa using this
  refine ⟨e3, ⟨pre.preL (ts.drop (k + 1)) ++ rest, ?_⟩, ?_⟩
  · rw [← List.drop_drop, e2]; rfl
  · rcases Nat.lt_or_ge (n + T.sz.szL (ts.take k)) PS.length with h | h
    · exact h
    · rw [List.getElem?_eq_none h] at e3; cases e3

theorem ok_two {ar : List Int} {s t : T} (h : allErr ar [s, t] = 0) : s.sz ≤ 120 ∧ okP ar s ∧ t.sz ≤ 120 ∧ okP ar t := by
  have h1 := allErr_iff.1 h
  exact ⟨(h1.2 s (by simp)).1, (h1.2 s (by simp)).2, (h1.2 t (by simp)).1, (h1.2 t (by simp)).2⟩

end Go.Proofs.Ytbkedppkdhfpoaa

namespace Go.Proofs.Ytbkedppkdhfpoaa

/-- A variable that is right has no arguments and no function. -/
theorem ok_var {ar : List Int} {t : T} (h : okP ar t) (hv : t.v ≠ 0) : t.f = 0 ∧ t.args = [] := by
  have h1 := (okP_iff.1 h).1
  rw [partErr_var hv, varErr] at h1
  split at h1
  · cases h1
  · split at h1
    · cases h1
    · rename_i h2
      constructor
      · omega
      · exact List.length_eq_zero_iff.1 (by omega)
theorem gt_var {s t : T} (hs : s.v = 0) (ht : t.v ≠ 0) : gt s t = standsT t.v s := by
  rw [gt_eq, if_neg (by simp [hs]), if_pos ht]
theorem gt_ofvar {s t : T} (hs : s.v ≠ 0) : gt s t = false := by rw [gt_eq, if_pos hs]

/-- Greater than a variable, or that variable: it stands there. -/
theorem gt_stands {ar : List Int} {a t : T} (ha : okP ar a) (ht : okP ar t) (hv : t.v ≠ 0) : (gt a t || sameT a t) = standsT t.v a := by
  obtain ⟨f1, f2⟩ := ok_var ht hv
  by_cases h : a.v = 0
  · have h1 : sameT a t = false := by
      rw [sameT_eq]
      have : ¬ a.v = t.v := by omega
      simp [this]
    rw [gt_var h hv, h1, Bool.or_false]
  · obtain ⟨g1, g2⟩ := ok_var ha h
    rw [gt_ofvar h, Bool.false_or, sameT_eq, standsT_eq, f1, f2, g1, g2]
    have h1 : sameT.sameL [] [] = true := rfl
    have h2 : standsT.standsL t.v [] = false := rfl
    rw [h1, h2, Bool.or_false]
    by_cases h3 : a.v = t.v <;> simp [h3]
theorem standsL_any (v : Int) (ts : List T) : standsT.standsL v ts = ts.any (standsT v) := by
  induction ts with
  | nil => rfl
  | cons t ts ih => rw [standsL_cons, List.any_cons, ih]

/-- What the document's table says of two parts, by what it says of lesser ones. -/
def refBody (s t : T) : Bool :=
  (decide (s.v = 0) && s.args.any (fun a => gt a t || sameT a t)) ||
    ((decide (s.v = 0) && decide (t.v = 0) && decide (t.f ≤ s.f) && t.args.all (fun c => gt s c)) && (decide (t.f < s.f) || (decide (s.f = t.f) && firstN gt s.args t.args)))

theorem gt_ref {ar : List Int} {s t : T} (hs : okP ar s) (ht : okP ar t) : gt s t = refBody s t := by
  rw [refBody]
  by_cases h1 : s.v = 0
  · by_cases h2 : t.v = 0
    · rw [gt_eq, if_neg (by simp [h1]), if_neg (by simp [h2]), decide_eq_true h1, decide_eq_true h2, Bool.true_and, Bool.true_and, Bool.true_and]
      have e1 : s.args.any (fun a => sameT a t || gt a t) = s.args.any (fun a => gt a t || sameT a t) := any_congr' (fun a _ => Bool.or_comm _ _)
      have e2 : t.args.any (fun c => !gt s c) = !t.args.all (fun c => gt s c) := by
        rw [List.all_eq_not_any_not, Bool.not_not]
      rw [e1, e2]
      cases s.args.any (fun a => gt a t || sameT a t) with
      | true => simp
      | false =>
        by_cases h3 : s.f < t.f
        · have h4 : ¬ t.f ≤ s.f := by omega
          simp [h3, h4]
        · have h4 : t.f ≤ s.f := by omega
          cases t.args.all (fun c => gt s c) with
          | false => simp [h3]
          | true =>
            by_cases h5 : t.f < s.f
            · simp [h3, h4, h5]
            · have h6 : s.f = t.f := by omega
              simp [h6]
    · rw [gt_var h1 h2, decide_eq_true h1, decide_eq_false h2, Bool.true_and, Bool.true_and, Bool.false_and, Bool.false_and, Bool.false_and, Bool.or_false, standsT_eq, standsL_any]
      have h3 : (s.v == t.v) = false := by
        rw [h1]; simp; omega
      rw [h3, Bool.false_or]
      exact any_congr' (fun a ha => (gt_stands (okL_mem.1 (okP_iff.1 hs).2 a ha) ht h2).symm)
  · rw [gt_ofvar h1, decide_eq_false h1]; simp

end Go.Proofs.Ytbkedppkdhfpoaa

namespace Go.Proofs.Ytbkedppkdhfpoaa

theorem sameL_eq_aux : ∀ (n : Nat), (∀ t u : T, t.sz ≤ n → sameT t u = true → t = u) ∧ (∀ ts us : List T, T.sz.szL ts ≤ n → sameT.sameL ts us = true → ts = us) := by
  intro n
  induction n with
  | zero =>
    refine ⟨fun t u h => by have := t.sz_pos; omega, fun ts us h hs => ?_⟩
    cases ts with
    | nil =>
      cases us with
      | nil => rfl
      | cons u us => rw [sameL_length (by simp)] at hs; cases hs
    | cons t ts => have := t.sz_pos; rw [T.szL_cons] at h; omega
  | succ n ih =>
    have h1 : ∀ t u : T, t.sz ≤ n + 1 → sameT t u = true → t = u := fun t u h hs => by
      have hte := T.sz_eq t
      rw [sameT_eq] at hs
      simp only [Bool.and_eq_true, beq_iff_eq] at hs
      have := ih.2 t.args u.args (by omega) hs.2
      cases t; cases u
      simp_all
    refine ⟨h1, fun ts => ?_⟩
    induction ts with
    | nil =>
      intro us _ hs
      cases us with
      | nil => rfl
      | cons u us => rw [sameL_length (by simp)] at hs; cases hs
    | cons t ts iht =>
      intro us h hs
      rw [T.szL_cons] at h
      cases us with
      | nil => rw [sameL_length (by simp)] at hs; cases hs
      | cons u us =>
        rw [sameL_cons, Bool.and_eq_true] at hs
        rw [h1 t u (by omega) hs.1, iht us (by omega) hs.2]
theorem sameT_iff {t u : T} : sameT t u = true ↔ t = u := ⟨(sameL_eq_aux t.sz).1 t u (Nat.le_refl _), fun h => by rw [h]; exact sameT_refl u⟩
theorem sameT_ne {t u : T} : sameT t u = false ↔ t ≠ u := by
  constructor
  · intro h e; rw [sameT_iff.2 e] at h; cases h
  · intro h
    rcases Bool.eq_false_or_eq_true (sameT t u) with h1 | h1
    · exact absurd (sameT_iff.1 h1) h
    · exact h1

theorem gt_iff {ar : List Int} {s t : T} (hs : okP ar s) (ht : okP ar t) : gt s t = true ↔
    (s.v = 0 ∧ ∃ a, a ∈ s.args ∧ (gt a t = true ∨ a = t)) ∨ (s.v = 0 ∧ t.v = 0 ∧ t.f ≤ s.f ∧ (∀ c, c ∈ t.args → gt s c = true) ∧ (t.f < s.f ∨ (s.f = t.f ∧ firstN gt s.args t.args = true))) := by
  rw [gt_ref hs ht, refBody]
  simp only [Bool.or_eq_true, Bool.and_eq_true, decide_eq_true_eq, List.any_eq_true, List.all_eq_true, sameT_iff]
  constructor
  · rintro (h | ⟨⟨⟨⟨h1, h2⟩, h3⟩, h4⟩, h5⟩)
    · exact Or.inl h
    · exact Or.inr ⟨h1, h2, h3, h4, h5⟩
  · rintro (h | ⟨h1, h2, h3, h4, h5⟩)
    · exact Or.inl h
    · exact Or.inr ⟨⟨⟨⟨h1, h2⟩, h3⟩, h4⟩, h5⟩

/-- Where of two lists the first ones that are not the same part. -/
theorem firstN_iff {g : T → T → Bool} : ∀ {xs ys : List T}, firstN g xs ys = true ↔ ∃ (k : Nat) (a b : T), xs[k]? = some a ∧ ys[k]? = some b ∧ a ≠ b ∧ g a b = true ∧ (∀ i, i < k → xs[i]? = ys[i]?) := by
  intro xs
  induction xs with
  | nil =>
    intro ys
    constructor
    · intro h; simp [firstN] at h
    · rintro ⟨k, a, b, h, _⟩; simp at h
  | cons x xs ih =>
    intro ys
    cases ys with
    | nil =>
      constructor
      · intro h; simp [firstN] at h
      · rintro ⟨k, a, b, _, h, _⟩; simp at h
    | cons y ys =>
      rw [firstN]
      by_cases h : sameT x y = true
      · rw [if_pos h, ih]
        have e := sameT_iff.1 h
        subst e
        constructor
        · rintro ⟨k, a, b, h1, h2, h3, h4, h5⟩
          refine ⟨k + 1, a, b, by simpa using h1, by simpa using h2, h3, h4, fun i hi => ?_⟩
          cases i with
          | zero => rfl
          | succ i => simpa using h5 i (by omega)
        · rintro ⟨k, a, b, h1, h2, h3, h4, h5⟩
          cases k with
          | zero =>
            simp at h1 h2
            exact absurd (h1.symm.trans h2) h3
          | succ k =>
            refine ⟨k, a, b, by simpa using h1, by simpa using h2, h3, h4, fun i hi => ?_⟩
            have := h5 (i + 1) (by omega)
            simpa using this
      · rw [if_neg h]
        have hne : x ≠ y := fun e => h (sameT_iff.2 e)
        constructor
        · intro hg
          exact ⟨0, x, y, rfl, rfl, hne, hg, fun i hi => by omega⟩
        · rintro ⟨k, a, b, h1, h2, h3, h4, h5⟩
          cases k with
          | zero =>
            simp at h1 h2
            subst h1; subst h2; exact h4
          | succ k =>
            have := h5 0 (by omega)
            simp at this
            exact absurd this hne

theorem okArg {ar : List Int} {s a : T} (hs : okP ar s) (ha : a ∈ s.args) : okP ar a := okL_mem.1 (okP_iff.1 hs).2 a ha
theorem v_of_arg {ar : List Int} {s a : T} (hs : okP ar s) (ha : a ∈ s.args) : s.v = 0 := by
  by_cases h : s.v = 0
  · exact h
  · rw [(ok_var hs h).2] at ha; cases ha

/-- A term is greater than what stands in it. -/
theorem gt_arg {ar : List Int} {s a : T} (hs : okP ar s) (ha : a ∈ s.args) : gt s a = true :=
  (gt_iff hs (okArg hs ha)).2 (Or.inl ⟨v_of_arg hs ha, a, ha, Or.inr rfl⟩)

/-- What is greater than a greater one is. -/
theorem gt_trans_aux {ar : List Int} : ∀ (n : Nat) (s t u : T), s.sz + t.sz + u.sz ≤ n → okP ar s → okP ar t → okP ar u → gt s t = true → gt t u = true → gt s u = true := by
  intro n
  induction n with
  | zero => intro s t u h; have := s.sz_pos; omega
  | succ n ih =>
    intro s t u hn hs ht hu h1 h2
    rcases (gt_iff hs ht).1 h1 with ⟨hv, a, ha, h3⟩ | ⟨hv, htv, hf, hall, hlast⟩
    · have hasz := arg_sz ha
      refine (gt_iff hs hu).2 (Or.inl ⟨hv, a, ha, ?_⟩)
      rcases h3 with h3 | rfl
      · exact Or.inl (ih a t u (by omega) (okArg hs ha) ht hu h3 h2)
      · exact Or.inl h2
    · rcases (gt_iff ht hu).1 h2 with ⟨_, b, hb, h4⟩ | ⟨_, huv, hf2, hall2, hlast2⟩
      · have hbsz := arg_sz hb
        rcases h4 with h4 | rfl
        · exact ih s b u (by omega) hs (okArg ht hb) hu (hall b hb) h4
        · exact hall _ hb
      · have hall3 : ∀ c, c ∈ u.args → gt s c = true := fun c hc => by
          have hcsz := arg_sz hc
          exact ih s t c (by omega) hs ht (okArg hu hc) h1 (hall2 c hc)
        refine (gt_iff hs hu).2 (Or.inr ⟨hv, huv, by omega, hall3, ?_⟩)
        rcases hlast with hl | ⟨hl, hx⟩
        · exact Or.inl (by omega)
        · rcases hlast2 with hl2 | ⟨hl2, hx2⟩
          · exact Or.inl (by omega)
          · refine Or.inr ⟨by omega, ?_⟩
            obtain ⟨k, a, b, q1, q2, q3, q4, q5⟩ := firstN_iff.1 hx
            obtain ⟨k2, b2, c, r1, r2, r3, r4, r5⟩ := firstN_iff.1 hx2
            have ma := List.mem_of_getElem? q1
            have mb := List.mem_of_getElem? q2
            have mb2 := List.mem_of_getElem? r1
            have mc := List.mem_of_getElem? r2
            have za := arg_sz ma
            have zb := arg_sz mb
            have zb2 := arg_sz mb2
            have zc := arg_sz mc
            refine firstN_iff.2 ?_
            rcases Nat.lt_trichotomy k k2 with hk | hk | hk
            · have e := r5 k hk
              refine ⟨k, a, b, q1, e.symm.trans q2, q3, q4, fun i hi => (q5 i hi).trans (r5 i (by omega))⟩
            · subst hk
              rw [q2] at r1
              simp only [Option.some.injEq] at r1
              subst r1
              have hac := ih a b c (by omega) (okArg hs ma) (okArg ht mb) (okArg hu mc) q4 r4
              refine ⟨k, a, c, q1, r2, ?_, hac, fun i hi => (q5 i hi).trans (r5 i hi)⟩
              intro e
              subst e
              -- a > b > a, so the lesser of both is greater than itself: by what is shown of lesser ones this cannot be
              have irr : ∀ (m : Nat) (x : T), x.sz ≤ m → 3 * x.sz ≤ n + 2 → okP ar x → gt x x = true → False := by
                intro m
                induction m with
                | zero => intro x h; have := x.sz_pos; omega
                | succ m ihm =>
                  intro x hxm hxa hox hxx
                  rcases (gt_iff hox hox).1 hxx with ⟨hxv, d, hd, h9⟩ | ⟨_, _, _, _, h9⟩
                  · have hdsz := arg_sz hd
                    rcases h9 with h9 | h9
                    · exact ihm d (by omega) (by omega) (okArg hox hd) (ih d x d (by omega) (okArg hox hd) hox (okArg hox hd) h9 (gt_arg hox hd))
                    · rw [h9] at hdsz; omega
                  · rcases h9 with h9 | ⟨_, h9⟩
                    · omega
                    · obtain ⟨_, d, e, w1, w2, w3, _⟩ := firstN_iff.1 h9
                      rw [w1] at w2
                      exact w3 (by simpa using w2)
              rcases Nat.le_total a.sz b.sz with hab | hab
              · exact irr a.sz a (Nat.le_refl _) (by omega) (okArg hs ma) hac
              · exact irr b.sz b (Nat.le_refl _) (by omega) (okArg ht mb) (ih b a b (by omega) (okArg ht mb) (okArg hs ma) (okArg ht mb) r4 q4)
            · have e := q5 k2 hk
              exact ⟨k2, b2, c, e.trans r1, r2, r3, r4, fun i hi => (q5 i (by omega)).trans (r5 i hi)⟩
theorem gt_trans {ar : List Int} {s t u : T} (hs : okP ar s) (ht : okP ar t) (hu : okP ar u) (h1 : gt s t = true) (h2 : gt t u = true) : gt s u = true := gt_trans_aux _ s t u (Nat.le_refl _) hs ht hu h1 h2

/-- Nothing is greater than itself. -/
theorem gt_irr_aux {ar : List Int} : ∀ (m : Nat) (x : T), x.sz ≤ m → okP ar x → gt x x = true → False := by
  intro m
  induction m with
  | zero => intro x h; have := x.sz_pos; omega
  | succ m ihm =>
    intro x hxm hox hxx
    rcases (gt_iff hox hox).1 hxx with ⟨hxv, d, hd, h9⟩ | ⟨_, _, _, _, h9⟩
    · have hdsz := arg_sz hd
      rcases h9 with h9 | h9
      · exact ihm d (by omega) (okArg hox hd) (gt_trans (okArg hox hd) hox (okArg hox hd) h9 (gt_arg hox hd))
      · rw [h9] at hdsz; omega
    · rcases h9 with h9 | ⟨_, h9⟩
      · omega
      · obtain ⟨_, d, e, w1, w2, w3, _⟩ := firstN_iff.1 h9
        rw [w1] at w2
        exact w3 (by simpa using w2)
theorem gt_irr {ar : List Int} {s : T} (hs : okP ar s) : gt s s = false := by
  rcases Bool.eq_false_or_eq_true (gt s s) with h | h
  · exact (gt_irr_aux _ s (Nat.le_refl _) hs h).elim
  · exact h
theorem gt_asym {ar : List Int} {s t : T} (hs : okP ar s) (ht : okP ar t) (h : gt s t = true) : gt t s = false := by
  rcases Bool.eq_false_or_eq_true (gt t s) with h1 | h1
  · have := gt_trans hs ht hs h h1
    rw [gt_irr hs] at this; cases this
  · exact h1

/-- No variables stand in a term. -/
def ground : T → Bool
  | ⟨v, _, args⟩ => v == 0 && groundL args
  where
  groundL : List T → Bool
    | [] => true
    | t :: ts => ground t && groundL ts
theorem ground_eq (t : T) : ground t = (t.v == 0 && ground.groundL t.args) := by cases t; rfl
theorem groundL_mem {ts : List T} : ground.groundL ts = true ↔ ∀ t, t ∈ ts → ground t = true := by
  induction ts with
  | nil => simp [ground.groundL]
  | cons t ts ih => rw [ground.groundL, Bool.and_eq_true, ih]; simp
theorem ground_arg {s a : T} (h : ground s = true) (ha : a ∈ s.args) : ground a = true := by
  rw [ground_eq, Bool.and_eq_true] at h
  exact groundL_mem.1 h.2 a ha
theorem ground_v {s : T} (h : ground s = true) : s.v = 0 := by
  rw [ground_eq, Bool.and_eq_true] at h
  simpa using h.1
/-- The first place at which two lists of one length part; else they are the same. -/
theorem parts_or_same : ∀ (xs ys : List T), xs.length = ys.length → xs = ys ∨ ∃ (k : Nat) (a b : T), xs[k]? = some a ∧ ys[k]? = some b ∧ a ≠ b ∧ ∀ i, i < k → xs[i]? = ys[i]? := by
  intro xs
  induction xs with
  | nil => intro ys h; left; exact (List.length_eq_zero_iff.1 h.symm).symm
  | cons x xs ih =>
    intro ys h
    cases ys with
    | nil => simp at h
    | cons y ys =>
      by_cases e : x = y
      · subst e
        rcases ih ys (by simpa using h) with rfl | ⟨k, a, b, h1, h2, h3, h4⟩
        · exact Or.inl rfl
        · refine Or.inr ⟨k + 1, a, b, by simpa using h1, by simpa using h2, h3, fun i hi => ?_⟩
          cases i with
          | zero => rfl
          | succ i => simpa using h4 i (by omega)
      · exact Or.inr ⟨0, x, y, rfl, rfl, e, fun i hi => by omega⟩
theorem gt_total_aux {ar : List Int} : ∀ (n : Nat) (s t : T), s.sz + t.sz ≤ n → okP ar s → okP ar t → ground s = true → ground t = true → s = t ∨ gt s t = true ∨ gt t s = true := by
  intro n
  induction n with
  | zero => intro s t h; have := s.sz_pos; omega
  | succ n ih =>
    intro s t hn hs ht gs gt'
    by_cases h1 : ∃ a, a ∈ s.args ∧ (gt a t = true ∨ a = t)
    · exact Or.inr (Or.inl ((gt_iff hs ht).2 (Or.inl ⟨ground_v gs, h1⟩)))
    · by_cases h2 : ∃ b, b ∈ t.args ∧ (gt b s = true ∨ b = s)
      · exact Or.inr (Or.inr ((gt_iff ht hs).2 (Or.inl ⟨ground_v gt', h2⟩)))
      · have ha : ∀ a, a ∈ s.args → gt t a = true := fun a ha => by
          have := arg_sz ha
          rcases ih a t (by omega) (okArg hs ha) ht (ground_arg gs ha) gt' with h | h | h
          · exact absurd ⟨a, ha, Or.inr h⟩ h1
          · exact absurd ⟨a, ha, Or.inl h⟩ h1
          · exact h
        have hb : ∀ b, b ∈ t.args → gt s b = true := fun b hb => by
          have := arg_sz hb
          rcases ih b s (by omega) (okArg ht hb) hs (ground_arg gt' hb) gs with h | h | h
          · exact absurd ⟨b, hb, Or.inr h⟩ h2
          · exact absurd ⟨b, hb, Or.inl h⟩ h2
          · exact h
        rcases Int.lt_trichotomy s.f t.f with hf | hf | hf
        · exact Or.inr (Or.inr ((gt_iff ht hs).2 (Or.inr ⟨ground_v gt', ground_v gs, by omega, ha, Or.inl hf⟩)))
        · rcases parts_or_same s.args t.args (same_arity hs ht (ground_v gs) (ground_v gt') hf) with e | ⟨k, a, b, q1, q2, q3, q4⟩
          · left
            have e1 := ground_v gs
            have e2 := ground_v gt'
            cases s; cases t; simp_all
          · have ma := List.mem_of_getElem? q1
            have mb := List.mem_of_getElem? q2
            have za := arg_sz ma
            have zb := arg_sz mb
            rcases ih a b (by omega) (okArg hs ma) (okArg ht mb) (ground_arg gs ma) (ground_arg gt' mb) with h | h | h
            · exact absurd h q3
            · exact Or.inr (Or.inl ((gt_iff hs ht).2 (Or.inr ⟨ground_v gs, ground_v gt', by omega, hb, Or.inr ⟨hf, firstN_iff.2 ⟨k, a, b, q1, q2, q3, h, q4⟩⟩⟩)))
            · exact Or.inr (Or.inr ((gt_iff ht hs).2 (Or.inr ⟨ground_v gt', ground_v gs, by omega, ha, Or.inr ⟨hf.symm, firstN_iff.2 ⟨k, b, a, q2, q1, q3.symm, h, fun i hi => (q4 i hi).symm⟩⟩⟩)))
        · exact Or.inr (Or.inl ((gt_iff hs ht).2 (Or.inr ⟨ground_v gs, ground_v gt', by omega, hb, Or.inl hf⟩)))
/-- Of two without variables one is greater, or they are the same. -/
theorem gt_total {ar : List Int} {s t : T} (hs : okP ar s) (ht : okP ar t) (gs : ground s = true) (gt' : ground t = true) : s = t ∨ gt s t = true ∨ gt t s = true := gt_total_aux _ s t (Nat.le_refl _) hs ht gs gt'

end Go.Proofs.Ytbkedppkdhfpoaa

namespace Go.Proofs.Ytbkedppkdhfpoaa

/-- 1: greater; 2: the same; 3: neither. -/
def cmpS (s t : T) : Int := if gt s t then 1 else if sameT s t then 2 else 3
theorem cmpS_range (s t : T) : cmpS s t = 1 ∨ cmpS s t = 2 ∨ cmpS s t = 3 := by
  rw [cmpS]; split
  · exact Or.inl rfl
  · split
    · exact Or.inr (Or.inl rfl)
    · exact Or.inr (Or.inr rfl)
theorem cmpS_one {s t : T} : cmpS s t = 1 ↔ gt s t = true := by
  rw [cmpS]
  by_cases h : gt s t = true
  · rw [if_pos h]; simp [h]
  · rw [if_neg h]
    constructor
    · intro h'; split at h' <;> cases h'
    · intro h'; exact absurd h' h
theorem cmpS_three {s t : T} : cmpS s t ≠ 3 ↔ gt s t = true ∨ s = t := by
  rw [cmpS]
  by_cases h : gt s t = true
  · rw [if_pos h]; simp [h]
  · rw [if_neg h]
    by_cases h2 : sameT s t = true
    · rw [if_pos h2]; simp [sameT_iff.1 h2]
    · rw [if_neg h2]
      constructor
      · intro h'; exact absurd rfl h'
      · rintro (h' | h')
        · exact absurd h' h
        · exact absurd (sameT_iff.2 h') h2
theorem cmpS_two {ar : List Int} {s t : T} (hs : okP ar s) : cmpS s t = 2 ↔ s = t := by
  constructor
  · intro h
    rw [cmpS] at h
    split at h
    · cases h
    · split at h
      · rename_i h2; exact sameT_iff.1 h2
      · cases h
  · rintro rfl
    rw [cmpS, gt_irr hs, sameT_refl]; rfl
theorem cmpS_is3 {ar : List Int} {s t : T} (hs : okP ar s) (h : cmpS s t = 3) : s ≠ t ∧ gt s t = false := by
  refine ⟨fun e => ?_, ?_⟩
  · rw [(cmpS_two hs).2 e] at h; cases h
  · cases hgt : gt s t with
    | false => rfl
    | true => rw [cmpS_one.2 hgt] at h; cases h
theorem cmpS_no {s t : T} (h : s ≠ t) : cmpS s t = if gt s t then 1 else 3 := by
  rw [cmpS, if_neg (fun h' => h (sameT_iff.1 h'))]

theorem cmp_var {ar : List Int} {s t : T} (hs : okP ar s) (ht : okP ar t) (h0 : s.v ≠ 0) : cmpS s t = if s.v = t.v then 2 else 3 := by
  rw [cmpS, gt_ofvar h0]
  obtain ⟨f1, a1⟩ := ok_var hs h0
  by_cases h : s.v = t.v
  · obtain ⟨f2, a2⟩ := ok_var ht (by rw [← h]; exact h0)
    have e : s = t := by
      obtain ⟨v, f, a⟩ := s
      obtain ⟨v', f', a'⟩ := t
      simp only at f1 a1 f2 a2 h
      rw [f1, a1, f2, a2, h]
    rw [if_pos h, e, sameT_refl]; rfl
  · rw [if_neg h]
    have : sameT s t = false := sameT_ne.2 (fun e => h (by rw [e]))
    rw [this]; rfl
/-- Where only an argument can be it. -/
theorem cmp_byArg {ar : List Int} {s t : T} (hs : okP ar s) (ht : okP ar t) (h0 : s.v = 0) (h : t.v ≠ 0 ∨ s.f < t.f) : cmpS s t = if s.args.any (fun a => cmpS a t != 3) then 1 else 3 := by
  have hne : s ≠ t := fun e => by
    rcases h with h | h
    · rw [← e] at h; exact h h0
    · rw [e] at h; exact Int.lt_irrefl _ h
  have hiff : gt s t = s.args.any (fun a => cmpS a t != 3) := by
    rw [Bool.eq_iff_iff, gt_iff hs ht, List.any_eq_true]
    constructor
    · rintro (⟨_, a, ha, h1⟩ | ⟨_, h1, h2, _⟩)
      · exact ⟨a, ha, by simpa using cmpS_three.2 h1⟩
      · rcases h with h | h
        · exact absurd h1 h
        · omega
    · rintro ⟨a, ha, h1⟩
      exact Or.inl ⟨h0, a, ha, cmpS_three.1 (by simpa using h1)⟩
  rw [cmpS_no hne, hiff]
/-- Where it is enough that it is greater than each argument. -/
theorem cmp_above {ar : List Int} {s t : T} (hs : okP ar s) (ht : okP ar t) (h0 : s.v = 0) (h1 : t.v = 0) (h : t.f < s.f) : cmpS s t = if t.args.any (fun c => cmpS s c != 1) then 3 else 1 := by
  have hne : s ≠ t := fun e => by rw [e] at h; exact Int.lt_irrefl _ h
  have hiff : gt s t = !t.args.any (fun c => cmpS s c != 1) := by
    rw [Bool.eq_iff_iff, Bool.not_eq_true', List.any_eq_false]
    constructor
    · intro hg c hc
      have h2 := gt_trans hs ht (okArg ht hc) hg (gt_arg ht hc)
      simp [cmpS_one.2 h2]
    · intro hall
      refine (gt_iff hs ht).2 (Or.inr ⟨h0, h1, by omega, fun c hc => ?_, Or.inl h⟩)
      have := hall c hc
      exact cmpS_one.1 (by simpa using this)
  rw [cmpS_no hne, hiff]
  cases t.args.any (fun c => cmpS s c != 1) <;> rfl

theorem mem_drop {xs : List T} {k i : Nat} {a : T} (h : xs[i]? = some a) (hk : k ≤ i) : a ∈ xs.drop k := by
  refine List.mem_of_getElem? (i := i - k) ?_
  rw [List.getElem?_drop, show k + (i - k) = i by omega]; exact h
/-- Of one function: the first arguments that are not the same, and that of s is greater. -/
theorem cmp_more {ar : List Int} {s t a c : T} {k : Nat} (hs : okP ar s) (ht : okP ar t) (h0 : s.v = 0) (h1 : t.v = 0) (hf : s.f = t.f) (ha : s.args[k]? = some a) (hc : t.args[k]? = some c) (hpre : ∀ i, i < k → s.args[i]? = t.args[i]?) (hg : gt a c = true) :
    cmpS s t = if (t.args.drop (k + 1)).any (fun c => cmpS s c != 1) then 3 else 1 := by
  have hma := List.mem_of_getElem? ha
  have hmc := List.mem_of_getElem? hc
  have hac : a ≠ c := fun e => by rw [e, gt_irr (okArg ht hmc)] at hg; cases hg
  have hne : s ≠ t := fun e => by subst e; rw [ha] at hc; exact hac (Option.some.inj hc)
  have hiff : gt s t = !(t.args.drop (k + 1)).any (fun c => cmpS s c != 1) := by
    rw [Bool.eq_iff_iff, Bool.not_eq_true', List.any_eq_false]
    constructor
    · intro hg' x hx
      have hx' := List.mem_of_mem_drop hx
      have h2 := gt_trans hs ht (okArg ht hx') hg' (gt_arg ht hx')
      simp [cmpS_one.2 h2]
    · intro hall
      refine (gt_iff hs ht).2 (Or.inr ⟨h0, h1, by omega, fun x hx => ?_, Or.inr ⟨hf, firstN_iff.2 ⟨k, a, c, ha, hc, hac, hg, hpre⟩⟩⟩)
      obtain ⟨i, hi, e⟩ := List.getElem_of_mem hx
      have hxi : t.args[i]? = some x := by rw [List.getElem?_eq_getElem hi, e]
      rcases Nat.lt_or_ge i k with h | h
      · have h2 : s.args[i]? = some x := (hpre i h).trans hxi
        exact gt_arg hs (List.mem_of_getElem? h2)
      · rcases Nat.eq_or_lt_of_le h with h | h
        · subst h
          obtain rfl : c = x := by rw [hc] at hxi; exact Option.some.inj hxi
          exact gt_trans hs (okArg hs hma) (okArg ht hmc) (gt_arg hs hma) hg
        · have := hall x (mem_drop hxi h)
          exact cmpS_one.1 (by simpa using this)
  rw [cmpS_no hne, hiff]
  cases (t.args.drop (k + 1)).any (fun c => cmpS s c != 1) <;> rfl
/-- Of one function: the first arguments that are not the same, and that of s is not greater. -/
theorem cmp_less {ar : List Int} {s t a c : T} {k : Nat} (hs : okP ar s) (ht : okP ar t) (h0 : s.v = 0) (hf : s.f = t.f) (ha : s.args[k]? = some a) (hc : t.args[k]? = some c) (hpre : ∀ i, i < k → s.args[i]? = t.args[i]?) (hac : a ≠ c) (hg : gt a c = false) :
    cmpS s t = if (s.args.drop (k + 1)).any (fun a => cmpS a t != 3) then 1 else 3 := by
  have hma := List.mem_of_getElem? ha
  have hmc := List.mem_of_getElem? hc
  have hne : s ≠ t := fun e => by subst e; rw [ha] at hc; exact hac (Option.some.inj hc)
  have hiff : gt s t = (s.args.drop (k + 1)).any (fun a => cmpS a t != 3) := by
    rw [Bool.eq_iff_iff, List.any_eq_true]
    constructor
    · intro hg'
      rcases (gt_iff hs ht).1 hg' with ⟨_, x, hx, h1⟩ | ⟨_, _, _, _, h1⟩
      · obtain ⟨i, hi, e⟩ := List.getElem_of_mem hx
        have hxi : s.args[i]? = some x := by rw [List.getElem?_eq_getElem hi, e]
        rcases Nat.lt_or_ge i k with h | h
        · have h2 : x ∈ t.args := List.mem_of_getElem? ((hpre i h).symm.trans hxi)
          have h3 := gt_arg ht h2
          rcases h1 with h1 | h1
          · rw [gt_asym ht (okArg ht h2) h3] at h1; cases h1
          · rw [h1, gt_irr ht] at h3; cases h3
        · rcases Nat.eq_or_lt_of_le h with h | h
          · subst h
            obtain rfl : a = x := by rw [ha] at hxi; exact Option.some.inj hxi
            have h3 : gt a c = true := by
              rcases h1 with h1 | h1
              · exact gt_trans (okArg hs hma) ht (okArg ht hmc) h1 (gt_arg ht hmc)
              · rw [h1]; exact gt_arg ht hmc
            rw [hg] at h3; cases h3
          · exact ⟨x, mem_drop hxi h, by simpa using cmpS_three.2 h1⟩
      · rcases h1 with h1 | ⟨_, h1⟩
        · omega
        · obtain ⟨j, x, y, hx, hy, hxy, hgxy, hall⟩ := firstN_iff.1 h1
          rcases Nat.lt_trichotomy j k with h | h | h
          · have := (hpre j h).symm.trans hx
            rw [hy] at this
            exact absurd (Option.some.inj this).symm hxy
          · subst h
            rw [ha] at hx; rw [hc] at hy
            obtain rfl := Option.some.inj hx
            obtain rfl := Option.some.inj hy
            rw [hg] at hgxy; cases hgxy
          · have := hall k h
            rw [ha, hc] at this
            exact absurd (Option.some.inj this) hac
    · rintro ⟨x, hx, h1⟩
      exact (gt_iff hs ht).2 (Or.inl ⟨h0, x, List.mem_of_mem_drop hx, cmpS_three.1 (by simpa using h1)⟩)
  rw [cmpS_no hne, hiff]
/-- Of one function, and all arguments the same. -/
theorem cmp_same {ar : List Int} {s t : T} (hs : okP ar s) (h0 : s.v = 0) (h1 : t.v = 0) (hf : s.f = t.f) (hall : s.args = t.args) : cmpS s t = 2 := by
  rw [cmpS_two hs]
  obtain ⟨v, f, a⟩ := s
  obtain ⟨v', f', a'⟩ := t
  simp only at h0 h1 hf hall
  rw [h0, h1, hf, hall]

end Go.Proofs.Ytbkedppkdhfpoaa

namespace Go.Proofs.Ytbkedppkdhfpoaa
open Go.RowKit

/-- The parts of a term's arguments lie behind the slice 's', numbered from n on, in blocks of which p holds; the terms themselves in blocks of which r holds. -/
def T.PIn (p r : Nat → Prop) (w : World) : T → Nat → Value → Prop
  | ⟨_, _, args⟩, n, s => ∃ a cap, s = .slice a args.length cap ∧ args.length ≤ cap ∧ PL args n a
  where
  PL : List T → Nat → Option Addr → Prop
    | [], _, _ => True
    | t :: ts, n, a => ∃ b off ta tc s, a = some ⟨b, off, none⟩ ∧ p b ∧ w.cell? ⟨b, off, none⟩ = some (.int .i64 t.v) ∧ w.cell? ⟨b, off + 1, none⟩ = some (.int .i64 t.f) ∧ w.cell? ⟨b, off + 2, none⟩ = some (.slice ta t.args.length tc) ∧
        w.cell? ⟨b, off + 3, none⟩ = some (.int .i64 (n : Int)) ∧ w.cell? ⟨b, off + 4, none⟩ = some s ∧ InP r w t.args ta ∧ t.PIn p r w (n + 1) s ∧ PL ts (n + t.sz) (some ⟨b, off + 5, none⟩)
abbrev PL (p r : Nat → Prop) (w : World) (ts : List T) (n : Nat) (a : Option Addr) : Prop := T.PIn.PL p r w ts n a

theorem PL_nil {p r : Nat → Prop} {w : World} {n : Nat} {a : Option Addr} : PL p r w [] n a := trivial
theorem PL_cons {p r : Nat → Prop} {w : World} {t : T} {ts : List T} {n : Nat} {a : Option Addr} : PL p r w (t :: ts) n a ↔ ∃ b off ta tc s, a = some ⟨b, off, none⟩ ∧ p b ∧ w.cell? ⟨b, off, none⟩ = some (.int .i64 t.v) ∧ w.cell? ⟨b, off + 1, none⟩ = some (.int .i64 t.f) ∧ w.cell? ⟨b, off + 2, none⟩ = some (.slice ta t.args.length tc) ∧
        w.cell? ⟨b, off + 3, none⟩ = some (.int .i64 (n : Int)) ∧ w.cell? ⟨b, off + 4, none⟩ = some s ∧ InP r w t.args ta ∧ t.PIn p r w (n + 1) s ∧ PL p r w ts (n + t.sz) (some ⟨b, off + 5, none⟩) := Iff.rfl
theorem PIn_iff {p r : Nat → Prop} {w : World} {t : T} {n : Nat} {s : Value} : t.PIn p r w n s ↔ ∃ a cap, s = .slice a t.args.length cap ∧ t.args.length ≤ cap ∧ PL p r w t.args n a := by
  cases t; exact Iff.rfl
theorem PL_some {p r : Nat → Prop} {w : World} {ts : List T} {n : Nat} {a : Option Addr} (h : PL p r w ts n a) (hp : 0 < ts.length) : ∃ b off, a = some ⟨b, off, none⟩ := by
  cases ts with
  | nil => simp at hp
  | cons t us =>
    obtain ⟨b, off, _, _, _, rfl, _⟩ := PL_cons.1 h
    exact ⟨b, off, rfl⟩
theorem szL_zero (t : T) (ts : List T) : T.sz.szL ((t :: ts).take 0) = 0 := rfl

/-- The part at index k: its five cells. -/
theorem PL_at {p r : Nat → Prop} {w : World} {ts : List T} : ∀ {b off n k : Nat} {t : T}, PL p r w ts n (some ⟨b, off, none⟩) → ts[k]? = some t →
    ∃ ta tc pa pc, p b ∧ w.cell? ⟨b, off + k * 5, none⟩ = some (.int .i64 t.v) ∧ w.cell? ⟨b, off + k * 5 + 1, none⟩ = some (.int .i64 t.f) ∧ w.cell? ⟨b, off + k * 5 + 2, none⟩ = some (.slice ta t.args.length tc) ∧
      w.cell? ⟨b, off + k * 5 + 3, none⟩ = some (.int .i64 ((n + T.sz.szL (ts.take k) : Nat) : Int)) ∧ w.cell? ⟨b, off + k * 5 + 4, none⟩ = some (.slice pa t.args.length pc) ∧ t.args.length ≤ pc ∧ InP r w t.args ta ∧ PL p r w t.args (n + T.sz.szL (ts.take k) + 1) pa := by
  induction ts with
  | nil => intro b off n k t _ h; simp at h
  | cons u us ih =>
    intro b off n k t h hk
    obtain ⟨b', off', ta, tc, s, hb, hp, h0, h1, h2, h3, h4, hin, hpin, hr⟩ := PL_cons.1 h
    simp only [Option.some.injEq, Addr.mk.injEq] at hb
    obtain ⟨rfl, rfl, _⟩ := hb
    cases k with
    | zero =>
      simp at hk; subst hk
      obtain ⟨pa, pc, rfl, hpc, hl⟩ := PIn_iff.1 hpin
      exact ⟨ta, tc, pa, pc, hp, by simpa using h0, by simpa using h1, by simpa using h2, by simpa [szL_zero, T.szL_nil] using h3, by simpa using h4, hpc, hin, by simpa [T.szL_nil] using hl⟩
    | succ k =>
      simp at hk
      obtain ⟨ta, tc, pa, pc, _, g0, g1, g2, g3, g4, gc, gi, gl⟩ := ih hr hk
      have e : off + (k + 1) * 5 = off + 5 + k * 5 := by omega
      have e2 : n + T.sz.szL ((u :: us).take (k + 1)) = n + u.sz + T.sz.szL (us.take k) := by rw [List.take_succ_cons, T.szL_cons]; omega
      rw [e, e2]
      exact ⟨ta, tc, pa, pc, hp, g0, g1, g2, g3, g4, gc, gi, gl⟩

/-- What lies in w lies in every world that holds the same cells there. -/
theorem PL_mono {p q r r' : Nat → Prop} {w w' : World} (hs : ∀ b o v, p b → w.cell? ⟨b, o, none⟩ = some v → q b ∧ w'.cell? ⟨b, o, none⟩ = some v) (hr : ∀ b o v, r b → w.cell? ⟨b, o, none⟩ = some v → r' b ∧ w'.cell? ⟨b, o, none⟩ = some v) :
    ∀ (m : Nat) (ts : List T) (n : Nat) (a : Option Addr), T.sz.szL ts ≤ m → PL p r w ts n a → PL q r' w' ts n a := by
  intro m
  induction m with
  | zero =>
    intro ts n a hn h
    cases ts with
    | nil => exact PL_nil
    | cons t ts => have := t.sz_pos; rw [T.szL_cons] at hn; omega
  | succ m ih =>
    intro ts
    induction ts with
    | nil => intro n a _ _; exact PL_nil
    | cons t ts iht =>
      intro n a hn h
      rw [T.szL_cons, T.sz_eq] at hn
      obtain ⟨b, off, ta, tc, s, rfl, hp, h0, h1, h2, h3, h4, hin, hpin, hl⟩ := PL_cons.1 h
      obtain ⟨pa, pc, rfl, hpc, hpl⟩ := PIn_iff.1 hpin
      exact PL_cons.2 ⟨b, off, ta, tc, _, rfl, (hs _ _ _ hp h0).1, (hs _ _ _ hp h0).2, (hs _ _ _ hp h1).2, (hs _ _ _ hp h2).2, (hs _ _ _ hp h3).2, (hs _ _ _ hp h4).2, InP_mono hr _ _ _ (Nat.le_refl _) hin,
        PIn_iff.2 ⟨pa, pc, rfl, hpc, ih _ _ _ (by omega) hpl⟩, iht _ _ (by omega) hl⟩
theorem PL_same {p r : Nat → Prop} {w w' : World} {ts : List T} {n : Nat} {a : Option Addr} (hs : ∀ k, p k ∨ r k → k < w.heap.size → w'.heap[k]? = w.heap[k]?) (h : PL p r w ts n a) : PL p r w' ts n a :=
  PL_mono (fun b o v hp hv => ⟨hp, by rw [World.cell?_of_block (w := w) (a := ⟨b, o, none⟩) (hs b (Or.inl hp) (lt_of_cell hv))]; exact hv⟩) (fun b o v hp hv => ⟨hp, by rw [World.cell?_of_block (w := w) (a := ⟨b, o, none⟩) (hs b (Or.inr hp) (lt_of_cell hv))]; exact hv⟩) _ _ _ _ (Nat.le_refl _) h
theorem PL_below {p r : Nat → Prop} {w w' : World} {ts : List T} {n : Nat} {a : Option Addr} (hb : Below w.heap.size w w') (h : PL p r w ts n a) : PL p r w' ts n a := PL_same (fun k _ hk => hb.block k hk) h
theorem PL_imp {p q r r' : Nat → Prop} {w : World} {ts : List T} {n : Nat} {a : Option Addr} (hpq : ∀ k, p k → q k) (hrr : ∀ k, r k → r' k) (h : PL p r w ts n a) : PL q r' w ts n a :=
  PL_mono (fun _ _ _ hp hv => ⟨hpq _ hp, hv⟩) (fun _ _ _ hp hv => ⟨hrr _ hp, hv⟩) _ _ _ _ (Nat.le_refl _) h

/-- A row of parts, told part by part. -/
theorem PL_of_row {p r : Nat → Prop} {w : World} {b : Nat} (hp : p b) {ts : List T} : ∀ {off n : Nat}, (∀ k t, ts[k]? = some t → ∃ ta tc pa pc, w.cell? ⟨b, off + k * 5, none⟩ = some (.int .i64 t.v) ∧ w.cell? ⟨b, off + k * 5 + 1, none⟩ = some (.int .i64 t.f) ∧ w.cell? ⟨b, off + k * 5 + 2, none⟩ = some (.slice ta t.args.length tc) ∧
      w.cell? ⟨b, off + k * 5 + 3, none⟩ = some (.int .i64 ((n + T.sz.szL (ts.take k) : Nat) : Int)) ∧ w.cell? ⟨b, off + k * 5 + 4, none⟩ = some (.slice pa t.args.length pc) ∧ t.args.length ≤ pc ∧ InP r w t.args ta ∧ PL p r w t.args (n + T.sz.szL (ts.take k) + 1) pa) → PL p r w ts n (some ⟨b, off, none⟩) := by
  induction ts with
  | nil => intro off n _; exact PL_nil
  | cons u us ih =>
    intro off n h
    obtain ⟨ta, tc, pa, pc, h0, h1, h2, h3, h4, hc, hi, hl⟩ := h 0 u rfl
    refine PL_cons.2 ⟨b, off, ta, tc, _, rfl, hp, by simpa using h0, by simpa using h1, by simpa using h2, by simpa [T.szL_nil] using h3, by simpa using h4, hi, PIn_iff.2 ⟨pa, pc, rfl, hc, by simpa [T.szL_nil] using hl⟩, ih (fun k t hk => ?_)⟩
    obtain ⟨ta, tc, pa, pc, g0, g1, g2, g3, g4, gc, gi, gl⟩ := h (k + 1) t (by simpa using hk)
    have e : off + (k + 1) * 5 = off + 5 + k * 5 := by omega
    have e2 : n + T.sz.szL ((u :: us).take (k + 1)) = n + u.sz + T.sz.szL (us.take k) := by rw [List.take_succ_cons, T.szL_cons]; omega
    rw [e] at g0 g1 g2 g3 g4
    rw [e2] at g3 gl
    exact ⟨ta, tc, pa, pc, g0, g1, g2, g3, g4, gc, gi, gl⟩

/-- The parts behind the first k of them. -/
theorem PL_drop {p r : Nat → Prop} {w : World} : ∀ {ts : List T} {n k b off : Nat}, PL p r w ts n (some ⟨b, off, none⟩) → PL p r w (ts.drop k) (n + T.sz.szL (ts.take k)) (some ⟨b, off + k * 5, none⟩) := by
  intro ts
  induction ts with
  | nil => intro n k b off _; rw [List.drop_nil]; exact PL_nil
  | cons t ts ih =>
    intro n k b off h
    cases k with
    | zero => simpa [T.szL_nil] using h
    | succ k =>
      obtain ⟨b', off', ta, tc, s, hb, hp, h0, h1, h2, h3, h4, hin, hpin, hl⟩ := PL_cons.1 h
      simp only [Option.some.injEq, Addr.mk.injEq] at hb
      obtain ⟨rfl, rfl, _⟩ := hb
      have h9 := ih (k := k) hl
      rw [List.drop_succ_cons, List.take_succ_cons, T.szL_cons, show off + (k + 1) * 5 = off + 5 + k * 5 by omega, show n + (t.sz + T.sz.szL (ts.take k)) = n + t.sz + T.sz.szL (ts.take k) by omega]
      exact h9

end Go.Proofs.Ytbkedppkdhfpoaa
