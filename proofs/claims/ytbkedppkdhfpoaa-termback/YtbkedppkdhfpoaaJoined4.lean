/- The walk of the statement on what is put and put back. The arguments of the statements, read: signatures, terms, places. -/
import Derived.ChangeOld
import Derived.Deep.Slices
import Derived.Deep.Strs
import Derived.OpenShut
import Derived.ProofKit
import Derived.Test.YtbkedppkdhfpoaaJoined3
namespace Go.Proofs.Ytbkedppkdhfpoaa
open Go.RowKit

/-- What is put is there. -/
theorem atT_putT {u : T} : ∀ {p : List Int} {t c : T}, atT t p = some c → atT (putT u t p) p = some u := by
  intro p
  induction p with
  | nil => intro t c _; rfl
  | cons i p ih =>
    intro t c h
    rw [atT] at h
    by_cases hi : 0 ≤ i ∧ i < t.args.length
    · rw [if_pos hi] at h
      obtain ⟨d, hd, hc⟩ := Option.bind_eq_some_iff.1 h
      rw [putT_at hd, atT]
      have hlt : i.toNat < t.args.length := by omega
      have h2 : 0 ≤ i ∧ i < ((⟨t.v, t.f, t.args.set i.toNat (putT u d p)⟩ : T).args.length : Int) := by simpa using hi
      rw [if_pos h2]
      show ((t.args.set i.toNat (putT u d p))[i.toNat]?).bind _ = _
      rw [List.getElem?_set_self (by omega)]
      exact ih hc
    · rw [if_neg hi] at h; cases h

/-- What was there put back makes what it was. -/
theorem putT_putT {u : T} : ∀ {p : List Int} {t c : T}, atT t p = some c → putT c (putT u t p) p = t := by
  intro p
  induction p with
  | nil =>
    intro t c h
    simp only [atT, Option.some.injEq] at h
    subst h; rfl
  | cons i p ih =>
    intro t c h
    rw [atT] at h
    by_cases hi : 0 ≤ i ∧ i < t.args.length
    · rw [if_pos hi] at h
      obtain ⟨d, hd, hc⟩ := Option.bind_eq_some_iff.1 h
      rw [putT_at hd]
      have hlt : i.toNat < t.args.length := by omega
      rw [putT_at (t := ⟨t.v, t.f, t.args.set i.toNat (putT u d p)⟩) (c := putT u d p) (List.getElem?_set_self (by omega)), ih hc]
      have hd2 : t.args[i.toNat] = d := by
        rw [List.getElem?_eq_getElem hlt] at hd
        exact Option.some.inj hd
      cases t
      simp only [List.set_set]
      congr 1
      rw [← hd2, List.set_getElem_self]
    · rw [if_neg hi] at h; cases h

/-- How big what is put is. -/
theorem putT_sz {u : T} : ∀ {p : List Int} {t c : T}, atT t p = some c → (putT u t p).sz + c.sz = t.sz + u.sz := by
  intro p
  induction p with
  | nil =>
    intro t c h
    simp only [atT, Option.some.injEq] at h
    subst h
    show u.sz + t.sz = _
    omega
  | cons i p ih =>
    intro t c h
    rw [atT] at h
    by_cases hi : 0 ≤ i ∧ i < t.args.length
    · rw [if_pos hi] at h
      obtain ⟨d, hd, hc⟩ := Option.bind_eq_some_iff.1 h
      rw [putT_at hd]
      have hlt : i.toNat < t.args.length := by omega
      have h1 := ih hc
      have h2 : T.sz.szL (t.args.set i.toNat (putT u d p)) + d.sz = T.sz.szL t.args + (putT u d p).sz := by
        have e1 : t.args.set i.toNat (putT u d p) = t.args.take i.toNat ++ putT u d p :: t.args.drop (i.toNat + 1) := List.set_eq_take_append_cons_drop.trans (by rw [if_pos hlt])
        have e2 : t.args = t.args.take i.toNat ++ d :: t.args.drop (i.toNat + 1) := by
          have hd2 : t.args[i.toNat] = d := by
            rw [List.getElem?_eq_getElem hlt] at hd
            exact Option.some.inj hd
          rw [← hd2, List.getElem_cons_drop, List.take_append_drop]
        have e3 : T.sz.szL t.args = T.sz.szL (t.args.take i.toNat) + (d.sz + T.sz.szL (t.args.drop (i.toNat + 1))) := by
          rw [← T.szL_cons, ← T.szL_append, ← e2]
        rw [e1, T.szL_append, T.szL_cons, e3]; omega
      rw [T.sz_eq, T.sz_eq t]
      show 1 + T.sz.szL (t.args.set i.toNat (putT u d p)) + c.sz = _
      omega
    · rw [if_neg hi] at h; cases h

/-- Every part is right. -/
def okP (ar : List Int) : T → Prop
  | ⟨v, f, args⟩ => partErr ar v f args.length = 0 ∧ okL args
  where
  okL : List T → Prop
    | [] => True
    | t :: ts => okP ar t ∧ okL ts
theorem okP_iff {ar : List Int} {t : T} : okP ar t ↔ partErr ar t.v t.f t.args.length = 0 ∧ okP.okL ar t.args := by cases t; exact Iff.rfl
theorem okL_cons {ar : List Int} {t : T} {ts : List T} : okP.okL ar (t :: ts) ↔ okP ar t ∧ okP.okL ar ts := Iff.rfl
theorem okL_mem {ar : List Int} {ts : List T} : okP.okL ar ts ↔ ∀ t, t ∈ ts → okP ar t := by
  induction ts with
  | nil => simp [okP.okL]
  | cons t ts ih => rw [okL_cons, ih]; simp

theorem look_ok {ar : List Int} : ∀ (n : Nat), (∀ (t : T) (s : Int), t.sz ≤ n → okP ar t → lookT (partStep ar) s t = (0, true)) ∧ (∀ (ts : List T) (s : Int), T.sz.szL ts ≤ n → okP.okL ar ts → ∃ s', lookT.lookL (partStep ar) s ts = (s', true) ∧ (ts ≠ [] → s' = 0)) := by
  intro n
  induction n with
  | zero =>
    refine ⟨fun t s hn => by have := t.sz_pos; omega, fun ts s hn _ => ?_⟩
    cases ts with
    | nil => exact ⟨s, rfl, fun h => absurd rfl h⟩
    | cons t ts => have := t.sz_pos; rw [T.szL_cons] at hn; omega
  | succ n ih =>
    have h1 : ∀ (t : T) (s : Int), t.sz ≤ n + 1 → okP ar t → lookT (partStep ar) s t = (0, true) := fun t s hn hok => by
      rw [T.sz_eq] at hn
      obtain ⟨hp, hl⟩ := okP_iff.1 hok
      obtain ⟨s', hs', _⟩ := ih.2 t.args s (by omega) hl
      rw [lookT_eq, hs']
      simp [partStep, hp]
    refine ⟨h1, fun ts => ?_⟩
    induction ts with
    | nil => intro s _ _; exact ⟨s, rfl, fun h => absurd rfl h⟩
    | cons t ts iht =>
      intro s hn hok
      rw [T.szL_cons] at hn
      obtain ⟨hp, hl⟩ := okL_cons.1 hok
      rw [lookL_cons, h1 t s (by omega) hp]
      obtain ⟨s', hs', h0⟩ := iht 0 (by omega) hl
      refine ⟨s', by simpa using hs', fun _ => ?_⟩
      cases ts with
      | nil => rw [lookL_nil] at hs'; simp at hs'; exact hs'.symm
      | cons a b => exact h0 (by simp)

theorem look_not {ar : List Int} : ∀ (n : Nat), (∀ (t : T) (s : Int), t.sz ≤ n → ((lookT (partStep ar) s t).2 = true → okP ar t) ∧ ((lookT (partStep ar) s t).2 = false → (lookT (partStep ar) s t).1 ≠ 0)) ∧
    (∀ (ts : List T) (s : Int), T.sz.szL ts ≤ n → ((lookT.lookL (partStep ar) s ts).2 = true → okP.okL ar ts) ∧ ((lookT.lookL (partStep ar) s ts).2 = false → (lookT.lookL (partStep ar) s ts).1 ≠ 0)) := by
  intro n
  induction n with
  | zero =>
    refine ⟨fun t s hn => by have := t.sz_pos; omega, fun ts s hn => ?_⟩
    cases ts with
    | nil => exact ⟨fun _ => trivial, fun h => by cases h⟩
    | cons t ts => have := t.sz_pos; rw [T.szL_cons] at hn; omega
  | succ n ih =>
    have h1 : ∀ (t : T) (s : Int), t.sz ≤ n + 1 → ((lookT (partStep ar) s t).2 = true → okP ar t) ∧ ((lookT (partStep ar) s t).2 = false → (lookT (partStep ar) s t).1 ≠ 0) := fun t s hn => by
      rw [T.sz_eq] at hn
      obtain ⟨h2, h3⟩ := ih.2 t.args s (by omega)
      rw [lookT_eq]
      by_cases h : (lookT.lookL (partStep ar) s t.args).2 = false
      · rw [if_pos h]
        exact ⟨fun h' => (by cases h'), fun _ => h3 h⟩
      · rw [if_neg h]
        have hl := h2 (by simpa using h)
        refine ⟨fun h' => okP_iff.2 ⟨by simpa [partStep] using h', hl⟩, fun h' => by simpa [partStep] using h'⟩
    refine ⟨h1, fun ts => ?_⟩
    induction ts with
    | nil => intro s _; exact ⟨fun _ => trivial, fun h => by cases h⟩
    | cons t ts iht =>
      intro s hn
      rw [T.szL_cons] at hn
      obtain ⟨h2, h3⟩ := h1 t s (by omega)
      obtain ⟨h4, h5⟩ := iht (lookT (partStep ar) s t).1 (by omega)
      rw [lookL_cons]
      by_cases h : (lookT (partStep ar) s t).2 = false
      · rw [if_pos h]
        exact ⟨fun h' => (by cases h'), fun _ => h3 h⟩
      · rw [if_neg h]
        exact ⟨fun h' => okL_cons.2 ⟨h2 (by simpa using h), h4 h'⟩, h5⟩

theorem termErr_iff {ar : List Int} {t : T} : termErr ar t = 0 ↔ t.sz ≤ 120 ∧ okP ar t := by
  rw [termErr]
  by_cases h : 120 < t.sz
  · rw [if_pos h]; constructor
    · intro h'; cases h'
    · intro h'; omega
  · rw [if_neg h]
    constructor
    · intro h'
      refine ⟨by omega, ?_⟩
      obtain ⟨h2, h3⟩ := (look_not (ar := ar) _).2 [t] 0 (Nat.le_refl _)
      rcases Bool.eq_false_or_eq_true (lookT.lookL (partStep ar) 0 [t]).2 with h4 | h4
      · exact (okL_cons.1 (h2 h4)).1
      · exact absurd h' (h3 h4)
    · intro h'
      obtain ⟨s', hs', h0⟩ := (look_ok (ar := ar) _).2 [t] 0 (Nat.le_refl _) (okL_cons.2 ⟨h'.2, trivial⟩)
      rw [hs', h0 (by simp)]

theorem allErr_iff {ar : List Int} {ts : List T} : allErr ar ts = 0 ↔ sigErr ar = 0 ∧ ∀ t, t ∈ ts → t.sz ≤ 120 ∧ okP ar t := by
  have h1 : termsErr ar ts = 0 ↔ ∀ t, t ∈ ts → t.sz ≤ 120 ∧ okP ar t := by
    induction ts with
    | nil => simp [termsErr]
    | cons t ts ih =>
      rw [termsErr]
      by_cases h : termErr ar t = 0
      · rw [if_pos h, ih]; simp [termErr_iff.1 h]
      · rw [if_neg h]
        constructor
        · intro h'; exact absurd h' h
        · intro h'; exact absurd (termErr_iff.2 (h' t (by simp))) h
  rw [allErr]
  by_cases hs : sigErr ar = 0
  · rw [if_pos hs, h1]; simp [hs]
  · rw [if_neg hs]; simp [hs]

theorem okP_at {ar : List Int} : ∀ {p : List Int} {t c : T}, atT t p = some c → okP ar t → okP ar c := by
  intro p
  induction p with
  | nil => intro t c h hok; simp only [atT, Option.some.injEq] at h; subst h; exact hok
  | cons i p ih =>
    intro t c h hok
    rw [atT] at h
    by_cases hi : 0 ≤ i ∧ i < t.args.length
    · rw [if_pos hi] at h
      obtain ⟨d, hd, hc⟩ := Option.bind_eq_some_iff.1 h
      exact ih hc (okL_mem.1 (okP_iff.1 hok).2 d (List.mem_of_getElem? hd))
    · rw [if_neg hi] at h; cases h

theorem okP_put {ar : List Int} {u : T} (hu : okP ar u) : ∀ {p : List Int} {t c : T}, atT t p = some c → okP ar t → okP ar (putT u t p) := by
  intro p
  induction p with
  | nil => intro t c _ _; exact hu
  | cons i p ih =>
    intro t c h hok
    rw [atT] at h
    by_cases hi : 0 ≤ i ∧ i < t.args.length
    · rw [if_pos hi] at h
      obtain ⟨d, hd, hc⟩ := Option.bind_eq_some_iff.1 h
      obtain ⟨hp, hl⟩ := okP_iff.1 hok
      rw [putT_at hd]
      refine okP_iff.2 ⟨?_, okL_mem.2 fun x hx => ?_⟩
      · show partErr ar t.v t.f (t.args.set i.toNat (putT u d p)).length = 0
        rw [List.length_set]; exact hp
      · rcases List.mem_or_eq_of_mem_set hx with hx | rfl
        · exact okL_mem.1 hl x hx
        · exact ih hc (okL_mem.1 hl d (List.mem_of_getElem? hd))
    · rw [if_neg hi] at h; cases h

theorem back_facts {ar : List Int} {t u : T} {place : List Int} (h1 : (atSpec ar t place).2 = 0) (h2 : (putSpec ar t place u).2 = 0) :
    ∃ c, atSpec ar t place = (c, 0) ∧ putSpec ar t place u = (putT u t place, 0) ∧ atSpec ar (putT u t place) place = (u, 0) ∧ putSpec ar (putT u t place) place c = (t, 0) ∧ u.sz ≤ 120 ∧ t.sz ≤ 120 := by
  have h3 : allErr ar [t, u] = 0 := by
    rcases Classical.em (allErr ar [t, u] = 0) with h | h
    · exact h
    · rw [putSpec, if_neg h] at h2; exact h2
  have hx := allErr_iff.1 h3
  have ht := hx.2 t (by simp)
  have hu := hx.2 u (by simp)
  have h4 : allErr ar [t] = 0 := allErr_iff.2 ⟨hx.1, fun x hx' => by simp at hx'; subst hx'; exact ht⟩
  rw [putSpec, if_pos h3] at h2
  cases hat : atT t place with
  | none => rw [hat] at h2; cases h2
  | some c =>
    rw [hat] at h2
    have h5 : ¬ 120 < (t.sz : Int) - c.sz + u.sz := by
      intro h
      simp only [if_pos h] at h2
      cases h2
    have hsz := putT_sz (u := u) hat
    have hc := atT_sz hat
    have hokx := okP_put hu.2 hat ht.2
    have hxok : (putT u t place).sz ≤ 120 ∧ okP ar (putT u t place) := ⟨by omega, hokx⟩
    have hcok : c.sz ≤ 120 ∧ okP ar c := ⟨by omega, okP_at hat ht.2⟩
    refine ⟨c, ?_, ?_, ?_, ?_, hu.1, ht.1⟩
    · rw [atSpec, if_pos h4, hat]
    · rw [putSpec, if_pos h3, hat]; simp only [if_neg h5]
    · rw [atSpec, if_pos (allErr_iff.2 ⟨hx.1, fun x hx' => by simp at hx'; subst hx'; exact hxok⟩), atT_putT hat]
    · rw [putSpec, if_pos (allErr_iff.2 ⟨hx.1, fun x hx' => by
        simp at hx'
        rcases hx' with rfl | rfl
        · exact hxok
        · exact hcok⟩), atT_putT hat]
      have h6 : ¬ 120 < ((putT u t place).sz : Int) - u.sz + c.sz := by omega
      simp only [if_neg h6, putT_putT hat]

set_option maxRecDepth 100000 in
set_option maxHeartbeats 1000000 in
theorem TermBack_any (ar : List Int) (ga : Option Addr) (gcap : Nat) (t : T) (a : Option Addr) (cap : Nat) (place : List Int) (pa : Option Addr) (pcap : Nat) (u : T) (a2 : Option Addr) (cap2 : Nat) (w : World) (hg : Ints w ar ga) (hin : InL w t.args a) (hp : Ints w place pa)
    (hin2 : InL w u.args a2) (hl : place.length ≤ 9223372036854775807) :
    Calls Try.prog 5 #[.agg #[.slice ga ar.length gcap], .agg #[.int .i64 t.v, .int .i64 t.f, .slice a t.args.length cap], .slice pa place.length pcap, .agg #[.int .i64 u.v, .int .i64 u.f, .slice a2 u.args.length cap2]] w fun e w' =>
      e = .returned (.bool true) ∧ Below w.heap.size w w' := by
  go_enter Try.func5, Try.ntmps5
  go_wp2_with fail
  refine (begun_any _).mono ?_
  rintro e w1 ⟨rfl, hb1⟩
  have hbw : Below w.heap.size w w1 := (((below1 _ _).alloc (by simp) _).alloc (by simp; omega) _).trans (hb1.mono (by simp; omega))
  have hz1 : w.heap.size + 3 ≤ w1.heap.size := by have := hb1.size; simp at this; omega
  have cg : w1.cell? ⟨w.heap.size, 0, none⟩ = some (.slice ga ar.length gcap) := by
    rw [hb1.cell (p := ⟨w.heap.size, 0, none⟩) (by simp; omega), cell_alloc_lt (by simp; omega), cell_alloc_lt (by simp), cell_new _ rfl]; rfl
  have h3t : Three w1 (w.heap.size + 1) (.int .i64 t.v) (.int .i64 t.f) (.slice a t.args.length cap) := ((Three.new _ (by simp)).alloc _).below hb1
  have h3u : Three w1 (w.heap.size + 1 + 1) (.int .i64 u.v) (.int .i64 u.f) (.slice a2 u.args.length cap2) := (Three.new _ (by simp)).below hb1
  have H3t := hide h3t
  have H3u := hide h3u
  obtain ⟨c0, c1, c2, _, _, _⟩ := h3t
  obtain ⟨d0, d1, d2, _, _, _⟩ := h3u
  clear hb1
  obtain ⟨z, k, hzk⟩ : ∃ z k, atSpec ar t place = (z, k) := ⟨_, _, rfl⟩
  obtain ⟨x, l, hxl⟩ : ∃ x l, putSpec ar t place u = (x, l) := ⟨_, _, rfl⟩
  have hA1 := At_any ar ga gcap t a cap place pa pcap w1 (Ints_below hbw hg) (InP_below hbw hin) (Ints_below hbw hp) hl
  rw [hzk] at hA1
  have HA1 := hide hA1
  have Hzk := hide hzk
  have Hxl := hide hxl
  clear hA1 hzk hxl
  go_wp2_with fail
  refine HA1.out.mono ?_
  rintro e w2 ⟨⟨a3, cap3, rfl, hin3⟩, hb2⟩
  have hz2 := hb2.size
  have hbw2 : Below w.heap.size w w2 := hbw.trans (hb2.mono (by omega))
  have cg2 : w2.cell? ⟨w.heap.size, 0, none⟩ = some (.slice ga ar.length gcap) := by rw [hb2.cell (p := ⟨w.heap.size, 0, none⟩) (show w.heap.size < w1.heap.size by omega)]; exact cg
  have H3t2 := hide (H3t.out.below hb2)
  have H3u2 := hide (H3u.out.below hb2)
  obtain ⟨e0, e1, e2, _, _, _⟩ := H3t2.out
  obtain ⟨f0, f1, f2, _, _, _⟩ := H3u2.out
  have hq0 : w.heap.size < w2.heap.size := by omega
  have hq1 : w.heap.size + 1 < w2.heap.size := by omega
  have hq2 : w.heap.size + 1 + 1 < w2.heap.size := by omega
  have hbz : ∀ o, Below w.heap.size w (w2.alloc o) := fun o => hbw2.alloc (by omega) o
  have hP1 : ∀ o, _ := fun o => Put_any ar ga gcap t a cap place pa pcap u a2 cap2 (w2.alloc o) (Ints_below (hbz o) hg) (InP_below (hbz o) hin) (Ints_below (hbz o) hp) (InP_below (hbz o) hin2) hl
  rw [Hxl.out] at hP1
  have HP1 := hide hP1
  clear hP1 hbz HA1 cg c0 c1 c2 d0 d1 d2
  simp only at hin3
  go_wp2_with fail
  refine (HP1.out _).mono ?_
  rintro e w3 ⟨⟨a4, cap4, rfl, hin4⟩, hb3⟩
  have hz3 := hb3.size
  simp at hz3
  have hb23 : Below w2.heap.size w2 w3 := (below1 _ _).trans (hb3.mono (by simp))
  have hbw3 : Below w.heap.size w w3 := hbw2.trans (hb23.mono (by omega))
  have H3w : Hid (Three w3 w2.heap.size (.int .i64 z.v) (.int .i64 z.f) (.slice a3 z.args.length cap3)) := (Three.new 27 rfl).below hb3
  have hinz := InP_below hb23 hin3
  simp only at hin4
  by_cases hk : k = 0
  · subst hk
    by_cases hl0 : l = 0
    · subst hl0
      obtain ⟨c, g1, g2, g3, g4, hu120, ht120⟩ := back_facts (ar := ar) (t := t) (u := u) (place := place) (by rw [Hzk.out]) (by rw [Hxl.out])
      have ez : z = c := by have := Hzk.out.symm.trans g1; simpa using this
      have ex : x = putT u t place := by have := Hxl.out.symm.trans g2; simpa using this
      subst ez
      rw [← ex] at g3 g4
      have G3 := hide g3
      have G4 := hide g4
      have cg3 : w3.cell? ⟨w.heap.size, 0, none⟩ = some (.slice ga ar.length gcap) := by rw [hb23.cell (p := ⟨w.heap.size, 0, none⟩) hq0]; exact cg2
      obtain ⟨m0, m1, m2, _, _, _⟩ := H3w.out
      clear g1 g2 g3 g4 ex e0 e1 e2 f0 f1 f2 cg2 HP1
      have hr0 : w.heap.size < w3.heap.size := by omega
      have hr1 : w2.heap.size < w3.heap.size := by omega
      have hbz : ∀ o, Below w.heap.size w (w3.alloc o) := fun o => hbw3.alloc (by omega) o
      have hA2 : ∀ o, _ := fun o => At_any ar ga gcap x a4 cap4 place pa pcap (w3.alloc o) (Ints_below (hbz o) hg) (InP_alloc o hin4) (Ints_below (hbz o) hp) hl
      rw [G3.out] at hA2
      have HA2 := hide hA2
      clear hA2 hbz
      go_wp2_with fail
      refine (HA2.out _).mono ?_
      rintro e w4 ⟨⟨a5, cap5, rfl, hin5⟩, hb4⟩
      have hz4 := hb4.size
      simp at hz4
      have hb34 : Below w3.heap.size w3 w4 := (below1 _ _).trans (hb4.mono (by simp))
      have hb24 : Below w2.heap.size w2 w4 := hb23.trans (hb34.mono (by omega))
      have hbw4 : Below w.heap.size w w4 := hbw3.trans (hb34.mono (by omega))
      have H3x4 : Hid (Three w4 w3.heap.size (.int .i64 x.v) (.int .i64 x.f) (.slice a4 x.args.length cap4)) := (Three.new 27 rfl).below hb4
      have H3w4 : Hid (Three w4 w2.heap.size (.int .i64 z.v) (.int .i64 z.f) (.slice a3 z.args.length cap3)) := H3w.out.below hb34
      have cg4 : w4.cell? ⟨w.heap.size, 0, none⟩ = some (.slice ga ar.length gcap) := by rw [hb34.cell (p := ⟨w.heap.size, 0, none⟩) hr0]; exact cg3
      obtain ⟨p0, p1, p2, _, _, _⟩ := H3x4.out
      obtain ⟨q0, q1, q2, _, _, _⟩ := H3w4.out
      have hs0 : w.heap.size < w4.heap.size := by omega
      have hs2 : w2.heap.size < w4.heap.size := by omega
      have hs3 : w3.heap.size < w4.heap.size := by omega
      have hbz : ∀ o, Below w.heap.size w (w4.alloc o) := fun o => hbw4.alloc (by omega) o
      have hP2 : ∀ o, _ := fun o => Put_any ar ga gcap x a4 cap4 place pa pcap z a3 cap3 (w4.alloc o) (Ints_below (hbz o) hg) (InP_alloc o (InP_below hb34 hin4)) (Ints_below (hbz o) hp) (InP_alloc o (InP_below hb34 hinz)) hl
      rw [G4.out] at hP2
      have HP2 := hide hP2
      simp only at hin5
      clear hP2 hbz HA2 m0 m1 m2 cg3 G3 G4
      go_wp2_with fail
      refine (HP2.out _).mono ?_
      rintro e w5 ⟨⟨a6, cap6, rfl, hin6⟩, hb5⟩
      have hz5 := hb5.size
      simp at hz5
      have hb45 : Below w4.heap.size w4 w5 := (below1 _ _).trans (hb5.mono (by simp))
      have hbw5 : Below w.heap.size w w5 := hbw4.trans (hb45.mono (by omega))
      have hb25 : Below w2.heap.size w2 w5 := hb24.trans (hb45.mono (by omega))
      have H3i5 : Hid (Three w5 w4.heap.size (.int .i64 u.v) (.int .i64 u.f) (.slice a5 u.args.length cap5)) := (Three.new 27 rfl).below hb5
      have H3t5 := hide (H3t2.out.below hb25)
      have H3u5 := hide (H3u2.out.below hb25)
      obtain ⟨i0, i1, i2, _, _, _⟩ := H3i5.out
      obtain ⟨t0, t1, t2, _, _, _⟩ := H3t5.out
      obtain ⟨u0, u1, u2, _, _, _⟩ := H3u5.out
      have hv1 : w.heap.size + 1 < w5.heap.size := by omega
      have hv2 : w.heap.size + 1 + 1 < w5.heap.size := by omega
      have hv4 : w4.heap.size < w5.heap.size := by omega
      simp only at hin6
      have HS1 := hide (fun o => sameTerm_any 121 u u a5 cap5 a2 cap2 (w5.alloc o) (by omega) (by omega) (InP_alloc o (InP_below hb45 hin5)) (InP_alloc o (InP_below hbw5 hin2)))
      have HIy := hide hin6
      clear p0 p1 p2 q0 q1 q2 cg4 HP2 hb5
      rw [sameT_refl] at HS1
      go_wp2_with fail
      refine (HS1.out _).mono ?_
      rintro e w6 ⟨rfl, hb6⟩
      have hz6 := hb6.size
      simp at hz6
      have hb56 : Below w5.heap.size w5 w6 := (below1 _ _).trans (hb6.mono (by simp))
      have hbw6 : Below w.heap.size w w6 := hbw5.trans (hb56.mono (by omega))
      have H3y6 : Hid (Three w6 w5.heap.size (.int .i64 t.v) (.int .i64 t.f) (.slice a6 t.args.length cap6)) := (Three.new 27 rfl).below hb6
      have H3t6 := hide (H3t5.out.below hb56)
      obtain ⟨y0, y1, y2, _, _, _⟩ := H3y6.out
      obtain ⟨v0, v1, v2, _, _, _⟩ := H3t6.out
      have HS2 := hide (sameTerm_any 121 t t a6 cap6 a cap w6 (by omega) (by omega) (InP_below hb56 HIy.out) (InP_below hbw6 hin))
      rw [sameT_refl] at HS2
      clear HS1 hb6
      go_wp2_with fail
      refine HS2.out.mono ?_
      rintro e w7 ⟨rfl, hb7⟩
      go_wp2_with fail
      go_ret
      exact ⟨rfl, hbw6.trans (hb7.mono (by omega))⟩
    · have hl1 : (l != 0) = true := by simpa using hl0
      clear hl0
      go_wp2_with fail
      go_ret
      exact ⟨rfl, hbw3.alloc (by omega) _⟩
  · have hk1 : (k != 0) = true := by simpa using hk
    clear hk
    go_wp2_with fail
    go_ret
    exact ⟨rfl, hbw3.alloc (by omega) _⟩

end Go.Proofs.Ytbkedppkdhfpoaa

namespace Go.Proofs.Ytbkedppkdhfpoaa
open Go.RowKit Go.ChangeShapes Go.WideShapes Go.Deep

theorem InL_of_fn {w : World} : ∀ (n b off : Nat) (f : Nat → T), (∀ i, i < n → ∃ s, w.cell? ⟨b, off + i * 3, none⟩ = some (.int .i64 (f i).v) ∧ w.cell? ⟨b, off + i * 3 + 1, none⟩ = some (.int .i64 (f i).f) ∧ w.cell? ⟨b, off + i * 3 + 2, none⟩ = some s ∧ (f i).In (fun _ => True) w s) →
    InL w ((List.range n).map f) (some ⟨b, off, none⟩) := by
  intro n
  induction n with
  | zero => intro b off f _; exact InP_nil
  | succ n ih =>
    intro b off f h
    rw [List.range_succ_eq_map, List.map_cons, List.map_map]
    obtain ⟨s, c0, c1, c2, hin⟩ := h 0 (by omega)
    refine InP_cons.2 ⟨b, off, s, rfl, trivial, by simpa using c0, by simpa using c1, by simpa using c2, hin, ih b (off + 3) (f ∘ Nat.succ) (fun i hi => ?_)⟩
    obtain ⟨s, c0, c1, c2, hin⟩ := h (i + 1) (by omega)
    have e : off + (i + 1) * 3 = off + 3 + i * 3 := by omega
    rw [e] at c0 c1 c2
    exact ⟨s, c0, c1, c2, hin⟩

theorem Try.cells27 : Try.prog.cellsOf 27 = 3 := by kernel_rfl
theorem Try.cells25 : Try.prog.cellsOf 25 = 1 := by kernel_rfl
theorem Try.cells3 : Try.prog.cellsOf 3 = 1 := by kernel_rfl
theorem Try.cells22 : Try.prog.cellsOf 22 = 1 := by kernel_rfl
theorem Try.cells24 : Try.prog.cellsOf 24 = 1 := by kernel_rfl

section
variable {H : Type} {enc : TypeId × Value → H} {W : World} {spare : Nat → Bool} {held : Bool}

set_option maxRecDepth 100000 in
/-- A term that can be read is a tree that lies there. -/
theorem open_term : ∀ (fuel : Nat) (cs : List Value) (x : DataW H × List MemPlace), DataW.trod enc Try.prog W 0 spare held fuel 27 cs = some x →
    ∃ (t : T) (a : Option Addr) (cap : Nat), cs = [.int .i64 t.v, .int .i64 t.f, .slice a t.args.length cap] ∧ InL W t.args a := by
  intro fuel
  induction fuel using Nat.strongRecOn with
  | _ fuel ih =>
    intro cs x h
    obtain ⟨xs, n, hn, hx, hl, hlen, hf⟩ := DataW.trod_struct Go.Proofs.Try.underlying27 h
    rw [Try.cells27] at hl
    match cs, hl with
    | [c0, c1, c2], _ =>
      have f0 := hf 0 _ rfl
      have f1 := hf 1 _ rfl
      have f2 := hf 2 _ rfl
      match xs, hlen with
      | [y0, y1, y2], _ =>
        simp only [List.getElem?_cons_zero, List.getElem?_cons_succ] at f0 f1 f2
        have g0 : DataW.trod enc Try.prog W 0 spare held n 3 [c0] = some y0 := f0
        have g1 : DataW.trod enc Try.prog W 0 spare held n 3 [c1] = some y1 := f1
        have g2 : DataW.trod enc Try.prog W 0 spare held n 25 [c2] = some y2 := f2
        obtain ⟨v, e0, _, _⟩ := DataW.trod_int Go.Proofs.Try.underlying3 g0
        obtain ⟨f, e1, _, _⟩ := DataW.trod_int Go.Proofs.Try.underlying3 g1
        simp only [List.cons.injEq, and_true] at e0 e1
        subst e0 e1
        rcases DataW.trod_slice Go.Proofs.Try.underlying25 g2 with ⟨e2, _⟩ | ⟨a, len, cap, elems, rest, m, hm, e2, _, hb, hl', hm', hlen', hel, _, _⟩
        · simp only [List.cons.injEq, and_true] at e2
          subst e2
          exact ⟨⟨v, f, []⟩, none, 0, rfl, InP_nil⟩
        · simp only [List.cons.injEq, and_true] at e2
          subst e2
          rw [Try.cells27] at hel
          have hchild : ∀ i, i < len → ∃ t : T, ∃ s, W.cell? (a.add (i * 3)) = some (.int .i64 t.v) ∧ W.cell? ((a.add (i * 3)).add 1) = some (.int .i64 t.f) ∧ W.cell? ((a.add (i * 3)).add 2) = some s ∧ t.In (fun _ => True) W s := by
            intro i hi
            have h1 := hel i hi
            rw [List.getElem?_eq_getElem (by omega)] at h1
            obtain ⟨cs', h2, h3⟩ := Option.bind_eq_some_iff.1 h1
            obtain ⟨t, a', cap', hcs, hin⟩ := ih m (by omega) cs' _ h3
            obtain ⟨_, _, hcell⟩ := World.cells?_some h2
            rw [hcs] at hcell
            refine ⟨t, .slice a' t.args.length cap', ?_, hcell 1 (by omega), hcell 2 (by omega), In_iff.2 ⟨a', cap', rfl, hin⟩⟩
            have := hcell 0 (by omega)
            rwa [show (a.add (i * 3)).add 0 = a.add (i * 3) from by simp [Addr.add]] at this
          by_cases h0 : len = 0
          · subst h0
            exact ⟨⟨v, f, []⟩, some a, cap, rfl, InP_nil⟩
          · obtain ⟨b, off, spot⟩ := a
            have hspot : spot = none := by
              obtain ⟨t, s, hc, _⟩ := hchild 0 (by omega)
              simpa [Addr.add] using World.cell?_spot hc
            subst hspot
            have : Inhabited T := ⟨⟨0, 0, []⟩⟩
            obtain ⟨F, hF⟩ := choose_lt hchild
            refine ⟨⟨v, f, (List.range len).map F⟩, some ⟨b, off, none⟩, cap, by simp, InL_of_fn len b off F (fun i hi => ?_)⟩
            obtain ⟨s, c0, c1, c2, hin⟩ := hF i hi
            have e : ∀ j, (⟨b, off, none⟩ : Addr).add j = ⟨b, off + j, none⟩ := fun j => by simp [Addr.add]
            have e' : ∀ k j, (⟨b, k, none⟩ : Addr).add j = ⟨b, k + j, none⟩ := fun k j => by simp [Addr.add]
            rw [e] at c0 c1 c2
            rw [e'] at c1 c2
            exact ⟨s, c0, c1, c2, hin⟩

/-- A slice of numbers that can be read. -/
theorem open_nums {fuel : Nat} {cs : List Value} {x : DataW H × List MemPlace} (h : DataW.trod enc Try.prog W 0 spare held fuel 22 cs = some x) :
    ∃ (zs : List Int) (a : Option Addr) (cap : Nat), cs = [.slice a zs.length cap] ∧ Ints W zs a ∧ zs.length ≤ 9223372036854775807 ∧ zs.length ≤ cap := by
  rcases open_ints Go.Proofs.Try.underlying22 Go.Proofs.Try.underlying3 Try.cells3 h with ⟨hcs, _⟩ | ⟨a, l, c, zs, hcs, _, hl, hm, hz, _, hcell, _⟩
  · exact ⟨[], none, 0, hcs, Or.inl rfl, by simp, by simp⟩
  · have hle : l ≤ zs.length := by rw [hz]; split <;> omega
    have hlen : (zs.take l).length = l := List.length_take_of_le hle
    refine ⟨zs.take l, some a, c, by rw [hcs, hlen], ?_, by rw [hlen]; unfold maxLen at hm; omega, by rw [hlen]; exact hl⟩
    by_cases h0 : l = 0
    · left; rw [h0]; rfl
    · right
      obtain ⟨b, off, rfl, hc⟩ := ints_at hcell (by omega)
      refine ⟨b, off, rfl, fun i hi => ?_⟩
      rw [hlen] at hi
      rw [hc i (by omega)]
      simp [List.getD, List.getElem?_take_of_lt hi]

set_option maxRecDepth 100000 in
/-- A signature. -/
theorem open_sig {fuel : Nat} {cs : List Value} {x : DataW H × List MemPlace} (h : DataW.trod enc Try.prog W 0 spare held fuel 24 cs = some x) :
    ∃ (zs : List Int) (a : Option Addr) (cap : Nat), cs = [.slice a zs.length cap] ∧ Ints W zs a := by
  obtain ⟨y0, n, _, hl, h0⟩ := trod_struct1 Go.Proofs.Try.underlying24 h
  rw [Try.cells24] at hl
  match cs, hl with
  | [c0], _ =>
    have g0 : DataW.trod enc Try.prog W 0 spare held n 22 [c0] = some y0 := h0
    obtain ⟨zs, a, cap, hcs, hi, _⟩ := open_nums g0
    exact ⟨zs, a, cap, hcs, hi⟩

end
end Go.Proofs.Ytbkedppkdhfpoaa
