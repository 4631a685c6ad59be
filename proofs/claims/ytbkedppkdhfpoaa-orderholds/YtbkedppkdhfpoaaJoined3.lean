/- The program's At and Put, against what the document says of them. The program's collecting of the variables of a term. The contracts of the library that the program calls, laid at this program in plain words. The program's Vars: the variables, sorted, each once. What the statements ask in any case. -/
import Derived.Deep.AppendLies
import Derived.Deep.DeepCutAuto
import Derived.Deep.DrawnRows
import Derived.Deep.RegionHeld3
import Derived.Shelf.Slices.CompactI
import Derived.Shelf.Slices.In.SortNone
import Derived.Shelf.Sort.Plain
import Derived.Test.YtbkedppkdhfpoaaProg
import Derived.Test.YtbkedppkdhfpoaaJoined2
namespace Go.Proofs.Ytbkedppkdhfpoaa
open Go.RowKit

def zeroT : T := ⟨0, 0, []⟩
/-- What At answers. -/
def atSpec (ar : List Int) (t : T) (place : List Int) : T × Int :=
  if allErr ar [t] = 0 then (match atT t place with | some u => (u, 0) | none => (zeroT, 5)) else (zeroT, allErr ar [t])
/-- What Put answers. -/
def putSpec (ar : List Int) (t : T) (place : List Int) (u : T) : T × Int :=
  if allErr ar [t, u] = 0 then
    (match atT t place with | some c => if 120 < (t.sz : Int) - c.sz + u.sz then (zeroT, 2) else (putT u t place, 0) | none => (zeroT, 5))
  else (zeroT, allErr ar [t, u])

/-- A term and an error handed back. -/
def Gives (x : T × Int) (e : Ending) (w' : World) : Prop :=
  ∃ a1 cap1, e = .returned (.tuple #[.agg #[.int .i64 x.1.v, .int .i64 x.1.f, .slice a1 x.1.args.length cap1], .int .i64 x.2]) ∧ InL w' x.1.args a1

theorem gives_zero (n : Int) (w' : World) : Gives (zeroT, n) (.returned (.tuple #[.agg #[.int .i64 0, .int .i64 0, .slice none 0 0], .int .i64 n])) w' := ⟨none, 0, rfl, InP_nil⟩

theorem sz_of_ok {ar : List Int} {ts : List T} {t : T} (h : allErr ar ts = 0) (hm : t ∈ ts) : t.sz ≤ 120 := by
  rw [allErr] at h
  by_cases hs : sigErr ar = 0
  · rw [if_pos hs] at h
    clear hs
    induction ts with
    | nil => cases hm
    | cons a ts ih =>
      rw [termsErr] at h
      by_cases h1 : termErr ar a = 0
      · rw [if_pos h1] at h
        rcases List.mem_cons.1 hm with rfl | hm
        · rw [termErr] at h1
          by_cases h2 : 120 < t.sz
          · rw [if_pos h2] at h1; cases h1
          · omega
        · exact ih h hm
      · rw [if_neg h1] at h; exact absurd h h1
  · rw [if_neg hs] at h; exact absurd h hs

theorem atT_sz : ∀ {p : List Int} {t u : T}, atT t p = some u → u.sz ≤ t.sz := by
  intro p
  induction p with
  | nil =>
    intro t u h
    simp only [atT, Option.some.injEq] at h
    subst h; exact Nat.le_refl _
  | cons i p ih =>
    intro t u h
    rw [atT] at h
    by_cases hi : 0 ≤ i ∧ i < t.args.length
    · rw [if_pos hi] at h
      obtain ⟨d, hd, hc⟩ := Option.bind_eq_some_iff.1 h
      have h1 := ih hc
      have h2 := T.szL_mem (List.mem_of_getElem? hd)
      have h3 := T.sz_eq t
      omega
    · rw [if_neg hi] at h; cases h

set_option maxRecDepth 100000 in
set_option maxHeartbeats 400000 in
theorem At_any (ar : List Int) (ga : Option Addr) (gcap : Nat) (t : T) (a : Option Addr) (cap : Nat) (place : List Int) (pa : Option Addr) (pcap : Nat) (w : World) (hg : Ints w ar ga) (hin : InL w t.args a) (hp : Ints w place pa) (hl : place.length ≤ 9223372036854775807) :
    Calls Try.prog 23 #[.agg #[.slice ga ar.length gcap], .agg #[.int .i64 t.v, .int .i64 t.f, .slice a t.args.length cap], .slice pa place.length pcap] w fun e w' => Gives (atSpec ar t place) e w' ∧ Below w.heap.size w w' := by
  have Hg := hide (fun o1 o2 o3 o4 => Ints_alloc o4 (Ints_alloc o3 (Ints_alloc o2 (Ints_alloc o1 hg))))
  have Hin := hide (fun o1 o2 o3 e => InP_new1 (n := w.heap.size + 1 + 1 + 1) (cap := cap) e (by simp) trivial (InP_alloc o3 (InP_alloc o2 (InP_alloc o1 hin))))
  go_enter Try.func23, Try.ntmps23
  go_wp2_with fail
  refine (check_any ar ga gcap [t] _ 1 _ (Hg.out _ _ _ _) (Hin.out _ _ _ _) (by simp)).mono ?_
  rintro e w1 ⟨rfl, hb1⟩
  have hbw : Below w.heap.size w w1 := ((((below1 _ _).alloc (by simp) _).alloc (by simp; omega) _).alloc (by simp; omega) _).trans (hb1.mono (by simp; omega))
  have hz1 : w.heap.size + 4 ≤ w1.heap.size := by have := hb1.size; simp at this; omega
  have h3t : Three w1 (w.heap.size + 1) (.int .i64 t.v) (.int .i64 t.f) (.slice a t.args.length cap) := (((Three.new _ (by simp)).alloc _).alloc _).below hb1
  have h3r : Three w1 (w.heap.size + 1 + 1) (.int .i64 0) (.int .i64 0) (.slice none 0 0) := ((Three.new _ (by simp)).alloc _).below hb1
  clear hb1 Hg Hin
  by_cases hs : allErr ar [t] = 0
  · have hsz := sz_of_ok hs (t := t) (by simp)
    rw [hs]
    obtain ⟨c0, c1, c2, _, _, _⟩ := h3t
    have hspec : atSpec ar t place = (match atT t place with | some u => (u, 0) | none => (zeroT, 5)) := by rw [atSpec, if_pos hs]
    have Hspec := hide hspec
    clear hspec
    go_wp2_with fail
    refine (find_any t a cap place pa pcap _ (Ints_below hbw hp) (InP_below hbw hin) hl).mono ?_
    rintro e w2 ⟨hfound, hb2⟩
    have h3r2 := h3r.below hb2
    have hz2 := hb2.size
    have hbw2 := hbw.trans (hb2.mono (by omega))
    rcases hfound with ⟨u, a1, cap1, hat, rfl, hin1⟩ | ⟨hat, rfl⟩
    · have husz := atT_sz hat
      have hsp2 : atSpec ar t place = (u, 0) := by rw [Hspec.out, hat]
      have Hsp2 := hide hsp2
      clear hsp2 Hspec hat h3r
      obtain ⟨d0, d1, d2, f0, f1, f2⟩ := h3r2
      have hz3 : w.heap.size + 1 + 1 < w2.heap.size := by omega
      go_wp2_with fail
      refine (copyOf_any (u.sz + 1) u a1 cap1 _ (by omega) (by omega) (InP_alloc _ (InP_below hb2 hin1))).mono ?_
      rintro e w3 ⟨s, B, rfl, hown, hnd, hrg, hb3⟩
      obtain ⟨as1, caps, rfl, hins⟩ := Own_in hown
      have h3r3 : Three w3 (w.heap.size + 1 + 1) (.int .i64 0) (.int .i64 0) (.slice none 0 0) := (Three.alloc ⟨d0, d1, d2, f0, f1, f2⟩ _).below hb3
      have hinp := Own_inP hown
      obtain ⟨as2, caps2, he, hinq⟩ := In_iff.1 hinp
      simp only [Value.slice.injEq] at he
      obtain ⟨rfl, _, rfl⟩ := he
      have Hq := hide (InP_imp (q := fun k => w.heap.size + 3 ≤ k) (fun k hk => by have := (hrg k hk).1; simp at this; omega) hinq)
      have Hbf := hide ((hbw2.alloc (by omega) _).trans (hb3.mono (by simp; omega)))
      obtain ⟨r0, r1, r2, g0, g1, g2⟩ := h3r3
      clear hown hnd hrg hb3 hins hinp hinq
      go_wp2_with fail
      exact bodyPost_ret (v := .tuple #[.agg #[.int .i64 u.v, .int .i64 u.f, .slice as1 u.args.length caps], .int .i64 0]) (by simp [results, Try.results23, go_sem, r0, r1, r2]) rfl
        ⟨by rw [Hsp2.out]; exact ⟨as1, caps, rfl, InP_imp (fun _ _ => trivial) (InP_same (fun k hk _ => set3_block (by omega)) Hq.out)⟩, below_set3 Hbf.out (by omega) _ _ _⟩
    · have hsp2 : atSpec ar t place = (zeroT, 5) := by rw [Hspec.out, hat]
      have Hsp2 := hide hsp2
      clear hsp2 Hspec hat h3r
      obtain ⟨d0, d1, d2, f0, f1, f2⟩ := h3r2
      have hz3 : w.heap.size + 1 + 1 < w2.heap.size := by omega
      go_wp2_with fail
      exact bodyPost_ret (v := .tuple #[.agg #[.int .i64 0, .int .i64 0, .slice none 0 0], .int .i64 5]) (by simp [results, Try.results23, go_sem, d0, d1, d2, hz3]) rfl
        ⟨by rw [Hsp2.out]; exact gives_zero 5 _, (below_set3 hbw2 (by omega) _ _ _).alloc (by rw [set3_size]; omega) _⟩
  · have hs1 : (allErr ar [t] != 0) = true := by simpa using hs
    have hspec : atSpec ar t place = (zeroT, allErr ar [t]) := by rw [atSpec, if_neg hs]
    have Hspec := hide hspec
    clear hspec hs
    obtain ⟨d0, d1, d2, f0, f1, f2⟩ := h3r
    generalize allErr ar [t] = err at *
    go_wp2_with fail
    exact bodyPost_ret (v := .tuple #[.agg #[.int .i64 0, .int .i64 0, .slice none 0 0], .int .i64 err]) (by simp [results, Try.results23, go_sem, d0, d1, d2]) rfl
      ⟨by rw [Hspec.out]; exact gives_zero err _, below_set3 hbw (by omega) _ _ _⟩

theorem InP_new2 {p : Nat → Prop} {w : World} {t u : T} {a a2 : Option Addr} {cap cap2 n : Nat} (e : TypeId) (hn : n = w.heap.size) (hp : p w.heap.size) (h : InP p w t.args a) (h2 : InP p w u.args a2) :
    InP p (w.alloc (.cells #[.int .i64 t.v, .int .i64 t.f, .slice a t.args.length cap, .int .i64 u.v, .int .i64 u.f, .slice a2 u.args.length cap2] e)) [t, u] (some ⟨n, 0, none⟩) := by
  subst hn
  exact InP_cons.2 ⟨_, 0, _, rfl, hp, World.cell?_alloc_mark _ _ _ _ _, World.cell?_alloc_mark _ _ _ _ _, World.cell?_alloc_mark _ _ _ _ _, In_iff.2 ⟨a, cap, rfl, InP_alloc _ h⟩,
    InP_cons.2 ⟨_, 3, _, rfl, hp, World.cell?_alloc_mark _ _ _ _ _, World.cell?_alloc_mark _ _ _ _ _, World.cell?_alloc_mark _ _ _ _ _, In_iff.2 ⟨a2, cap2, rfl, InP_alloc _ h2⟩, InP_nil⟩⟩

theorem InP_drew {p : Nat → Prop} {w : World} {ts : List T} {a : Option Addr} (h : InP p w ts a) : InP p w.drew ts a := InP_heap (w := w) rfl h

theorem wrap_ok (x : Int) (h0 : -1000000 ≤ x) (h1 : x ≤ 1000000) : IntKind.i64.wrap x = x := by rw [IntKind.wrap_i64]; omega

/-- The count of one term that lies in a block. -/
theorem size_one (t : T) (n : Nat) (w : World) (ht : t.sz ≤ 120) (h : InL w [t] (some ⟨n, 0, none⟩)) :
    Calls Try.prog 53 #[.int .i64 120, .slice (some ⟨n, 0, none⟩) 1 1] w fun e w' => e = .returned (.int .i64 (t.sz : Int)) ∧ Below w.heap.size w w' := by
  have hs1 : T.sz.szL [t] = t.sz := by rw [T.szL_cons, T.szL_nil]; omega
  have := size_any (t.sz + 1) [t] (120 : Int) (some ⟨n, 0, none⟩) 1 w (by rw [hs1]; omega) (by omega) (by omega) h
  rw [hs1, show min (t.sz : Int) (120 + 1) = t.sz from by omega] at this
  exact this

attribute [local go_sem ↓] Go.wp_at_zero Go.wp_at_succ
set_option maxRecDepth 100000 in
set_option maxHeartbeats 2000000 in
theorem Put_any (ar : List Int) (ga : Option Addr) (gcap : Nat) (t : T) (a : Option Addr) (cap : Nat) (place : List Int) (pa : Option Addr) (pcap : Nat) (u : T) (a2 : Option Addr) (cap2 : Nat) (w : World) (hg : Ints w ar ga) (hin : InL w t.args a) (hp : Ints w place pa)
    (hin2 : InL w u.args a2) (hl : place.length ≤ 9223372036854775807) :
    Calls Try.prog 24 #[.agg #[.slice ga ar.length gcap], .agg #[.int .i64 t.v, .int .i64 t.f, .slice a t.args.length cap], .slice pa place.length pcap, .agg #[.int .i64 u.v, .int .i64 u.f, .slice a2 u.args.length cap2]] w fun e w' =>
      Gives (putSpec ar t place u) e w' ∧ Below w.heap.size w w' := by
  have Hg := hide (fun o1 o2 o3 o4 o5 => Ints_alloc o5 (Ints_alloc o4 (Ints_alloc o3 (Ints_alloc o2 (Ints_alloc o1 hg)))))
  have Hin := hide (fun o1 o2 o3 o4 e => InP_new2 (n := w.heap.size + 1 + 1 + 1 + 1) (cap := cap) (cap2 := cap2) e (by simp) trivial (InP_alloc o4 (InP_alloc o3 (InP_alloc o2 (InP_alloc o1 hin)))) (InP_alloc o4 (InP_alloc o3 (InP_alloc o2 (InP_alloc o1 hin2)))))
  go_enter Try.func24, Try.ntmps24
  go_wp2_with fail
  refine (check_any ar ga gcap [t, u] _ 2 _ (Hg.out _ _ _ _ _) (Hin.out _ _ _ _ _) (by simp)).mono ?_
  rintro e w1 ⟨rfl, hb1⟩
  have hbw : Below w.heap.size w w1 := (((((below1 _ _).alloc (by simp) _).alloc (by simp; omega) _).alloc (by simp; omega) _).alloc (by simp; omega) _).trans (hb1.mono (by simp; omega))
  have hz1 : w.heap.size + 5 ≤ w1.heap.size := by have := hb1.size; simp at this; omega
  have h3t : Three w1 (w.heap.size + 1) (.int .i64 t.v) (.int .i64 t.f) (.slice a t.args.length cap) := ((((Three.new _ (by simp)).alloc _).alloc _).alloc _).below hb1
  have h3u : Three w1 (w.heap.size + 1 + 1) (.int .i64 u.v) (.int .i64 u.f) (.slice a2 u.args.length cap2) := (((Three.new _ (by simp)).alloc _).alloc _).below hb1
  have h3r : Three w1 (w.heap.size + 1 + 1 + 1) (.int .i64 0) (.int .i64 0) (.slice none 0 0) := ((Three.new _ (by simp)).alloc _).below hb1
  clear hb1 Hg Hin
  by_cases hs : allErr ar [t, u] = 0
  · have hszt := sz_of_ok hs (t := t) (by simp)
    have hszu := sz_of_ok hs (t := u) (by simp)
    rw [hs]
    obtain ⟨c0, c1, c2, _, _, _⟩ := h3t
    have hspec : putSpec ar t place u = (match atT t place with | some c => if 120 < (t.sz : Int) - c.sz + u.sz then (zeroT, 2) else (putT u t place, 0) | none => (zeroT, 5)) := by rw [putSpec, if_pos hs]
    have Hspec := hide hspec
    clear hspec
    go_wp2_with fail
    refine (find_any t a cap place pa pcap _ (Ints_below hbw hp) (InP_below hbw hin) hl).mono ?_
    rintro e w2 ⟨hfound, hb2⟩
    have h3r2 := h3r.below hb2
    have h3t2 := Three.below ⟨c0, c1, c2, by assumption, by assumption, by assumption⟩ hb2
    have h3u2 := h3u.below hb2
    have hz2 := hb2.size
    have hbw2 := hbw.trans (hb2.mono (by omega))
    rcases hfound with ⟨c, a1, cap1, hat, rfl, hin1⟩ | ⟨hat, rfl⟩
    · have husz := atT_sz hat
      have hsp2 : putSpec ar t place u = if 120 < (t.sz : Int) - c.sz + u.sz then (zeroT, 2) else (putT u t place, 0) := by rw [Hspec.out, hat]
      have Hsp2 := hide hsp2
      have Hat := hide hat
      clear hsp2 Hspec hat h3r h3u c0 c1 c2
      obtain ⟨d0, d1, d2, f0, f1, f2⟩ := h3r2
      obtain ⟨t0, t1, t2, _, _, _⟩ := h3t2
      obtain ⟨u0, u1, u2, _, _, _⟩ := h3u2
      have hz3 : w.heap.size + 1 + 1 + 1 < w2.heap.size := by omega
      have hz4 : w.heap.size + 1 + 1 < w2.heap.size := by omega
      have hz5 : w.heap.size + 1 < w2.heap.size := by omega
      have hinT := InP_below hbw2 hin
      have hinU := InP_below hbw2 hin2
      have hinC := InP_below hb2 hin1
      have hHT := hide (fun (o : Obj) (w3 : World) (hb : Hid (Below (w2.heap.size + 1) (w2.alloc o) w3)) => (Three.alloc ⟨t0, t1, t2, by assumption, by assumption, by assumption⟩ o).same (hb.out.block _ (by omega)))
      have hHU := hide (fun (o : Obj) (w3 : World) (hb : Hid (Below (w2.heap.size + 1) (w2.alloc o) w3)) => (Three.alloc ⟨u0, u1, u2, by assumption, by assumption, by assumption⟩ o).same (hb.out.block _ (by omega)))
      have hHC := hide (fun (e : TypeId) (w3 : World) (hb : Hid (Below (w2.heap.size + 1) (w2.alloc (.cells #[.int .i64 c.v, .int .i64 c.f, .slice a1 c.args.length cap1] e)) w3)) => (Three.new (w := w2) (v0 := .int .i64 c.v) (v1 := .int .i64 c.f) (v2 := .slice a1 c.args.length cap1) e rfl).same (hb.out.block _ (by omega)))
      have hHR := hide (fun (o : Obj) (w3 : World) (hb : Hid (Below (w2.heap.size + 1) (w2.alloc o) w3)) => (Three.alloc ⟨d0, d1, d2, f0, f1, f2⟩ o).same (hb.out.block _ (by omega)))
      have HP := hide (Ints_below hbw2 hp)
      have hS := hide (fun (e : TypeId) (w' : World) (hb : Below (w2.heap.size + 1) (w2.alloc (.cells #[.int .i64 c.v, .int .i64 c.f, .slice a1 c.args.length cap1] e)) w') => (show w'.cell? ⟨w.heap.size + 1, 0, none⟩ = some (.int .i64 t.v) ∧ w'.cell? ⟨w.heap.size + 1, 1, none⟩ = some (.int .i64 t.f) ∧ w'.cell? ⟨w.heap.size + 1, 2, none⟩ = some (.slice a t.args.length cap) ∧ w'.cell? ⟨w.heap.size + 1 + 1, 0, none⟩ = some (.int .i64 u.v) ∧ w'.cell? ⟨w.heap.size + 1 + 1, 1, none⟩ = some (.int .i64 u.f) ∧ w'.cell? ⟨w.heap.size + 1 + 1, 2, none⟩ = some (.slice a2 u.args.length cap2) ∧ w'.cell? ⟨w2.heap.size, 0, none⟩ = some (.int .i64 c.v) ∧ w'.cell? ⟨w2.heap.size, 1, none⟩ = some (.int .i64 c.f) ∧ w'.cell? ⟨w2.heap.size, 2, none⟩ = some (.slice a1 c.args.length cap1) from
        ⟨(hHT.out _ w' hb).c0, (hHT.out _ w' hb).c1, (hHT.out _ w' hb).c2, (hHU.out _ w' hb).c0, (hHU.out _ w' hb).c1, (hHU.out _ w' hb).c2, (hHC.out _ w' hb).c0, (hHC.out _ w' hb).c1, (hHC.out _ w' hb).c2⟩))
      clear hbw hp hin hin2 hin1 hg hb2
      have husz2 : c.sz ≤ 120 := by omega
      have Hw : Hid (IntKind.i64.wrap (IntKind.i64.wrap ((t.sz : Int) - c.sz) + u.sz) = (t.sz : Int) - c.sz + u.sz) := by
        rw [wrap_ok ((t.sz : Int) - c.sz) (by omega) (by omega), wrap_ok ((t.sz : Int) - c.sz + u.sz) (by omega) (by omega)]; rfl
      go_upto_region 7 with fail
      go_cut [42] (fun v wc => v = .bool (decide (120 < (t.sz : Int) - c.sz + u.sz)) ∧ Hid (Below (w2.heap.size + 1) (w2.alloc (.cells #[.int .i64 c.v, .int .i64 c.f, .slice a1 c.args.length cap1] 27)) wc))
      case first =>
        go_region_held3 (fun w' => w'.cell? ⟨w.heap.size + 1, 0, none⟩ = some (.int .i64 t.v) ∧ w'.cell? ⟨w.heap.size + 1, 1, none⟩ = some (.int .i64 t.f) ∧ w'.cell? ⟨w.heap.size + 1, 2, none⟩ = some (.slice a t.args.length cap) ∧ w'.cell? ⟨w.heap.size + 1 + 1, 0, none⟩ = some (.int .i64 u.v) ∧ w'.cell? ⟨w.heap.size + 1 + 1, 1, none⟩ = some (.int .i64 u.f) ∧ w'.cell? ⟨w.heap.size + 1 + 1, 2, none⟩ = some (.slice a2 u.args.length cap2) ∧ w'.cell? ⟨w2.heap.size, 0, none⟩ = some (.int .i64 c.v) ∧ w'.cell? ⟨w2.heap.size, 1, none⟩ = some (.int .i64 c.f) ∧ w'.cell? ⟨w2.heap.size, 2, none⟩ = some (.slice a1 c.args.length cap1)) ((first | (refine hS.out 27 _ ?_; repeat' (first | with_reducible exact Hid.out ‹Hid (Below _ _ _)› | with_reducible exact Below.refl _ _ | (with_reducible refine Below.drew ?_) | (refine Below.alloc ?_ ?_ _; rotate_left; focus (first | omega | (simp; omega) | (simp; done))))) | go_keep)) ((
          go_at_call 53
          first
            | (refine (size_one t _ _ ?_ ?_).mono ?_; (focus omega); (focus ((repeat' (first | assumption | refine InP_drew ?_ | (refine InP_new1 _ ?_ trivial ?_; focus (first | rfl | (simp; done))) | refine InP_alloc _ ?_ | refine InP_below (by assumption) ?_)); done)))
            | (refine (size_one c _ _ ?_ ?_).mono ?_; (focus omega); (focus ((repeat' (first | assumption | refine InP_drew ?_ | (refine InP_new1 _ ?_ trivial ?_; focus (first | rfl | (simp; done))) | refine InP_alloc _ ?_ | refine InP_below (by assumption) ?_)); done)))
            | (refine (size_one u _ _ ?_ ?_).mono ?_; (focus omega); (focus ((repeat' (first | assumption | refine InP_drew ?_ | (refine InP_new1 _ ?_ trivial ?_; focus (first | rfl | (simp; done))) | refine InP_alloc _ ?_ | refine InP_below (by assumption) ?_)); done)))
          rintro e w3 ⟨rfl, hb3⟩
          have Hbb : Hid (Below (w2.heap.size + 1) (w2.alloc (.cells #[.int .i64 c.v, .int .i64 c.f, .slice a1 c.args.length cap1] 27)) w3) := by
            refine Below.trans (b := _) ?_ (hb3.mono ?_)
            · repeat' (first | with_reducible exact Hid.out ‹Hid (Below _ _ _)› | with_reducible exact Below.refl _ _ | (with_reducible refine Below.drew ?_) | (refine Below.alloc ?_ ?_ _; rotate_left; focus (first | omega | (simp; omega) | (simp; done))))
            · first | omega | (simp; omega) | (simp; done)
          have hsz3 := Hbb.out.size
          have hsz4 := hb3.size
          simp at hsz3 hsz4
          have hq1 : w.heap.size + 1 < w3.heap.size := by omega
          have hq2 : w.heap.size + 1 + 1 < w3.heap.size := by omega
          have hq3 : w2.heap.size < w3.heap.size := by omega
          obtain ⟨_, _, _, _, _, _⟩ := hHT.out _ _ Hbb
          obtain ⟨_, _, _, _, _, _⟩ := hHU.out _ _ Hbb
          obtain ⟨_, _, _, _, _, _⟩ := hHC.out _ _ Hbb))
        all_goals (go_wp2_with fail; go_meet; exact ⟨by rw [Hw.out], Hbb⟩)
      case rest =>
        obtain ⟨rfl, HB⟩ := hcut
        have hbb : Below w2.heap.size w2 wc := (below1 _ _).trans (HB.out.mono (by omega))
        have hzc : w2.heap.size + 1 ≤ wc.heap.size := by have := HB.out.size; simp at this; omega
        have hbf : Below w.heap.size w wc := hbw2.trans (hbb.mono (by omega))
        have h3 := hHR.out _ _ HB
        obtain ⟨x0, x1, x2, g0, g1, g2⟩ := h3
        by_cases hbig : 120 < (t.sz : Int) - c.sz + u.sz
        · have hsp3 : putSpec ar t place u = (zeroT, 2) := by rw [Hsp2.out, if_pos hbig]
          have Hsp3 := hide hsp3
          have hd : decide (120 < (t.sz : Int) - c.sz + u.sz) = true := by simpa using hbig
          rw [hd]
          clear hsp3 Hsp2 hS hHT hHU hHC hHR hbig
          go_wp2_with fail
          exact bodyPost_ret (v := .tuple #[.agg #[.int .i64 0, .int .i64 0, .slice none 0 0], .int .i64 2]) (by simp [results, Try.results24, go_sem, x0, x1, x2]) rfl
            ⟨by rw [Hsp3.out]; exact gives_zero 2 _, below_set3 hbf (by omega) _ _ _⟩
        · have hsp3 : putSpec ar t place u = (putT u t place, 0) := by rw [Hsp2.out, if_neg hbig]
          have Hsp3 := hide hsp3
          have hd : decide (120 < (t.sz : Int) - c.sz + u.sz) = false := by simpa using hbig
          rw [hd]
          obtain ⟨y0, y1, y2, _, _, _⟩ := hHT.out _ _ HB
          obtain ⟨z0, z1, z2, _, _, _⟩ := hHU.out _ _ HB
          have Hpl := hide (Ints_below hbb HP.out)
          have HiT := hide (InP_below hbb hinT)
          have HiU := hide (InP_below hbb hinU)
          clear hsp3 Hsp2 hS hHT hHU hHC hHR hbig hinT hinU hinC
          go_wp2_with fail
          refine (put_any t a cap place pa pcap u a2 cap2 _ c Hpl.out HiT.out HiU.out hl (by omega) (by omega) Hat.out).mono ?_
          rintro e w4 ⟨a3, cap3, rfl, hin4, hb4⟩
          have h34 : Three w4 (w.heap.size + 1 + 1 + 1) (.int .i64 0) (.int .i64 0) (.slice none 0 0) := Three.below ⟨x0, x1, x2, g0, g1, g2⟩ hb4
          obtain ⟨q0, q1, q2, k0, k1, k2⟩ := h34
          have hbf4 : Below w.heap.size w w4 := hbf.trans (hb4.mono (by omega))
          go_wp2_with fail
          exact bodyPost_ret (v := .tuple #[.agg #[.int .i64 (putT u t place).v, .int .i64 (putT u t place).f, .slice a3 (putT u t place).args.length cap3], .int .i64 0]) (by simp [results, Try.results24, go_sem, q0, q1, q2]) rfl
            ⟨by rw [Hsp3.out]; exact ⟨a3, cap3, rfl, InP_imp (fun _ _ => trivial) (InP_same (fun k hk _ => set3_block (by omega)) hin4)⟩, below_set3 hbf4 (by omega) _ _ _⟩
    · have hsp2 : putSpec ar t place u = (zeroT, 5) := by rw [Hspec.out, hat]
      have Hsp2 := hide hsp2
      clear hsp2 Hspec hat h3r
      obtain ⟨d0, d1, d2, f0, f1, f2⟩ := h3r2
      have hz3 : w.heap.size + 1 + 1 + 1 < w2.heap.size := by omega
      go_wp2_with fail
      exact bodyPost_ret (v := .tuple #[.agg #[.int .i64 0, .int .i64 0, .slice none 0 0], .int .i64 5]) (by simp [results, Try.results24, go_sem, d0, d1, d2, hz3]) rfl
        ⟨by rw [Hsp2.out]; exact gives_zero 5 _, (below_set3 hbw2 (by omega) _ _ _).alloc (by rw [set3_size]; omega) _⟩
  · have hs1 : (allErr ar [t, u] != 0) = true := by simpa using hs
    have hspec : putSpec ar t place u = (zeroT, allErr ar [t, u]) := by rw [putSpec, if_neg hs]
    have Hspec := hide hspec
    clear hspec hs
    obtain ⟨d0, d1, d2, f0, f1, f2⟩ := h3r
    generalize allErr ar [t, u] = err at *
    go_wp2_with fail
    exact bodyPost_ret (v := .tuple #[.agg #[.int .i64 0, .int .i64 0, .slice none 0 0], .int .i64 err]) (by simp [results, Try.results24, go_sem, d0, d1, d2]) rfl
      ⟨by rw [Hspec.out]; exact gives_zero err _, below_set3 hbw (by omega) _ _ _⟩

end Go.Proofs.Ytbkedppkdhfpoaa

namespace Go.Proofs.Ytbkedppkdhfpoaa
open Go.RowKit

/-- The block of the slice that a variable's block holds. -/
def slFoot : Option Obj → Nat → Prop := fun o k => ∃ a n c t fr, o = some (.cells #[.slice (some a) n c] t fr) ∧ k = a.block

theorem own_same {w w' : World} {base : Nat} {e : TypeId} {size : Nat} {v : Value} {n : Nat} {xs : List Value} (h : w.ownsRow base e size v n xs) (hs : ∀ g, v.ownBlock = some g → w'.heap[g]? = w.heap[g]?) : w'.ownsRow base e size v n xs := by
  obtain ⟨h1, h2⟩ := h
  refine ⟨h1, ?_⟩
  rcases h2 with h2 | ⟨g, cap, cur, hv, hg, hh, r⟩
  · exact Or.inl h2
  · exact Or.inr ⟨g, cap, cur, hv, hg, by rw [hs g (by rw [hv]; rfl)]; exact hh, r⟩
theorem own_lt {w : World} {base : Nat} {e : TypeId} {size : Nat} {v : Value} {n : Nat} {xs : List Value} (h : w.ownsRow base e size v n xs) : ∀ g, v.ownBlock = some g → base ≤ g ∧ g < w.heap.size := by
  intro g hg
  rcases h.2 with ⟨rfl, _⟩ | ⟨g', cap, cur, rfl, hb, hh, _⟩
  · cases hg
  · simp only [Value.ownBlock, Option.some.injEq] at hg
    subst hg
    refine ⟨hb, ?_⟩
    rcases Nat.lt_or_ge g' w.heap.size with h | h
    · exact h
    · rw [Array.getElem?_eq_none h] at hh; cases hh
theorem own_shape {w : World} {base : Nat} {e : TypeId} {size : Nat} {v : Value} {n : Nat} {xs : List Value} (h : w.ownsRow base e size v n xs) : ∃ a c, v = .slice a n c := by
  rcases h.2 with ⟨rfl, rfl⟩ | ⟨g', cap, cur, rfl, _⟩
  · exact ⟨_, _, rfl⟩
  · exact ⟨_, _, rfl⟩

/-- The variables so far, in a slice of the call's own that the variable at x holds. -/
structure VarsAt (x B : Nat) (w : World) (zs : List Int) : Prop where
  ex : ∃ v, w.heap[x]? = some (.cells #[v] 22 (0, 0)) ∧ w.ownsRow B 3 1 v zs.length (zs.map (Value.int .i64))

theorem foot_of {x : Nat} {w : World} {v : Value} {e : TypeId} {fr : Nat × Nat} (h : w.heap[x]? = some (.cells #[v] e fr)) (k : Nat) : slFoot w.heap[x]? k ↔ v.ownBlock = some k := by
  rw [h]
  constructor
  · rintro ⟨a, n, c, t, fr', h1, rfl⟩
    simp only [Option.some.injEq, Obj.cells.injEq] at h1
    obtain ⟨h1, _, _⟩ := h1
    have : v = .slice (some a) n c := by simpa using h1
    rw [this]; rfl
  · intro h1
    cases v with
    | slice a n c =>
      cases a with
      | none => cases h1
      | some a => exact ⟨a, n, c, e, fr, rfl, by simpa [Value.ownBlock] using h1.symm⟩
    | _ => cases h1

theorem VarsAt.below {x B : Nat} {w w' : World} {zs : List Int} (h : VarsAt x B w zs) (hb : Below w.heap.size w w') : VarsAt x B w' zs := by
  obtain ⟨v, h1, h2⟩ := h
  have hx : x < w.heap.size := by
    rcases Nat.lt_or_ge x w.heap.size with h | h
    · exact h
    · rw [Array.getElem?_eq_none h] at h1; cases h1
  exact ⟨v, by rw [hb.block x hx]; exact h1, own_same h2 (fun g hg => hb.block g (own_lt h2 g hg).2)⟩

def varStep : List Int → T → List Int × Bool := fun zs t => (if t.v = 0 then zs else zs ++ [t.v], true)

theorem Try.info3 : (Try.prog.info? 3).map (fun i => (i.zero, i.size, i.bytes)) = some (some (.int .i64 0), 1, 8) := by kernel_rfl

theorem one_new {w : World} {v : Value} {e : TypeId} {n : Nat} (hn : n = w.heap.size) : ∀ (j : Nat) (u : Value), [v][j]? = some u → (w.alloc (.cells #[v] e)).cell? ((⟨n, 0, none⟩ : Addr).add j) = some u := by
  subst hn; exact cell_one_new _ _ _

/-- What the append and the store behind it make. -/
theorem VarsAt.grown {x B : Nat} {w w2 : World} {zs : List Int} {v : Value} {n : Int} {g cap H : Nat} (hxB : x < B) (hB : B ≤ w.heap.size) (hv : w.heap[x]? = some (.cells #[v] 22 (0, 0))) (hown : w.ownsRow B 3 1 v zs.length (zs.map (Value.int .i64)))
    (hH : w.heap.size ≤ H) (W : World) (hW : Below w.heap.size w W)
    (hown2 : w2.ownsRow B 3 1 (.slice (some ⟨g, 0, none⟩) (zs.length + 1) cap) (zs.length + 1) (zs.map (Value.int .i64) ++ [.int .i64 n])) (hgr : W.grownBy w2 v.ownBlock) (hat : v.ownBlock = some g ∨ g = H) (hlt : g < w2.heap.size) :
    VarsAt x B (w2.setCell ⟨x, 0, none⟩ (.slice (some ⟨g, 0, none⟩) (zs.length + 1) cap)) (zs ++ [n]) ∧ Keeps x slFoot w (w2.setCell ⟨x, 0, none⟩ (.slice (some ⟨g, 0, none⟩) (zs.length + 1) cap)) := by
  have hx : x < w.heap.size := by omega
  have hxv : v.ownBlock ≠ some x := fun e => by have := (own_lt hown x e).1; omega
  have hwsz := hW.size
  have hgs := hgr.size
  have hx2 : w2.heap[x]? = some (.cells #[v] 22 (0, 0)) := by rw [hgr.block x (by omega) (fun e => hxv e.symm), hW.block x hx]; exact hv
  have hx3 : (w2.setCell ⟨x, 0, none⟩ (.slice (some ⟨g, 0, none⟩) (zs.length + 1) cap)).heap[x]? = some (.cells #[.slice (some ⟨g, 0, none⟩) (zs.length + 1) cap] 22 (0, 0)) := by
    simp [World.setCell, Array.getElem?_modify, hx2]
  have hg := own_lt hown2 g rfl
  refine ⟨⟨_, hx3, ?_⟩, hgr.os.trans hW.os, hgr.tape.trans hW.tape, hgr.output.trans hW.output, ?_, fun k hk hkx hkF => ?_, fun k hkF => ?_⟩
  · rw [List.length_append, List.map_append]
    exact ownsRow_setCell_below hown2 hxB _
  · simp [World.setCell]; omega
  · rw [foot_of hv] at hkF
    rw [Below.heap_setCell _ _ _ _ hkx, hgr.block k (by omega) (fun e => hkF e.symm), hW.block k hk]
  · rw [foot_of hx3] at hkF
    simp only [Value.ownBlock, Option.some.injEq] at hkF
    subst hkF
    rcases hat with hat | rfl
    · exact Or.inl ((foot_of hv _).2 hat)
    · exact Or.inr ⟨hH, by simp [World.setCell]; omega⟩

set_option maxRecDepth 100000 in
set_option maxHeartbeats 400000 in
theorem varsC_any (x B : Nat) (w : World) (zs : List Int) (t : T) (a : Option Addr) (cap : Nat) (hxB : x < B) (hB : B ≤ w.heap.size) (hz : zs.length < 1000) (h : VarsAt x B w zs) :
    Calls Try.prog 55 #[.agg #[.int .i64 t.v, .int .i64 t.f, .slice a t.args.length cap], .pointer (some ⟨x, 0, none⟩)] w fun e w' =>
      e = .returned (.bool (varStep zs t).2) ∧ VarsAt x B w' (varStep zs t).1 ∧ Keeps x slFoot w w' := by
  have hx : x < w.heap.size := by omega
  by_cases ht : t.v = 0
  · have h1 : varStep zs t = (zs, true) := by rw [varStep, if_pos ht]
    rw [h1]
    have ht' : (t.v != 0) = false := by simpa using ht
    have H := hide h
    clear h h1 ht
    go_enter Try.func55, Try.ntmps55
    go_wp2_with fail
    go_ret
    exact ⟨rfl, H.out.below (below1 _ _), Keeps.of_below hx (below1 _ _)⟩
  · have h1 : varStep zs t = (zs ++ [t.v], true) := by rw [varStep, if_neg ht]
    rw [h1]
    have ht' : (t.v != 0) = true := by simpa using ht
    obtain ⟨v, hv, hown⟩ := h
    obtain ⟨va, vc, rfl⟩ := own_shape hown
    have cv : w.cell? ⟨x, 0, none⟩ = some (.slice va zs.length vc) := by simp [World.cell?, hv]
    have Hv := hide hv
    have Hown := hide hown
    clear h1 ht hv hown
    obtain ⟨i, hi, hzz⟩ := Option.map_eq_some_iff.1 Try.info3
    simp only [Prod.mk.injEq] at hzz
    obtain ⟨hz0, hz1, hz2⟩ := hzz
    have HO := hide (fun o1 o2 => own_same Hown.out (w' := (w.alloc o1).alloc o2) (fun g hg => (below2 w o1 o2).block g (own_lt Hown.out g hg).2))
    go_enter Try.func55, Try.ntmps55
    go_wp2_with (at_builtin; go_must (refine wpList_append_lies _ rfl (.tmp 7) (.tmp 10) 22 rfl B 3 i (.int .i64 0) 1 8 Try.underlying22 hi hz0 hz1 hz2 rfl (by decide) (.slice va zs.length vc) zs.length (zs.map (Value.int .i64)) rfl (HO.out _ _) ⟨w.heap.size + 1, 0, none⟩ 1 1 [.int .i64 t.v] rfl rfl (one_new (by simp)) (by simp [Value.oneCell']) (by decide) (by unfold maxLen; omega) (by omega) (by simp; omega) _ rfl ?_))
    intro g cap2 w2 hown2 hgr hat hlt
    have hg := VarsAt.grown (H := w.heap.size + 1 + 1) hxB hB Hv.out Hown.out (by omega) _ (below2 _ _ _) hown2 hgr (by simpa using hat) hlt
    have Hg := hide hg
    have hx2 : w2.heap[x]? = some (.cells #[.slice va zs.length vc] 22 (0, 0)) := by
      have hne : (Value.slice va zs.length vc).ownBlock ≠ some x := fun e => by have := (own_lt Hown.out x e).1; omega
      rw [hgr.block x (by simp; omega) (fun e => hne e.symm), (below2 _ _ _).block x hx]; exact Hv.out
    have cv2 : w2.cell? ⟨x, 0, none⟩ = some (.slice va zs.length vc) := by simp [World.cell?, hx2]
    have fv2 : w2.frozen? ⟨x, 0, none⟩ = false := by simp [World.frozen?, hx2]
    clear hg hown2 hgr hat hx2 HO
    go_wp2_with fail
    go_ret
    exact ⟨rfl, Hg.out⟩

end Go.Proofs.Ytbkedppkdhfpoaa

namespace Go.Proofs
open Go.Shelf
def Try.lays189_ren : Go.Shelf.Ren := ⟨fun | 189 => 56 | 125 => 88 | 257 => 87 | 128 => 113 | 129 => 114 | 294 => 104 | 295 => 105 | 296 => 106 | 297 => 107 | 298 => 108 | 299 => 109 | 216 => 110 | 300 => 111 | 301 => 112 | 328 => 120 | 329 => 121 | 330 => 122 | 331 => 123 | 332 => 124 | 215 => 125 | 343 => 130 | n => n, fun | 28 => 22 | 3 => 3 | 46 => 119 | 0 => 0 | 51 => 153 | 53 => 155 | 4 => 4 | 183 => 147 | 182 => 146 | 131 => 127 | 5 => 5 | 9 => 9 | 218 => 159 | 222 => 163 | 228 => 168 | 229 => 169 | n => n, fun | n => n⟩
theorem Try.lays189 : Go.Proofs.Lays.n189 Try.prog Try.lays189_ren := {
  mixed := by kernel_rfl
  f125 := Try.func88.trans (congrArg some (by kernel_rfl))
  f128 := Try.func113.trans (congrArg some (by kernel_rfl))
  f129 := Try.func114.trans (congrArg some (by kernel_rfl))
  f189 := Try.func56.trans (congrArg some (by kernel_rfl))
  f215 := Try.func125.trans (congrArg some (by kernel_rfl))
  f216 := Try.func110.trans (congrArg some (by kernel_rfl))
  f257 := Try.func87.trans (congrArg some (by kernel_rfl))
  f294 := Try.func104.trans (congrArg some (by kernel_rfl))
  f295 := Try.func105.trans (congrArg some (by kernel_rfl))
  f296 := Try.func106.trans (congrArg some (by kernel_rfl))
  f297 := Try.func107.trans (congrArg some (by kernel_rfl))
  f298 := Try.func108.trans (congrArg some (by kernel_rfl))
  f299 := Try.func109.trans (congrArg some (by kernel_rfl))
  f300 := Try.func111.trans (congrArg some (by kernel_rfl))
  f301 := Try.func112.trans (congrArg some (by kernel_rfl))
  f328 := Try.func120.trans (congrArg some (by kernel_rfl))
  f329 := Try.func121.trans (congrArg some (by kernel_rfl))
  f330 := Try.func122.trans (congrArg some (by kernel_rfl))
  f331 := Try.func123.trans (congrArg some (by kernel_rfl))
  f332 := Try.func124.trans (congrArg some (by kernel_rfl))
  f343 := Try.func130.trans (congrArg some (by kernel_rfl))
  t0 := Try.underlying0
  a0 := Try.isAgg0
  z0 := Try.sizeOf0
  v0 := Try.zeroValue0
  t3 := Try.underlying3
  a3 := Try.isAgg3
  z3 := Try.sizeOf3
  v3 := Try.zeroValue3
  t4 := Try.underlying4
  a4 := Try.isAgg4
  z4 := Try.sizeOf4
  v4 := Try.zeroValue4
  t5 := Try.underlying5
  a5 := Try.isAgg5
  z5 := Try.sizeOf5
  v5 := Try.zeroValue5
  t9 := Try.underlying9
  a9 := Try.isAgg9
  z9 := Try.sizeOf9
  v9 := Try.zeroValue9
  t28 := Try.underlying22
  a28 := Try.isAgg22
  z28 := Try.sizeOf22
  v28 := Try.zeroValue22
  t46 := Try.underlying119
  a46 := Try.isAgg119
  z46 := Try.sizeOf119
  v46 := Try.zeroValue119
  t51 := Try.underlying153
  a51 := Try.isAgg153
  z51 := Try.sizeOf153
  v51 := Try.zeroValue153
  t53 := Try.underlying155
  a53 := Try.isAgg155
  z53 := Try.sizeOf155
  v53 := Try.zeroValue155
  t131 := Try.underlying127
  a131 := Try.isAgg127
  z131 := Try.sizeOf127
  v131 := Try.zeroValue127
  t182 := Try.underlying146
  a182 := Try.isAgg146
  z182 := Try.sizeOf146
  v182 := Try.zeroValue146
  t183 := Try.underlying147
  a183 := Try.isAgg147
  z183 := Try.sizeOf147
  v183 := Try.zeroValue147
  t218 := Try.underlying159
  a218 := Try.isAgg159
  z218 := Try.sizeOf159
  v218 := Try.zeroValue159
  t222 := Try.underlying163
  a222 := Try.isAgg163
  z222 := Try.sizeOf163
  v222 := Try.zeroValue163
  t228 := Try.underlying168
  a228 := Try.isAgg168
  z228 := Try.sizeOf168
  v228 := Try.zeroValue168
  t229 := Try.underlying169
  a229 := Try.isAgg169
  z229 := Try.sizeOf169
  v229 := Try.zeroValue169 }
open Go.Sort Go.RowKit in
theorem Try.slices_Sort_int (blk off cap : Nat) (zs : List Int) (w : World) (hH : Holds (Value.int .i64) w blk off zs.toArray) (hblk : blk < w.heap.size) (hsz : zs.length < 4611686018427387904) :
    Calls Try.prog 56 #[.slice (some ⟨blk, off, none⟩) zs.length cap] w fun e w' =>
      e = .returned (.tuple #[]) ∧ ∃ n os, w' = grow (putRow (Value.int .i64) (Sort.ahead w n) blk off (zs.mergeSort fun x y => decide (x ≤ y)).toArray) os := Any.slices_Sort_int Try.lays189 blk off cap zs w hH hblk hsz
def Try.laysNm220_ren : Go.Shelf.Ren := ⟨fun | 20 => 57 | n => n, fun | 22 => 22 | 3 => 3 | 4 => 4 | 0 => 0 | n => n, fun | n => n⟩
theorem Try.laysNm220 : Go.Proofs.Lays2.n20 Try.prog Try.laysNm220_ren := {
  mixed := by kernel_rfl
  f20 := Try.func57.trans (congrArg some (by kernel_rfl))
  t0 := Try.underlying0
  a0 := Try.isAgg0
  z0 := Try.sizeOf0
  v0 := Try.zeroValue0
  t3 := Try.underlying3
  a3 := Try.isAgg3
  z3 := Try.sizeOf3
  v3 := Try.zeroValue3
  t4 := Try.underlying4
  a4 := Try.isAgg4
  z4 := Try.sizeOf4
  v4 := Try.zeroValue4
  t22 := Try.underlying22
  a22 := Try.isAgg22
  z22 := Try.sizeOf22
  v22 := Try.zeroValue22
  i3 := by kernel_rfl }
open Go.RowKit Go.Lib Go.Sort in
theorem Try.slices_Compact_int (blk off cap : Nat) (zs : List Int) (w : World) (hH : Holds (Value.int .i64) w blk off zs.toArray) (hsz : zs.length ≤ 9223372036854775807) (hcap : zs.length ≤ cap) :
    Calls Try.prog 57 #[.slice (some ⟨blk, off, none⟩) zs.length cap] w fun e w' => e = .returned (.slice (some ⟨blk, off, none⟩) (Lib.compact zs).length cap) ∧ ∃ q, w' = putRow (Value.int .i64) (Sort.ahead w q) blk off (Lib.compact zs ++ List.replicate (zs.length - (Lib.compact zs).length) 0).toArray := Any.slices_Compact_int Try.laysNm220 blk off cap zs w hH hsz hcap
open Go.RowKit Go.Lib Go.Sort in
theorem Try.slices_Compact_int_empty (a : Option Addr) (cap : Nat) (w : World) :
    Calls Try.prog 57 #[.slice a 0 cap] w fun e w' => e = .returned (.slice a 0 cap) ∧ w' = w := Any.slices_Compact_int_empty Try.laysNm220 a cap w
open Go.RowKit Go.Sort in
theorem Try.slices_Sort_int_none (p : Option Addr) (cap : Nat) (w : World) :
    Calls Try.prog 56 #[.slice p 0 cap] w fun e w' => e = .returned (.tuple #[]) ∧ w' = w := Any.slices_Sort_int_none Try.lays189 p cap w
end Go.Proofs

namespace Go.Proofs.Ytbkedppkdhfpoaa
open Go.RowKit

theorem putRow_block {α : Type} [Inhabited α] {enc : α → Value} {w : World} {blk off k : Nat} {d : Array α} (h : k ≠ blk) : (Sort.putRow enc w blk off d).heap[k]? = w.heap[k]? := by
  simp [Sort.putRow, Sort.mapBlock, Array.getElem?_modify, Ne.symm h]

theorem holds_own {w : World} {B g cap : Nat} {zs : List Int} (h : w.ownsRow B 3 1 (.slice (some ⟨g, 0, none⟩) zs.length cap) zs.length (zs.map (Value.int .i64))) (hn : 0 < zs.length) : Sort.Holds (Value.int .i64) w g 0 zs.toArray ∧ g < w.heap.size ∧ zs.length ≤ cap := by
  rcases h.2 with ⟨_, h0⟩ | ⟨g', cap', cur, he, hb, hg, hc, hm, hs, ht⟩
  · omega
  simp only [Value.slice.injEq, Option.some.injEq, Addr.mk.injEq, and_true, true_and] at he
  obtain ⟨rfl, rfl⟩ := he
  refine ⟨fun j hj => ?_, ?_, hc⟩
  · have hj' : j < zs.length := by simpa using hj
    have e1 : cur[j]? = some (.int .i64 zs[j]) := by
      have : (cur.toList.take (zs.length * 1))[j]? = some (.int .i64 zs[j]) := by rw [ht]; simp [hj']
      rw [List.getElem?_take_of_lt (by omega)] at this
      simpa using this
    constructor
    · simp only [World.cell?, hg, Nat.zero_add]
      simp [e1, hj']
    · simp [World.frozen?, hg]
  · rcases Nat.lt_or_ge g w.heap.size with h | h
    · exact h
    · rw [Array.getElem?_eq_none h] at hg; cases hg

theorem sort_any (g cap : Nat) (zs : List Int) (w : World) (hH : Sort.Holds (Value.int .i64) w g 0 zs.toArray) (hg : g < w.heap.size) (hn : zs.length ≤ 2000) :
    Calls Try.prog 56 #[.slice (some ⟨g, 0, none⟩) zs.length cap] w fun e w' => e = .returned (.tuple #[]) ∧ Keeps g noFoot w w' ∧ Sort.Holds (Value.int .i64) w' g 0 (zs.mergeSort fun x y => decide (x ≤ y)).toArray := by
  refine (Try.slices_Sort_int g 0 cap zs w hH hg (by omega)).mono ?_
  rintro e w' ⟨rfl, n, os, rfl⟩
  refine ⟨rfl, ⟨rfl, rfl, rfl, by simp, fun k hk hkg _ => ?_, fun _ h => h.elim⟩, ?_⟩
  · rw [Sort.heap_grow_old _ _ (by simpa using hk), putRow_block hkg]; rfl
  · refine Sort.holds_grow _ _ _ _ _ _ (by simpa using hg) (Sort.holds_putRow _ _ _ _ zs.toArray _ hH (by simp))

theorem compact_le (zs : List Int) : (Lib.compact zs).length ≤ zs.length := by
  unfold Lib.compact Lib.compactUpTo
  rw [List.length_map]
  exact Nat.le_trans (List.length_filter_le _ _) (by simp)

theorem compact_any (g cap : Nat) (zs : List Int) (w : World) (hH : Sort.Holds (Value.int .i64) w g 0 zs.toArray) (hcap : zs.length ≤ cap) (hn : zs.length ≤ 2000) :
    Calls Try.prog 57 #[.slice (some ⟨g, 0, none⟩) zs.length cap] w fun e w' => e = .returned (.slice (some ⟨g, 0, none⟩) (Lib.compact zs).length cap) ∧ Keeps g noFoot w w' ∧ Ints w' (Lib.compact zs) (some ⟨g, 0, none⟩) := by
  refine (Try.slices_Compact_int g 0 cap zs w hH (by omega) hcap).mono ?_
  rintro e w' ⟨rfl, q, rfl⟩
  have hle := compact_le zs
  refine ⟨rfl, ⟨rfl, rfl, rfl, by simp, fun k hk hkg _ => ?_, fun _ h => h.elim⟩, Or.inr ⟨g, 0, rfl, fun i hi => ?_⟩⟩
  · rw [putRow_block hkg]; rfl
  · have h1 := Sort.cell?_putRow (Value.int .i64) (Sort.ahead w q) g 0 zs.toArray (Lib.compact zs ++ List.replicate (zs.length - (Lib.compact zs).length) 0).toArray hH (by simp; omega) i (by simp; omega)
    rw [h1]
    congr 1
    simp [List.getElem?_append_left hi, List.getD]

theorem eg55 (args : Array Value) (w : World) : (callFunc 55 args).run Try.prog w = .ok (.enter 55 args) w := by kernel_rfl

theorem look_vars (x B : Nat) (ts : List T) (a : Option Addr) (cap : Nat) (w : World) (hxB : x < B) (h1000 : T.sz.szL ts ≤ 1000) (hf : Foot x B slFoot w) (hin : InP (fun k => k < B ∧ k ≠ x) w ts a) (hst : VarsAt x B w []) :
    Calls Try.prog 54 #[.func (.func 55) #[] #[.pointer (some ⟨x, 0, none⟩)], .slice a ts.length cap] w fun e w' =>
      e = .returned (.bool (lookT.lookL varStep [] ts).2) ∧ VarsAt x B w' (lookT.lookL varStep [] ts).1 ∧ Keeps x slFoot w w' :=
  look_any varStep 55 #[.pointer (some ⟨x, 0, none⟩)] x B slFoot (VarsAt x B) eg55 List.length 1000 (fun s t => by
      show (if t.v = 0 then s else s ++ [t.v]).length ≤ _
      split <;> simp) (fun _ _ _ _ h => h.below (below1 _ _))
    (fun w' s t' a' cap' hlt hf' h => varsC_any x B w' s t' a' cap' hxB hf'.hB hlt h) (T.sz.szL ts + 1) ts a cap w [] (by omega) h1000 (by simpa using h1000) hf hin hst

/-- All variables of a term, behind those that stand ahead. -/
def allVars (t : T) : List Int := (lookT.lookL varStep [] [t]).1
/-- The variables of a term, rising, each once. -/
def varsT (t : T) : List Int := Lib.compact ((allVars t).mergeSort fun x y => decide (x ≤ y))

/-- What Vars answers. -/
def varsSpec (ar : List Int) (t : T) : List Int := if allErr ar [t] = 0 then varsT t else []

/-- Numbers and an error handed back. -/
def GivesInts (zs : List Int) (err : Int) (e : Ending) (w' : World) : Prop :=
  ∃ a1 cap1, e = .returned (.tuple #[.slice a1 zs.length cap1, .int .i64 err]) ∧ Ints w' zs a1
/-- The same; what is nil has no room, and what is not begins somewhere. -/
def GivesNums (zs : List Int) (err : Int) (e : Ending) (w' : World) : Prop :=
  ∃ a1 cap1, e = .returned (.tuple #[.slice a1 zs.length cap1, .int .i64 err]) ∧ Ints w' zs a1 ∧ ((a1 = none ∧ cap1 = 0) ∨ ∃ g, a1 = some ⟨g, 0, none⟩)

theorem allVars_le (t : T) : (allVars t).length ≤ t.sz := by
  have := (look_mu (step := varStep) (mu := List.length) (fun s t => by
      show (if t.v = 0 then s else s ++ [t.v]).length ≤ _
      split <;> simp) _).2 [t] [] (Nat.le_refl _)
  rw [T.szL_cons, T.szL_nil] at this
  simpa [allVars] using this

theorem Below.of_keepsF {x B : Nat} {F : Option Obj → Nat → Prop} {W w' : World} (h : Keeps x F W w') (hx : B ≤ x) (hB : B ≤ W.heap.size) (hF : ∀ k, F W.heap[x]? k → B ≤ k) : Below B W w' :=
  ⟨h.os, h.tape, h.output, h.size, fun k hk => h.block k (by omega) (by omega) (fun hk' => by have := hF k hk'; omega)⟩

set_option maxRecDepth 100000 in
set_option maxHeartbeats 1000000 in
theorem Vars_nums (ar : List Int) (ga : Option Addr) (gcap : Nat) (t : T) (a : Option Addr) (cap : Nat) (w : World) (hg : Ints w ar ga) (hin : InL w t.args a) (hszok : allErr ar [t] = 0 → t.sz ≤ 120) :
    Calls Try.prog 13 #[.agg #[.slice ga ar.length gcap], .agg #[.int .i64 t.v, .int .i64 t.f, .slice a t.args.length cap]] w fun e w' =>
      GivesNums (varsSpec ar t) (allErr ar [t]) e w' ∧ Below w.heap.size w w' := by
  have hmf : ∀ (fn : Fn) (first cap : Array Value) (w : World), (Instr.makeFunc fn first cap).run Try.prog w = .ok (.func fn first cap) w := fun _ _ _ _ => rfl
  have Hg := hide (fun o1 o2 o3 => Ints_alloc o3 (Ints_alloc o2 (Ints_alloc o1 hg)))
  have Hin := hide (fun o1 o2 e => InP_new1 (n := w.heap.size + 1 + 1) (cap := cap) e (by simp) trivial (InP_alloc o2 (InP_alloc o1 hin)))
  have hs1 : T.sz.szL [t] = t.sz := by rw [T.szL_cons, T.szL_nil]; omega
  have Hs1 := hide hs1
  clear hg hs1
  go_enter Try.func13, Try.ntmps13
  go_wp2_with fail
  refine (check_any ar ga gcap [t] _ 1 _ (Hg.out _ _ _) (Hin.out _ _ _) (by simp)).mono ?_
  rintro e w1 ⟨rfl, hb1⟩
  have hbw : Below w.heap.size w w1 := (((below1 _ _).alloc (by simp) _).alloc (by simp; omega) _).trans (hb1.mono (by simp; omega))
  have hz1 : w.heap.size + 1 < w1.heap.size := by have := hb1.size; simp at this; omega
  have h3t : Three w1 (w.heap.size + 1) (.int .i64 t.v) (.int .i64 t.f) (.slice a t.args.length cap) := ((Three.new _ (by simp)).alloc _).below hb1
  clear hb1
  by_cases hs : allErr ar [t] = 0
  · have hsz := hszok hs
    have hsp : varsSpec ar t = varsT t := by rw [varsSpec, if_pos hs]
    have Hsp := hide hsp
    have Hs := hide hs
    rw [hs]
    obtain ⟨d0, d1, d2, _, _, _⟩ := h3t
    have hin1 := InP_lt (InP_below hbw hin)
    have hin2 : ∀ e1 e2, InP (fun k => k < w1.heap.size + 2 ∧ k ≠ w1.heap.size) ((w1.alloc (.cells #[.slice none 0 0] e1)).alloc (.cells #[.int .i64 t.v, .int .i64 t.f, .slice a t.args.length cap] e2)) [t] (some ⟨w1.heap.size + 1, 0, none⟩) :=
      fun e1 e2 => InP_new1 e2 (by simp) (by constructor <;> simp) (InP_alloc _ (InP_imp (fun k h => by omega) hin1))
    have hst : ∀ o2, VarsAt w1.heap.size (w1.heap.size + 2) ((w1.alloc (.cells #[.slice none 0 0] 22)).alloc o2) [] := fun o2 =>
      VarsAt.below ⟨.slice none 0 0, heap_alloc_new w1 _, ⟨rfl, Or.inl ⟨rfl, rfl⟩⟩⟩ (below1 _ _)
    have hft : ∀ o2, Foot w1.heap.size (w1.heap.size + 2) slFoot ((w1.alloc (.cells #[.slice none 0 0] 22)).alloc o2) := fun o2 =>
      ⟨by simp; omega, by simp, fun k hk => by
        rw [Below.heap_alloc _ _ _ (by simp), foot_of (heap_alloc_new w1 _)] at hk; cases hk⟩
    have Hin2 := hide hin2
    have Hst := hide hst
    have Hft := hide hft
    clear hin1 hin2 hst hft hs hsp
    go_wp2_with fail
    refine (look_vars _ (w1.heap.size + 2) [t] _ 1 _ (by omega) (by rw [Hs1.out]; omega) (Hft.out _) (Hin2.out _ _) (Hst.out _)).mono ?_
    rintro e w2 ⟨rfl, hvars, hkeep⟩
    have hb2 : Below w.heap.size w w2 := ((hbw.alloc (by omega) _).alloc (by simp; omega) _).trans (Below.of_keepsF hkeep (by omega) (by simp; omega) (fun k hk => by have := (Hft.out _).rng k hk; omega))
    have hsz2 := hkeep.size
    simp at hsz2
    have hle := allVars_le t
    change VarsAt w1.heap.size (w1.heap.size + 2) w2 (allVars t) at hvars
    obtain ⟨v, hv, hown⟩ := hvars
    obtain ⟨va, vc, rfl⟩ := own_shape hown
    have cv : w2.cell? ⟨w1.heap.size, 0, none⟩ = some (.slice va (allVars t).length vc) := by simp [World.cell?, hv]
    have Hv := hide hv
    have Hown := hide hown
    clear hkeep hv hown Hft Hin2 Hst
    clear hszok
    by_cases hnil : (allVars t).length = 0
    · have hv0 : varsSpec ar t = [] := by
        rw [Hsp.out, varsT, List.length_eq_zero_iff.1 hnil, List.mergeSort_nil]; rfl
      have Hv0 := hide hv0
      have Hvn : Hid ((va = none ∧ vc = 0) ∨ ∃ g, va = some ⟨g, 0, none⟩) := by
        rcases Hown.out.2 with ⟨h, _⟩ | ⟨g, cap, cur, h, _⟩
        · simp only [Value.slice.injEq] at h; exact Or.inl ⟨h.1, h.2.2⟩
        · simp only [Value.slice.injEq] at h; exact Or.inr ⟨g, h.1⟩
      rw [hnil] at cv
      clear hnil hv0
      go_wp2_with fail
      refine (Try.slices_Sort_int_none va vc _).mono ?_
      rintro e w3 ⟨rfl, rfl⟩
      go_wp2_with fail
      refine (Try.slices_Compact_int_empty va vc _).mono ?_
      rintro e w4 ⟨rfl, rfl⟩
      go_wp2_with fail
      go_ret2
      exact ⟨by rw [Hv0.out, Hs.out]; exact ⟨va, vc, rfl, Or.inl rfl, Hvn.out⟩, hb2⟩
    · have hpos : 0 < (allVars t).length := by omega
      obtain ⟨g, cap2, hform, hBg, hglt⟩ := Hown.out.form hpos
      simp only [Value.slice.injEq, true_and] at hform
      obtain ⟨rfl, rfl⟩ := hform
      obtain ⟨hH, _, hcap⟩ := holds_own Hown.out hpos
      have HH := hide hH
      have hlen : ((allVars t).mergeSort fun x y => decide (x ≤ y)).length = (allVars t).length := List.length_mergeSort _
      have Hlen := hide hlen
      clear hH hlen hnil
      go_wp2_with fail
      refine (sort_any g vc (allVars t) _ HH.out hglt (by omega)).mono ?_
      rintro e w3 ⟨rfl, hk3, hH3⟩
      have hz3 := hk3.size
      have cv3 : w3.cell? ⟨w1.heap.size, 0, none⟩ = some (.slice (some ⟨g, 0, none⟩) (allVars t).length vc) := by
        rw [World.cell?_of_block (w := w2) (a := ⟨w1.heap.size, 0, none⟩) (hk3.block w1.heap.size (by omega) (by omega) (fun h => h))]; exact cv
      have Hb3 := hide (hb2.trans (Below.of_keeps (B := w.heap.size) hk3 (by omega) (by have := hb2.size; omega)))
      have hH3' := hide hH3
      clear hk3 hH3
      go_wp2_with fail
      have hcm := compact_any g vc ((allVars t).mergeSort fun x y => decide (x ≤ y)) w3 hH3'.out (by rw [Hlen.out]; exact hcap) (by rw [Hlen.out]; omega)
      rw [Hlen.out] at hcm
      refine hcm.mono ?_
      rintro e w4 ⟨rfl, hk4, hI⟩
      clear hcm
      have hsp4 : varsSpec ar t = Lib.compact ((allVars t).mergeSort fun x y => decide (x ≤ y)) := Hsp.out
      have Hsp4 := hide hsp4
      have Hb4 := hide (Hb3.out.trans (Below.of_keeps (B := w.heap.size) hk4 (by omega) (by have := Hb3.out.size; omega)))
      have HI := hide hI
      clear hsp4 hk4 hI
      go_wp2_with fail
      go_ret2
      exact ⟨by rw [Hsp4.out, Hs.out]; exact ⟨_, vc, rfl, HI.out, Or.inr ⟨_, rfl⟩⟩, Hb4.out⟩
  · have hs1 : (allErr ar [t] != 0) = true := by simpa using hs
    have hsp : varsSpec ar t = [] := by rw [varsSpec, if_neg hs]
    have Hsp := hide hsp
    clear hs hsp hszok
    go_wp2_with fail
    go_ret2
    exact ⟨by rw [Hsp.out]; exact ⟨none, 0, rfl, Or.inl rfl, Or.inl ⟨rfl, rfl⟩⟩, hbw⟩
theorem Vars_any (ar : List Int) (ga : Option Addr) (gcap : Nat) (t : T) (a : Option Addr) (cap : Nat) (w : World) (hg : Ints w ar ga) (hin : InL w t.args a) (hszok : allErr ar [t] = 0 → t.sz ≤ 120) :
    Calls Try.prog 13 #[.agg #[.slice ga ar.length gcap], .agg #[.int .i64 t.v, .int .i64 t.f, .slice a t.args.length cap]] w fun e w' =>
      GivesInts (varsSpec ar t) (allErr ar [t]) e w' ∧ Below w.heap.size w w' :=
  (Vars_nums ar ga gcap t a cap w hg hin hszok).mono fun _ _ ⟨⟨a1, c1, h1, h2, _⟩, hb⟩ => ⟨⟨a1, c1, h1, h2⟩, hb⟩

end Go.Proofs.Ytbkedppkdhfpoaa

namespace Go.Proofs.Ytbkedppkdhfpoaa
open Go.RowKit

set_option maxRecDepth 100000 in
set_option maxHeartbeats 400000 in
theorem small_any (w : World) : Calls Try.prog 60 #[] w fun e w' => ∃ n, e = .returned (.agg #[.slice (some ⟨n, 0, none⟩) 2 2]) ∧ Ints w' [0, 1] (some ⟨n, 0, none⟩) ∧ Below w.heap.size w w' := by
  go_enter Try.func60, Try.ntmps60
  go_wp2_with fail
  exact bodyPost_ret (v := .agg #[.slice (some ⟨w.heap.size + 1, 0, none⟩) 2 2]) (by simp [results, Try.results60, go_sem]) rfl ⟨w.heap.size + 1, rfl, Or.inr ⟨_, _, rfl, fun i hi => by
    have : i = 0 ∨ i = 1 := by simp at hi; omega
    rcases this with rfl | rfl
    · exact cell_new 0 (by simp)
    · exact cell_new 1 (by simp)⟩, below2 _ _ _⟩

set_option maxRecDepth 100000 in
set_option maxHeartbeats 400000 in
theorem fn_any (n : Int) (a : Option Addr) (len cap : Nat) (w : World) : Calls Try.prog 61 #[.int .i64 n, .slice a len cap] w fun e w' => e = .returned (.agg #[.int .i64 0, .int .i64 n, .slice a len cap]) ∧ Below w.heap.size w w' := by
  go_enter Try.func61, Try.ntmps61
  go_wp2_with fail
  exact bodyPost_ret (v := .agg #[.int .i64 0, .int .i64 n, .slice a len cap]) (by simp [results, Try.results61, go_sem]) rfl ⟨rfl, below1 _ _⟩

set_option maxRecDepth 100000 in
set_option maxHeartbeats 400000 in
theorem va_any (n : Int) (w : World) : Calls Try.prog 62 #[.int .i64 n] w fun e w' => e = .returned (.agg #[.int .i64 n, .int .i64 0, .slice none 0 0]) ∧ Below w.heap.size w w' := by
  go_enter Try.func62, Try.ntmps62
  go_wp2_with fail
  exact bodyPost_ret (v := .agg #[.int .i64 n, .int .i64 0, .slice none 0 0]) (by simp [results, Try.results62, go_sem]) rfl ⟨rfl, below1 _ _⟩

def tX2 : T := ⟨2, 0, []⟩
def tA : T := ⟨0, 1, [tX2]⟩
def tC : T := ⟨0, 1, [zeroT]⟩

theorem put_begun : putSpec [0, 1] tA [0] zeroT = (tC, 0) := by rfl
theorem ok_A : allErr [0, 1] [tA] = 0 := by rfl
theorem ok_C : allErr [0, 1] [tC] = 0 := by rfl
theorem ok_sig : sigErr [0, 1] = 0 := by rfl
theorem vars_begun : varsSpec [0, 1] tA = [2] := by
  rw [varsSpec, if_pos ok_A, varsT, show allVars tA = [2] from rfl, List.mergeSort_singleton]
  rfl
theorem size_C : tC.sz = 2 := by rfl
theorem same_C : sameT tC tC = true := sameT_refl _

theorem Put_begun (n1 n2 n3 : Nat) (w : World) (hg : Ints w [0, 1] (some ⟨n1, 0, none⟩)) (ht : InL w [tX2] (some ⟨n2, 0, none⟩)) (hp : Ints w [0] (some ⟨n3, 0, none⟩)) :
    Calls Try.prog 24 #[.agg #[.slice (some ⟨n1, 0, none⟩) 2 2], .agg #[.int .i64 0, .int .i64 1, .slice (some ⟨n2, 0, none⟩) 1 1], .slice (some ⟨n3, 0, none⟩) 1 1, .agg #[.int .i64 0, .int .i64 0, .slice none 0 0]] w fun e w' =>
      (∃ a1 cap1, e = .returned (.tuple #[.agg #[.int .i64 0, .int .i64 1, .slice a1 1 cap1], .int .i64 0]) ∧ InL w' [zeroT] a1) ∧ Below w.heap.size w w' := by
  have h := Put_any [0, 1] (some ⟨n1, 0, none⟩) 2 tA (some ⟨n2, 0, none⟩) 1 [0] (some ⟨n3, 0, none⟩) 1 zeroT none 0 w hg ht hp InP_nil (by decide)
  rw [put_begun] at h
  exact h
theorem Size_begun (n1 : Nat) (a : Option Addr) (cap : Nat) (w : World) (hg : Ints w [0, 1] (some ⟨n1, 0, none⟩)) (ht : InL w [zeroT] a) :
    Calls Try.prog 12 #[.agg #[.slice (some ⟨n1, 0, none⟩) 2 2], .agg #[.int .i64 0, .int .i64 1, .slice a 1 cap]] w fun e w' => e = .returned (.tuple #[.int .i64 2, .int .i64 0]) ∧ Below w.heap.size w w' := by
  have h := Size_any [0, 1] (some ⟨n1, 0, none⟩) 2 tC a cap w hg ht
  rw [ok_C, if_pos rfl, size_C] at h
  exact h
theorem Vars_begun (n1 n2 : Nat) (w : World) (hg : Ints w [0, 1] (some ⟨n1, 0, none⟩)) (ht : InL w [tX2] (some ⟨n2, 0, none⟩)) :
    Calls Try.prog 13 #[.agg #[.slice (some ⟨n1, 0, none⟩) 2 2], .agg #[.int .i64 0, .int .i64 1, .slice (some ⟨n2, 0, none⟩) 1 1]] w fun e w' =>
      (∃ b off cap1, e = .returned (.tuple #[.slice (some ⟨b, off, none⟩) 1 cap1, .int .i64 0]) ∧ w'.cell? ⟨b, off, none⟩ = some (.int .i64 2)) ∧ Below w.heap.size w w' := by
  have h := Vars_any [0, 1] (some ⟨n1, 0, none⟩) 2 tA (some ⟨n2, 0, none⟩) 1 w hg ht (fun _ => by decide)
  rw [vars_begun, ok_A] at h
  refine h.mono ?_
  rintro e w' ⟨⟨a1, cap1, he, hi⟩, hb⟩
  obtain ⟨b, off, rfl, hc⟩ := Ints_some hi (by simp)
  exact ⟨⟨b, off, cap1, he, hc 0 (by simp)⟩, hb⟩
theorem Check_begun (n1 : Nat) (a : Option Addr) (cap : Nat) (w : World) (hg : Ints w [0, 1] (some ⟨n1, 0, none⟩)) (ht : InL w [zeroT] a) :
    Calls Try.prog 21 #[.agg #[.slice (some ⟨n1, 0, none⟩) 2 2], .agg #[.int .i64 0, .int .i64 1, .slice a 1 cap]] w fun e w' => e = .returned (.int .i64 0) ∧ Below w.heap.size w w' := by
  have h := Check_any [0, 1] (some ⟨n1, 0, none⟩) 2 tC a cap w hg ht
  rw [ok_C] at h
  exact h
theorem Signature_begun (n1 : Nat) (w : World) (hg : Ints w [0, 1] (some ⟨n1, 0, none⟩)) :
    Calls Try.prog 19 #[.agg #[.slice (some ⟨n1, 0, none⟩) 2 2]] w fun e w' => e = .returned (.int .i64 0) ∧ Below w.heap.size w w' := by
  have h := signature_any [0, 1] (some ⟨n1, 0, none⟩) 2 w hg
  rw [ok_sig] at h
  exact h
theorem Same_begun (a a2 : Option Addr) (cap cap2 : Nat) (w : World) (ht : InL w [zeroT] a) (ht2 : InL w [zeroT] a2) :
    Calls Try.prog 28 #[.agg #[.int .i64 0, .int .i64 1, .slice a 1 cap], .agg #[.int .i64 0, .int .i64 1, .slice a2 1 cap2]] w fun e w' => e = .returned (.bool true) ∧ Below w.heap.size w w' := by
  have h := sameTerm_any 10 tC tC a cap a2 cap2 w (by decide) (by decide) ht ht2
  rw [same_C] at h
  exact h
theorem Ints_new1 {w : World} {z : Int} {e : TypeId} {n : Nat} (hn : n = w.heap.size) : Ints (w.alloc (.cells #[.int .i64 z] e)) [z] (some ⟨n, 0, none⟩) :=
  Or.inr ⟨_, _, rfl, fun i hi => by
    have : i = 0 := by simp at hi; omega
    subst this
    exact cell_new 0 hn⟩
theorem InP_newT {p : Nat → Prop} {w : World} {v f : Int} {t : T} {n : Nat} (e : TypeId) (hn : n = w.heap.size) (hp : p w.heap.size) (ht : t = ⟨v, f, []⟩) :
    InP p (w.alloc (.cells #[.int .i64 v, .int .i64 f, .slice none 0 0] e)) [t] (some ⟨n, 0, none⟩) := by
  subst ht
  exact InP_new1 (t := ⟨v, f, []⟩) (a := none) (cap := 0) e hn hp InP_nil

attribute [local go_sem ↓] Go.wp_at_zero Go.wp_at_succ
set_option maxRecDepth 100000 in
set_option maxHeartbeats 2000000 in
theorem begun_any (w : World) : Calls Try.prog 18 #[] w fun e w' => e = .returned (.bool true) ∧ Below w.heap.size w w' := by
  go_enter Try.func18, Try.ntmps18
  go_wp2_with fail
  refine (small_any _).mono ?_
  rintro e w1 ⟨n1, rfl, hg1, hb1⟩
  go_wp2_with fail
  refine (va_any 2 _).mono ?_
  rintro e w2 ⟨rfl, hb2⟩
  go_wp2_with fail
  refine (fn_any 1 _ 1 1 _).mono ?_
  rintro e w3 ⟨rfl, hb3⟩
  go_wp2_with fail
  refine (fn_any 0 _ 0 0 _).mono ?_
  rintro e w4 ⟨rfl, hb4⟩
  have hz2 := hb2.size
  have hz3 := hb3.size
  have hz4 := hb4.size
  simp at hz3 hz4
  have hb34 : Below w3.heap.size w3 w4 := (below1 _ _).trans (hb4.mono (by simp))
  have hb24 : Below w2.heap.size w2 w4 := (below1 _ _).trans ((hb3.mono (by simp)).trans (hb34.mono (by omega)))
  have hb04 : Below w.heap.size w w4 := hb1.trans ((hb2.mono hb1.size).trans (hb24.mono (by have := hb1.size; omega)))
  have HG4 := hide (Ints_below hb24 (Ints_below hb2 hg1))
  have HT4 := hide (InP_below (hb34.mono (by omega)) (InP_below hb3 (InP_newT (p := fun _ => True) (w := w2) (t := tX2) 27 rfl trivial rfl)))
  have HP4 := hide (Ints_below hb4 (Ints_new1 (w := w3) (z := 0) (e := 3) rfl))
  go_wp2_with fail
  refine (Put_begun n1 _ _ _ HG4.out HT4.out HP4.out).mono ?_
  rintro e w5 ⟨⟨a1, cap1, rfl, hin5⟩, hb5⟩
  have hb05 : Below w.heap.size w w5 := hb04.trans (hb5.mono hb04.size)
  clear HG4 HT4 HP4 hb34 hb24 hb4 hb3 hb2 hb1 hg1 hb5
  have hS := hide (fun (w' : World) (hb : Below (w5.heap.size + 1) (w5.alloc (.cells #[.int .i64 0, .int .i64 1, .slice a1 1 cap1] 27)) w') => (show w'.cell? ⟨w5.heap.size, 0, none⟩ = some (.int .i64 0) ∧ w'.cell? ⟨w5.heap.size, 1, none⟩ = some (.int .i64 1) ∧ w'.cell? ⟨w5.heap.size, 2, none⟩ = some (.slice a1 1 cap1) from
    ⟨((Three.new 27 rfl).same (hb.block _ (by omega))).c0, ((Three.new 27 rfl).same (hb.block _ (by omega))).c1, ((Three.new 27 rfl).same (hb.block _ (by omega))).c2⟩))
  have hI := hide (fun (w' : World) (hb : Below (w5.heap.size + 1) (w5.alloc (.cells #[.int .i64 0, .int .i64 1, .slice a1 1 cap1] 27)) w') => InP_below ((below1 w5 _).trans (hb.mono (by omega))) hin5)
  have hB := hide (fun (w' : World) (hb : Below (w5.heap.size + 1) (w5.alloc (.cells #[.int .i64 0, .int .i64 1, .slice a1 1 cap1] 27)) w') => (hb05.alloc hb05.size _).trans (hb.mono (by have := hb05.size; omega)))
  clear hin5 hb05
  go_wp2_with fail
  go_region_held3 (fun w' => w'.cell? ⟨w5.heap.size, 0, none⟩ = some (.int .i64 0) ∧ w'.cell? ⟨w5.heap.size, 1, none⟩ = some (.int .i64 1) ∧ w'.cell? ⟨w5.heap.size, 2, none⟩ = some (.slice a1 1 cap1)) ((first | go_keep | exact hS.out _ (Hid.out ‹Hid (Below _ _ _)›))) ((first
    | (go_at_call 60
       refine (small_any _).mono ?_
       rintro e w6 ⟨n6, rfl, hg6, hb6⟩
       have H6 : Hid (Below (w5.heap.size + 1) (w5.alloc (.cells #[.int .i64 0, .int .i64 1, .slice a1 1 cap1] 27)) w6) := by
         have := below_undrew hb6
         simpa [Hid] using this)
    | (go_at_call 12
       refine (Size_begun n6 a1 cap1 _ hg6 (hI.out _ H6.out)).mono ?_
       rintro e w7 ⟨rfl, hb7⟩
       have H7 : Hid (Below (w5.heap.size + 1) (w5.alloc (.cells #[.int .i64 0, .int .i64 1, .slice a1 1 cap1] 27)) w7) := H6.out.trans (hb7.mono (by have := H6.out.size; simpa using this)))))
  clear H6 hg6 hb6 hb7
  go_wp2_with fail
  refine (small_any _).mono ?_
  rintro e w8 ⟨n8, rfl, hg8, hb8⟩
  go_wp2_with fail
  refine (va_any 2 _).mono ?_
  rintro e w9 ⟨rfl, hb9⟩
  go_wp2_with fail
  refine (fn_any 1 _ 1 1 _).mono ?_
  rintro e wa ⟨rfl, hba⟩
  have hz8 := hb8.size
  have hz9 := hb9.size
  have hza := hba.size
  simp at hza
  have hz7 : w5.heap.size + 1 ≤ w7.heap.size := by have := H7.out.size; simpa using this
  have hb9a : Below w9.heap.size w9 wa := (below1 _ _).trans (hba.mono (by simp))
  have HGa := hide (Ints_below hb9a (Ints_below hb9 hg8))
  have HTa := hide (InP_below hba (InP_newT (p := fun _ => True) (w := w9) (t := tX2) 27 rfl trivial rfl))
  have Ha : Hid (Below (w5.heap.size + 1) (w5.alloc (.cells #[.int .i64 0, .int .i64 1, .slice a1 1 cap1] 27)) wa) := H7.out.trans ((hb8.mono hz7).trans ((hb9.mono (by omega)).trans (hb9a.mono (by omega))))
  clear hb8 hb9 hba hb9a hg8
  go_wp2_with fail
  refine (Vars_begun n8 _ _ HGa.out HTa.out).mono ?_
  rintro e wb ⟨⟨lb, lo, lcap, rfl, hcl⟩, hbb⟩
  have Hb : Hid (Below (w5.heap.size + 1) (w5.alloc (.cells #[.int .i64 0, .int .i64 1, .slice a1 1 cap1] 27)) wb) := Ha.out.trans (hbb.mono (by omega))
  have hzb := hbb.size
  clear HGa HTa Ha hbb H7
  have hzw : w5.heap.size < wb.heap.size := by omega
  have hS4 := hide (fun (w' : World) (hb : Below wb.heap.size wb w') => (show w'.cell? ⟨w5.heap.size, 0, none⟩ = some (.int .i64 0) ∧ w'.cell? ⟨w5.heap.size, 1, none⟩ = some (.int .i64 1) ∧ w'.cell? ⟨w5.heap.size, 2, none⟩ = some (.slice a1 1 cap1) ∧ w'.cell? ⟨lb, lo, none⟩ = some (.int .i64 2) from
    ⟨by rw [hb.cell (p := ⟨w5.heap.size, 0, none⟩) hzw]; exact (hS.out wb Hb.out).1, by rw [hb.cell (p := ⟨w5.heap.size, 1, none⟩) hzw]; exact (hS.out wb Hb.out).2.1,
     by rw [hb.cell (p := ⟨w5.heap.size, 2, none⟩) hzw]; exact (hS.out wb Hb.out).2.2, by rw [hb.cell (p := ⟨lb, lo, none⟩) (lt_of_cell hcl)]; exact hcl⟩))
  have hI4 := hide (fun (w' : World) (hb : Below wb.heap.size wb w') => InP_below hb (hI.out wb Hb.out))
  have HBb := hide (hB.out wb Hb.out)
  obtain ⟨s0, s1, s2⟩ := hS.out wb Hb.out
  clear hS hI hB Hb
  go_wp2_with fail
  go_region_held3 (fun w' => w'.cell? ⟨w5.heap.size, 0, none⟩ = some (.int .i64 0) ∧ w'.cell? ⟨w5.heap.size, 1, none⟩ = some (.int .i64 1) ∧ w'.cell? ⟨w5.heap.size, 2, none⟩ = some (.slice a1 1 cap1) ∧ w'.cell? ⟨lb, lo, none⟩ = some (.int .i64 2)) ((first | (refine hS4.out _ ?_; repeat' (first | with_reducible exact Hid.out ‹Hid (Below _ _ _)› | with_reducible exact Below.refl _ _ | (with_reducible refine Below.drew ?_) | (refine Below.alloc ?_ ?_ _; rotate_left; focus (first | omega | (simp; omega) | (simp; done))))) | go_keep)) ((first
    | (go_at_call_of 61 (Value.slice none 0 0)
       refine (fn_any 0 _ 0 0 _).mono ?_
       rintro e wc ⟨rfl, hbc⟩
       have Hc : Hid (Below wb.heap.size wb wc) := below_undrew hbc
       have hzc := Hc.out.size
       clear hbc)
    | (go_at_call 61
       refine (fn_any 1 _ 1 1 _).mono ?_
       rintro e wd ⟨rfl, hbd⟩
       have HTd := hide (InP_below hbd (InP_newT (p := fun _ => True) (w := wc) (t := zeroT) 27 rfl trivial rfl))
       have hzd := hbd.size
       simp at hzd
       have Hd : Hid (Below wb.heap.size wb wd) := Hc.out.trans (((below1 wc _).trans (hbd.mono (by simp))).mono (by omega))
       clear hbd Hc)
    | (go_at_call 28
       refine (Same_begun _ _ _ _ _ (hI4.out _ Hd.out) HTd.out).mono ?_
       rintro e we ⟨rfl, hbe⟩
       have hze := hbe.size
       have He : Hid (Below wb.heap.size wb we) := Hd.out.trans (hbe.mono (by omega))
       clear hbe Hd HTd)
    | (go_at_call 21
       refine (Check_begun nf a1 cap1 _ hgf (hI4.out _ Hf.out)).mono ?_
       rintro e wg ⟨rfl, hbg⟩
       have hzg := hbg.size
       have Hg : Hid (Below wb.heap.size wb wg) := Hf.out.trans (hbg.mono (by omega))
       clear hbg Hf hgf)
    | (go_at_call 19
       refine (Signature_begun nh _ hgh).mono ?_
       rintro e wi ⟨rfl, hbi⟩
       have hzi := hbi.size
       have Hi : Hid (Below wb.heap.size wb wi) := Hh.out.trans (hbi.mono (by omega))
       clear hbi Hh hgh)
    | (go_at_call 60
       refine (small_any we).mono ?_
       rintro e wf ⟨nf, rfl, hgf, hbf⟩
       have hzf := hbf.size
       have Hf : Hid (Below wb.heap.size wb wf) := He.out.trans (hbf.mono (by omega))
       clear hbf He)
    | (go_at_call 60
       refine (small_any wg).mono ?_
       rintro e wh ⟨nh, rfl, hgh, hbh⟩
       have hzh := hbh.size
       have Hh : Hid (Below wb.heap.size wb wh) := Hg.out.trans (hbh.mono (by omega))
       clear hbh Hg)))
  go_wp2_with fail
  go_ret
  exact ⟨rfl, HBb.out.trans (Hi.out.mono (by have := HBb.out.size; omega))⟩

end Go.Proofs.Ytbkedppkdhfpoaa
