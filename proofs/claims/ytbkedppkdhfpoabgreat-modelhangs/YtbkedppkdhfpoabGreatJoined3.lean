/- The program's At and Put, against what the document says of them. The program's collecting of the variables of a term. The contracts of the library that the program calls, laid at this program in plain words. The program's Vars: the variables, sorted, each once. What the statements ask in any case. The walk of the statement on what is put and put back. The order of terms, by the program's words. No word of the program's memory here. -/
import Derived.Deep.AppendLies
import Derived.Deep.DeepCutAuto
import Derived.Deep.DrawnRows
import Derived.Deep.RegionHeld3
import Derived.Shelf.Slices.CompactI
import Derived.Shelf.Slices.In.SortNone
import Derived.Shelf.Sort.Plain
import Derived.Test.YtbkedppkdhfpoabGreatProg
import Derived.Test.YtbkedppkdhfpoabGreatJoined2
namespace Go.Proofs.YtbkedppkdhfpoabGreat
open Go.RowKit

def zeroT : T := ⟨0, 0, []⟩
/-- What At answers. -/
def atSpec (ar : List Int) (t : T) (place : List Int) : T × Int :=
  if allErr ar [t] = 0 then (match atT t place with | some u => (u, 0) | none => (zeroT, 5)) else (zeroT, allErr ar [t])
/-- What Put answers. -/
def putSpec (ar : List Int) (t : T) (place : List Int) (u : T) : T × Int :=
  if allErr ar [t, u] = 0 then
    (match atT t place with | some c => if 120 < (t.sz : Int) - c.sz + u.sz then (zeroT, 2) else (putT u t place, 0) | none => (zeroT, 5))
  else (zeroT, allErr ar [t, u])

/-- A term and an error handed back. -/
def Gives (x : T × Int) (e : Ending) (w' : World) : Prop :=
  ∃ a1 cap1, e = .returned (.tuple #[.agg #[.int .i64 x.1.v, .int .i64 x.1.f, .slice a1 x.1.args.length cap1], .int .i64 x.2]) ∧ InL w' x.1.args a1

theorem gives_zero (n : Int) (w' : World) : Gives (zeroT, n) (.returned (.tuple #[.agg #[.int .i64 0, .int .i64 0, .slice none 0 0], .int .i64 n])) w' := ⟨none, 0, rfl, InP_nil⟩

theorem sz_of_ok {ar : List Int} {ts : List T} {t : T} (h : allErr ar ts = 0) (hm : t ∈ ts) : t.sz ≤ 120 := by
  rw [allErr] at h
  by_cases hs : sigErr ar = 0
  · rw [if_pos hs] at h
    clear hs
    induction ts with
    | nil => cases hm
    | cons a ts ih =>
      rw [termsErr] at h
      by_cases h1 : termErr ar a = 0
      · rw [if_pos h1] at h
        rcases List.mem_cons.1 hm with rfl | hm
        · rw [termErr] at h1
          by_cases h2 : 120 < t.sz
          · rw [if_pos h2] at h1; cases h1
          · omega
        · exact ih h hm
      · rw [if_neg h1] at h; exact absurd h h1
  · rw [if_neg hs] at h; exact absurd h hs

theorem atT_sz : ∀ {p : List Int} {t u : T}, atT t p = some u → u.sz ≤ t.sz := by
  intro p
  induction p with
  | nil =>
    intro t u h
    simp only [atT, Option.some.injEq] at h
    subst h; exact Nat.le_refl _
  | cons i p ih =>
    intro t u h
    rw [atT] at h
    by_cases hi : 0 ≤ i ∧ i < t.args.length
    · rw [if_pos hi] at h
      obtain ⟨d, hd, hc⟩ := Option.bind_eq_some_iff.1 h
      have h1 := ih hc
      have h2 := T.szL_mem (List.mem_of_getElem? hd)
      have h3 := T.sz_eq t
      omega
    · rw [if_neg hi] at h; cases h

set_option maxRecDepth 100000 in
set_option maxHeartbeats 400000 in
theorem At_any (ar : List Int) (ga : Option Addr) (gcap : Nat) (t : T) (a : Option Addr) (cap : Nat) (place : List Int) (pa : Option Addr) (pcap : Nat) (w : World) (hg : Ints w ar ga) (hin : InL w t.args a) (hp : Ints w place pa) (hl : place.length ≤ 9223372036854775807) :
    Calls Tryz.prog 175 #[.agg #[.slice ga ar.length gcap], .agg #[.int .i64 t.v, .int .i64 t.f, .slice a t.args.length cap], .slice pa place.length pcap] w fun e w' => Gives (atSpec ar t place) e w' ∧ Below w.heap.size w w' := by
  have Hg := hide (fun o1 o2 o3 o4 => Ints_alloc o4 (Ints_alloc o3 (Ints_alloc o2 (Ints_alloc o1 hg))))
  have Hin := hide (fun o1 o2 o3 e => InP_new1 (n := w.heap.size + 1 + 1 + 1) (cap := cap) e (by simp) trivial (InP_alloc o3 (InP_alloc o2 (InP_alloc o1 hin))))
  go_enter Tryz.func175, Tryz.ntmps175
  go_wp2_with fail
  refine (check_any ar ga gcap [t] _ 1 _ (Hg.out _ _ _ _) (Hin.out _ _ _ _) (by simp)).mono ?_
  rintro e w1 ⟨rfl, hb1⟩
  have hbw : Below w.heap.size w w1 := ((((below1 _ _).alloc (by simp) _).alloc (by simp; omega) _).alloc (by simp; omega) _).trans (hb1.mono (by simp; omega))
  have hz1 : w.heap.size + 4 ≤ w1.heap.size := by have := hb1.size; simp at this; omega
  have h3t : Three w1 (w.heap.size + 1) (.int .i64 t.v) (.int .i64 t.f) (.slice a t.args.length cap) := (((Three.new _ (by simp)).alloc _).alloc _).below hb1
  have h3r : Three w1 (w.heap.size + 1 + 1) (.int .i64 0) (.int .i64 0) (.slice none 0 0) := ((Three.new _ (by simp)).alloc _).below hb1
  clear hb1 Hg Hin
  by_cases hs : allErr ar [t] = 0
  · have hsz := sz_of_ok hs (t := t) (by simp)
    rw [hs]
    obtain ⟨c0, c1, c2, _, _, _⟩ := h3t
    have hspec : atSpec ar t place = (match atT t place with | some u => (u, 0) | none => (zeroT, 5)) := by rw [atSpec, if_pos hs]
    have Hspec := hide hspec
    clear hspec
    go_wp2_with fail
    refine (find_any t a cap place pa pcap _ (Ints_below hbw hp) (InP_below hbw hin) hl).mono ?_
    rintro e w2 ⟨hfound, hb2⟩
    have h3r2 := h3r.below hb2
    have hz2 := hb2.size
    have hbw2 := hbw.trans (hb2.mono (by omega))
    rcases hfound with ⟨u, a1, cap1, hat, rfl, hin1⟩ | ⟨hat, rfl⟩
    · have husz := atT_sz hat
      have hsp2 : atSpec ar t place = (u, 0) := by rw [Hspec.out, hat]
      have Hsp2 := hide hsp2
      clear hsp2 Hspec hat h3r
      obtain ⟨d0, d1, d2, f0, f1, f2⟩ := h3r2
      have hz3 : w.heap.size + 1 + 1 < w2.heap.size := by omega
      go_wp2_with fail
      refine (copyOf_any (u.sz + 1) u a1 cap1 _ (by omega) (by omega) (InP_alloc _ (InP_below hb2 hin1))).mono ?_
      rintro e w3 ⟨s, B, rfl, hown, hnd, hrg, hb3⟩
      obtain ⟨as1, caps, rfl, hins⟩ := Own_in hown
      have h3r3 : Three w3 (w.heap.size + 1 + 1) (.int .i64 0) (.int .i64 0) (.slice none 0 0) := (Three.alloc ⟨d0, d1, d2, f0, f1, f2⟩ _).below hb3
      have hinp := Own_inP hown
      obtain ⟨as2, caps2, he, hinq⟩ := In_iff.1 hinp
      simp only [Value.slice.injEq] at he
      obtain ⟨rfl, _, rfl⟩ := he
      have Hq := hide (InP_imp (q := fun k => w.heap.size + 3 ≤ k) (fun k hk => by have := (hrg k hk).1; simp at this; omega) hinq)
      have Hbf := hide ((hbw2.alloc (by omega) _).trans (hb3.mono (by simp; omega)))
      obtain ⟨r0, r1, r2, g0, g1, g2⟩ := h3r3
      clear hown hnd hrg hb3 hins hinp hinq
      go_wp2_with fail
      exact bodyPost_ret (v := .tuple #[.agg #[.int .i64 u.v, .int .i64 u.f, .slice as1 u.args.length caps], .int .i64 0]) (by simp [results, Tryz.results175, go_sem, r0, r1, r2]) rfl
        ⟨by rw [Hsp2.out]; exact ⟨as1, caps, rfl, InP_imp (fun _ _ => trivial) (InP_same (fun k hk _ => set3_block (by omega)) Hq.out)⟩, below_set3 Hbf.out (by omega) _ _ _⟩
    · have hsp2 : atSpec ar t place = (zeroT, 5) := by rw [Hspec.out, hat]
      have Hsp2 := hide hsp2
      clear hsp2 Hspec hat h3r
      obtain ⟨d0, d1, d2, f0, f1, f2⟩ := h3r2
      have hz3 : w.heap.size + 1 + 1 < w2.heap.size := by omega
      go_wp2_with fail
      exact bodyPost_ret (v := .tuple #[.agg #[.int .i64 0, .int .i64 0, .slice none 0 0], .int .i64 5]) (by simp [results, Tryz.results175, go_sem, d0, d1, d2, hz3]) rfl
        ⟨by rw [Hsp2.out]; exact gives_zero 5 _, (below_set3 hbw2 (by omega) _ _ _).alloc (by rw [set3_size]; omega) _⟩
  · have hs1 : (allErr ar [t] != 0) = true := by simpa using hs
    have hspec : atSpec ar t place = (zeroT, allErr ar [t]) := by rw [atSpec, if_neg hs]
    have Hspec := hide hspec
    clear hspec hs
    obtain ⟨d0, d1, d2, f0, f1, f2⟩ := h3r
    generalize allErr ar [t] = err at *
    go_wp2_with fail
    exact bodyPost_ret (v := .tuple #[.agg #[.int .i64 0, .int .i64 0, .slice none 0 0], .int .i64 err]) (by simp [results, Tryz.results175, go_sem, d0, d1, d2]) rfl
      ⟨by rw [Hspec.out]; exact gives_zero err _, below_set3 hbw (by omega) _ _ _⟩

theorem InP_new2 {p : Nat → Prop} {w : World} {t u : T} {a a2 : Option Addr} {cap cap2 n : Nat} (e : TypeId) (hn : n = w.heap.size) (hp : p w.heap.size) (h : InP p w t.args a) (h2 : InP p w u.args a2) :
    InP p (w.alloc (.cells #[.int .i64 t.v, .int .i64 t.f, .slice a t.args.length cap, .int .i64 u.v, .int .i64 u.f, .slice a2 u.args.length cap2] e)) [t, u] (some ⟨n, 0, none⟩) := by
  subst hn
  exact InP_cons.2 ⟨_, 0, _, rfl, hp, World.cell?_alloc_mark _ _ _ _ _, World.cell?_alloc_mark _ _ _ _ _, World.cell?_alloc_mark _ _ _ _ _, In_iff.2 ⟨a, cap, rfl, InP_alloc _ h⟩,
    InP_cons.2 ⟨_, 3, _, rfl, hp, World.cell?_alloc_mark _ _ _ _ _, World.cell?_alloc_mark _ _ _ _ _, World.cell?_alloc_mark _ _ _ _ _, In_iff.2 ⟨a2, cap2, rfl, InP_alloc _ h2⟩, InP_nil⟩⟩

theorem InP_drew {p : Nat → Prop} {w : World} {ts : List T} {a : Option Addr} (h : InP p w ts a) : InP p w.drew ts a := InP_heap (w := w) rfl h

theorem wrap_ok (x : Int) (h0 : -1000000 ≤ x) (h1 : x ≤ 1000000) : IntKind.i64.wrap x = x := by rw [IntKind.wrap_i64]; omega

/-- The count of one term that lies in a block. -/
theorem size_one (t : T) (n : Nat) (w : World) (ht : t.sz ≤ 120) (h : InL w [t] (some ⟨n, 0, none⟩)) :
    Calls Tryz.prog 229 #[.int .i64 120, .slice (some ⟨n, 0, none⟩) 1 1] w fun e w' => e = .returned (.int .i64 (t.sz : Int)) ∧ Below w.heap.size w w' := by
  have hs1 : T.sz.szL [t] = t.sz := by rw [T.szL_cons, T.szL_nil]; omega
  have := size_any (t.sz + 1) [t] (120 : Int) (some ⟨n, 0, none⟩) 1 w (by rw [hs1]; omega) (by omega) (by omega) h
  rw [hs1, show min (t.sz : Int) (120 + 1) = t.sz from by omega] at this
  exact this

attribute [local go_sem ↓] Go.wp_at_zero Go.wp_at_succ
set_option maxRecDepth 100000 in
set_option maxHeartbeats 2000000 in
theorem Put_any (ar : List Int) (ga : Option Addr) (gcap : Nat) (t : T) (a : Option Addr) (cap : Nat) (place : List Int) (pa : Option Addr) (pcap : Nat) (u : T) (a2 : Option Addr) (cap2 : Nat) (w : World) (hg : Ints w ar ga) (hin : InL w t.args a) (hp : Ints w place pa)
    (hin2 : InL w u.args a2) (hl : place.length ≤ 9223372036854775807) :
    Calls Tryz.prog 181 #[.agg #[.slice ga ar.length gcap], .agg #[.int .i64 t.v, .int .i64 t.f, .slice a t.args.length cap], .slice pa place.length pcap, .agg #[.int .i64 u.v, .int .i64 u.f, .slice a2 u.args.length cap2]] w fun e w' =>
      Gives (putSpec ar t place u) e w' ∧ Below w.heap.size w w' := by
  have Hg := hide (fun o1 o2 o3 o4 o5 => Ints_alloc o5 (Ints_alloc o4 (Ints_alloc o3 (Ints_alloc o2 (Ints_alloc o1 hg)))))
  have Hin := hide (fun o1 o2 o3 o4 e => InP_new2 (n := w.heap.size + 1 + 1 + 1 + 1) (cap := cap) (cap2 := cap2) e (by simp) trivial (InP_alloc o4 (InP_alloc o3 (InP_alloc o2 (InP_alloc o1 hin)))) (InP_alloc o4 (InP_alloc o3 (InP_alloc o2 (InP_alloc o1 hin2)))))
  go_enter Tryz.func181, Tryz.ntmps181
  go_wp2_with fail
  refine (check_any ar ga gcap [t, u] _ 2 _ (Hg.out _ _ _ _ _) (Hin.out _ _ _ _ _) (by simp)).mono ?_
  rintro e w1 ⟨rfl, hb1⟩
  have hbw : Below w.heap.size w w1 := (((((below1 _ _).alloc (by simp) _).alloc (by simp; omega) _).alloc (by simp; omega) _).alloc (by simp; omega) _).trans (hb1.mono (by simp; omega))
  have hz1 : w.heap.size + 5 ≤ w1.heap.size := by have := hb1.size; simp at this; omega
  have h3t : Three w1 (w.heap.size + 1) (.int .i64 t.v) (.int .i64 t.f) (.slice a t.args.length cap) := ((((Three.new _ (by simp)).alloc _).alloc _).alloc _).below hb1
  have h3u : Three w1 (w.heap.size + 1 + 1) (.int .i64 u.v) (.int .i64 u.f) (.slice a2 u.args.length cap2) := (((Three.new _ (by simp)).alloc _).alloc _).below hb1
  have h3r : Three w1 (w.heap.size + 1 + 1 + 1) (.int .i64 0) (.int .i64 0) (.slice none 0 0) := ((Three.new _ (by simp)).alloc _).below hb1
  clear hb1 Hg Hin
  by_cases hs : allErr ar [t, u] = 0
  · have hszt := sz_of_ok hs (t := t) (by simp)
    have hszu := sz_of_ok hs (t := u) (by simp)
    rw [hs]
    obtain ⟨c0, c1, c2, _, _, _⟩ := h3t
    have hspec : putSpec ar t place u = (match atT t place with | some c => if 120 < (t.sz : Int) - c.sz + u.sz then (zeroT, 2) else (putT u t place, 0) | none => (zeroT, 5)) := by rw [putSpec, if_pos hs]
    have Hspec := hide hspec
    clear hspec
    go_wp2_with fail
    refine (find_any t a cap place pa pcap _ (Ints_below hbw hp) (InP_below hbw hin) hl).mono ?_
    rintro e w2 ⟨hfound, hb2⟩
    have h3r2 := h3r.below hb2
    have h3t2 := Three.below ⟨c0, c1, c2, by assumption, by assumption, by assumption⟩ hb2
    have h3u2 := h3u.below hb2
    have hz2 := hb2.size
    have hbw2 := hbw.trans (hb2.mono (by omega))
    rcases hfound with ⟨c, a1, cap1, hat, rfl, hin1⟩ | ⟨hat, rfl⟩
    · have husz := atT_sz hat
      have hsp2 : putSpec ar t place u = if 120 < (t.sz : Int) - c.sz + u.sz then (zeroT, 2) else (putT u t place, 0) := by rw [Hspec.out, hat]
      have Hsp2 := hide hsp2
      have Hat := hide hat
      clear hsp2 Hspec hat h3r h3u c0 c1 c2
      obtain ⟨d0, d1, d2, f0, f1, f2⟩ := h3r2
      obtain ⟨t0, t1, t2, _, _, _⟩ := h3t2
      obtain ⟨u0, u1, u2, _, _, _⟩ := h3u2
      have hz3 : w.heap.size + 1 + 1 + 1 < w2.heap.size := by omega
      have hz4 : w.heap.size + 1 + 1 < w2.heap.size := by omega
      have hz5 : w.heap.size + 1 < w2.heap.size := by omega
      have hinT := InP_below hbw2 hin
      have hinU := InP_below hbw2 hin2
      have hinC := InP_below hb2 hin1
      have hHT := hide (fun (o : Obj) (w3 : World) (hb : Hid (Below (w2.heap.size + 1) (w2.alloc o) w3)) => (Three.alloc ⟨t0, t1, t2, by assumption, by assumption, by assumption⟩ o).same (hb.out.block _ (by omega)))
      have hHU := hide (fun (o : Obj) (w3 : World) (hb : Hid (Below (w2.heap.size + 1) (w2.alloc o) w3)) => (Three.alloc ⟨u0, u1, u2, by assumption, by assumption, by assumption⟩ o).same (hb.out.block _ (by omega)))
      have hHC := hide (fun (e : TypeId) (w3 : World) (hb : Hid (Below (w2.heap.size + 1) (w2.alloc (.cells #[.int .i64 c.v, .int .i64 c.f, .slice a1 c.args.length cap1] e)) w3)) => (Three.new (w := w2) (v0 := .int .i64 c.v) (v1 := .int .i64 c.f) (v2 := .slice a1 c.args.length cap1) e rfl).same (hb.out.block _ (by omega)))
      have hHR := hide (fun (o : Obj) (w3 : World) (hb : Hid (Below (w2.heap.size + 1) (w2.alloc o) w3)) => (Three.alloc ⟨d0, d1, d2, f0, f1, f2⟩ o).same (hb.out.block _ (by omega)))
      have HP := hide (Ints_below hbw2 hp)
      have hS := hide (fun (e : TypeId) (w' : World) (hb : Below (w2.heap.size + 1) (w2.alloc (.cells #[.int .i64 c.v, .int .i64 c.f, .slice a1 c.args.length cap1] e)) w') => (show w'.cell? ⟨w.heap.size + 1, 0, none⟩ = some (.int .i64 t.v) ∧ w'.cell? ⟨w.heap.size + 1, 1, none⟩ = some (.int .i64 t.f) ∧ w'.cell? ⟨w.heap.size + 1, 2, none⟩ = some (.slice a t.args.length cap) ∧ w'.cell? ⟨w.heap.size + 1 + 1, 0, none⟩ = some (.int .i64 u.v) ∧ w'.cell? ⟨w.heap.size + 1 + 1, 1, none⟩ = some (.int .i64 u.f) ∧ w'.cell? ⟨w.heap.size + 1 + 1, 2, none⟩ = some (.slice a2 u.args.length cap2) ∧ w'.cell? ⟨w2.heap.size, 0, none⟩ = some (.int .i64 c.v) ∧ w'.cell? ⟨w2.heap.size, 1, none⟩ = some (.int .i64 c.f) ∧ w'.cell? ⟨w2.heap.size, 2, none⟩ = some (.slice a1 c.args.length cap1) from
        ⟨(hHT.out _ w' hb).c0, (hHT.out _ w' hb).c1, (hHT.out _ w' hb).c2, (hHU.out _ w' hb).c0, (hHU.out _ w' hb).c1, (hHU.out _ w' hb).c2, (hHC.out _ w' hb).c0, (hHC.out _ w' hb).c1, (hHC.out _ w' hb).c2⟩))
      clear hbw hp hin hin2 hin1 hg hb2
      have husz2 : c.sz ≤ 120 := by omega
      have Hw : Hid (IntKind.i64.wrap (IntKind.i64.wrap ((t.sz : Int) - c.sz) + u.sz) = (t.sz : Int) - c.sz + u.sz) := by
        rw [wrap_ok ((t.sz : Int) - c.sz) (by omega) (by omega), wrap_ok ((t.sz : Int) - c.sz + u.sz) (by omega) (by omega)]; rfl
      go_upto_region 7 with fail
      go_cut [42] (fun v wc => v = .bool (decide (120 < (t.sz : Int) - c.sz + u.sz)) ∧ Hid (Below (w2.heap.size + 1) (w2.alloc (.cells #[.int .i64 c.v, .int .i64 c.f, .slice a1 c.args.length cap1] 77)) wc))
      case first =>
        go_region_held3 (fun w' => w'.cell? ⟨w.heap.size + 1, 0, none⟩ = some (.int .i64 t.v) ∧ w'.cell? ⟨w.heap.size + 1, 1, none⟩ = some (.int .i64 t.f) ∧ w'.cell? ⟨w.heap.size + 1, 2, none⟩ = some (.slice a t.args.length cap) ∧ w'.cell? ⟨w.heap.size + 1 + 1, 0, none⟩ = some (.int .i64 u.v) ∧ w'.cell? ⟨w.heap.size + 1 + 1, 1, none⟩ = some (.int .i64 u.f) ∧ w'.cell? ⟨w.heap.size + 1 + 1, 2, none⟩ = some (.slice a2 u.args.length cap2) ∧ w'.cell? ⟨w2.heap.size, 0, none⟩ = some (.int .i64 c.v) ∧ w'.cell? ⟨w2.heap.size, 1, none⟩ = some (.int .i64 c.f) ∧ w'.cell? ⟨w2.heap.size, 2, none⟩ = some (.slice a1 c.args.length cap1)) ((first | (refine hS.out 77 _ ?_; repeat' (first | with_reducible exact Hid.out ‹Hid (Below _ _ _)› | with_reducible exact Below.refl _ _ | (with_reducible refine Below.drew ?_) | (refine Below.alloc ?_ ?_ _; rotate_left; focus (first | omega | (simp; omega) | (simp; done))))) | go_keep)) ((
          go_at_call 229
          first
            | (refine (size_one t _ _ ?_ ?_).mono ?_; (focus omega); (focus ((repeat' (first | assumption | refine InP_drew ?_ | (refine InP_new1 _ ?_ trivial ?_; focus (first | rfl | (simp; done))) | refine InP_alloc _ ?_ | refine InP_below (by assumption) ?_)); done)))
            | (refine (size_one c _ _ ?_ ?_).mono ?_; (focus omega); (focus ((repeat' (first | assumption | refine InP_drew ?_ | (refine InP_new1 _ ?_ trivial ?_; focus (first | rfl | (simp; done))) | refine InP_alloc _ ?_ | refine InP_below (by assumption) ?_)); done)))
            | (refine (size_one u _ _ ?_ ?_).mono ?_; (focus omega); (focus ((repeat' (first | assumption | refine InP_drew ?_ | (refine InP_new1 _ ?_ trivial ?_; focus (first | rfl | (simp; done))) | refine InP_alloc _ ?_ | refine InP_below (by assumption) ?_)); done)))
          rintro e w3 ⟨rfl, hb3⟩
          have Hbb : Hid (Below (w2.heap.size + 1) (w2.alloc (.cells #[.int .i64 c.v, .int .i64 c.f, .slice a1 c.args.length cap1] 77)) w3) := by
            refine Below.trans (b := _) ?_ (hb3.mono ?_)
            · repeat' (first | with_reducible exact Hid.out ‹Hid (Below _ _ _)› | with_reducible exact Below.refl _ _ | (with_reducible refine Below.drew ?_) | (refine Below.alloc ?_ ?_ _; rotate_left; focus (first | omega | (simp; omega) | (simp; done))))
            · first | omega | (simp; omega) | (simp; done)
          have hsz3 := Hbb.out.size
          have hsz4 := hb3.size
          simp at hsz3 hsz4
          have hq1 : w.heap.size + 1 < w3.heap.size := by omega
          have hq2 : w.heap.size + 1 + 1 < w3.heap.size := by omega
          have hq3 : w2.heap.size < w3.heap.size := by omega
          obtain ⟨_, _, _, _, _, _⟩ := hHT.out _ _ Hbb
          obtain ⟨_, _, _, _, _, _⟩ := hHU.out _ _ Hbb
          obtain ⟨_, _, _, _, _, _⟩ := hHC.out _ _ Hbb))
        all_goals (go_wp2_with fail; go_meet; exact ⟨by rw [Hw.out], Hbb⟩)
      case rest =>
        obtain ⟨rfl, HB⟩ := hcut
        have hbb : Below w2.heap.size w2 wc := (below1 _ _).trans (HB.out.mono (by omega))
        have hzc : w2.heap.size + 1 ≤ wc.heap.size := by have := HB.out.size; simp at this; omega
        have hbf : Below w.heap.size w wc := hbw2.trans (hbb.mono (by omega))
        have h3 := hHR.out _ _ HB
        obtain ⟨x0, x1, x2, g0, g1, g2⟩ := h3
        by_cases hbig : 120 < (t.sz : Int) - c.sz + u.sz
        · have hsp3 : putSpec ar t place u = (zeroT, 2) := by rw [Hsp2.out, if_pos hbig]
          have Hsp3 := hide hsp3
          have hd : decide (120 < (t.sz : Int) - c.sz + u.sz) = true := by simpa using hbig
          rw [hd]
          clear hsp3 Hsp2 hS hHT hHU hHC hHR hbig
          go_wp2_with fail
          exact bodyPost_ret (v := .tuple #[.agg #[.int .i64 0, .int .i64 0, .slice none 0 0], .int .i64 2]) (by simp [results, Tryz.results181, go_sem, x0, x1, x2]) rfl
            ⟨by rw [Hsp3.out]; exact gives_zero 2 _, below_set3 hbf (by omega) _ _ _⟩
        · have hsp3 : putSpec ar t place u = (putT u t place, 0) := by rw [Hsp2.out, if_neg hbig]
          have Hsp3 := hide hsp3
          have hd : decide (120 < (t.sz : Int) - c.sz + u.sz) = false := by simpa using hbig
          rw [hd]
          obtain ⟨y0, y1, y2, _, _, _⟩ := hHT.out _ _ HB
          obtain ⟨z0, z1, z2, _, _, _⟩ := hHU.out _ _ HB
          have Hpl := hide (Ints_below hbb HP.out)
          have HiT := hide (InP_below hbb hinT)
          have HiU := hide (InP_below hbb hinU)
          clear hsp3 Hsp2 hS hHT hHU hHC hHR hbig hinT hinU hinC
          go_wp2_with fail
          refine (put_any t a cap place pa pcap u a2 cap2 _ c Hpl.out HiT.out HiU.out hl (by omega) (by omega) Hat.out).mono ?_
          rintro e w4 ⟨a3, cap3, rfl, hin4, hb4⟩
          have h34 : Three w4 (w.heap.size + 1 + 1 + 1) (.int .i64 0) (.int .i64 0) (.slice none 0 0) := Three.below ⟨x0, x1, x2, g0, g1, g2⟩ hb4
          obtain ⟨q0, q1, q2, k0, k1, k2⟩ := h34
          have hbf4 : Below w.heap.size w w4 := hbf.trans (hb4.mono (by omega))
          go_wp2_with fail
          exact bodyPost_ret (v := .tuple #[.agg #[.int .i64 (putT u t place).v, .int .i64 (putT u t place).f, .slice a3 (putT u t place).args.length cap3], .int .i64 0]) (by simp [results, Tryz.results181, go_sem, q0, q1, q2]) rfl
            ⟨by rw [Hsp3.out]; exact ⟨a3, cap3, rfl, InP_imp (fun _ _ => trivial) (InP_same (fun k hk _ => set3_block (by omega)) hin4)⟩, below_set3 hbf4 (by omega) _ _ _⟩
    · have hsp2 : putSpec ar t place u = (zeroT, 5) := by rw [Hspec.out, hat]
      have Hsp2 := hide hsp2
      clear hsp2 Hspec hat h3r
      obtain ⟨d0, d1, d2, f0, f1, f2⟩ := h3r2
      have hz3 : w.heap.size + 1 + 1 + 1 < w2.heap.size := by omega
      go_wp2_with fail
      exact bodyPost_ret (v := .tuple #[.agg #[.int .i64 0, .int .i64 0, .slice none 0 0], .int .i64 5]) (by simp [results, Tryz.results181, go_sem, d0, d1, d2, hz3]) rfl
        ⟨by rw [Hsp2.out]; exact gives_zero 5 _, (below_set3 hbw2 (by omega) _ _ _).alloc (by rw [set3_size]; omega) _⟩
  · have hs1 : (allErr ar [t, u] != 0) = true := by simpa using hs
    have hspec : putSpec ar t place u = (zeroT, allErr ar [t, u]) := by rw [putSpec, if_neg hs]
    have Hspec := hide hspec
    clear hspec hs
    obtain ⟨d0, d1, d2, f0, f1, f2⟩ := h3r
    generalize allErr ar [t, u] = err at *
    go_wp2_with fail
    exact bodyPost_ret (v := .tuple #[.agg #[.int .i64 0, .int .i64 0, .slice none 0 0], .int .i64 err]) (by simp [results, Tryz.results181, go_sem, d0, d1, d2]) rfl
      ⟨by rw [Hspec.out]; exact gives_zero err _, below_set3 hbw (by omega) _ _ _⟩

end Go.Proofs.YtbkedppkdhfpoabGreat

namespace Go.Proofs.YtbkedppkdhfpoabGreat
open Go.RowKit

/-- The block of the slice that a variable's block holds. -/
def slFoot : Option Obj → Nat → Prop := fun o k => ∃ a n c t fr, o = some (.cells #[.slice (some a) n c] t fr) ∧ k = a.block

theorem own_same {w w' : World} {base : Nat} {e : TypeId} {size : Nat} {v : Value} {n : Nat} {xs : List Value} (h : w.ownsRow base e size v n xs) (hs : ∀ g, v.ownBlock = some g → w'.heap[g]? = w.heap[g]?) : w'.ownsRow base e size v n xs := by
  obtain ⟨h1, h2⟩ := h
  refine ⟨h1, ?_⟩
  rcases h2 with h2 | ⟨g, cap, cur, hv, hg, hh, r⟩
  · exact Or.inl h2
  · exact Or.inr ⟨g, cap, cur, hv, hg, by rw [hs g (by rw [hv]; rfl)]; exact hh, r⟩
theorem own_lt {w : World} {base : Nat} {e : TypeId} {size : Nat} {v : Value} {n : Nat} {xs : List Value} (h : w.ownsRow base e size v n xs) : ∀ g, v.ownBlock = some g → base ≤ g ∧ g < w.heap.size := by
  intro g hg
  rcases h.2 with ⟨rfl, _⟩ | ⟨g', cap, cur, rfl, hb, hh, _⟩
  · cases hg
  · simp only [Value.ownBlock, Option.some.injEq] at hg
    subst hg
    refine ⟨hb, ?_⟩
    rcases Nat.lt_or_ge g' w.heap.size with h | h
    · exact h
    · rw [Array.getElem?_eq_none h] at hh; cases hh
theorem own_shape {w : World} {base : Nat} {e : TypeId} {size : Nat} {v : Value} {n : Nat} {xs : List Value} (h : w.ownsRow base e size v n xs) : ∃ a c, v = .slice a n c := by
  rcases h.2 with ⟨rfl, rfl⟩ | ⟨g', cap, cur, rfl, _⟩
  · exact ⟨_, _, rfl⟩
  · exact ⟨_, _, rfl⟩

/-- The variables so far, in a slice of the call's own that the variable at x holds. -/
structure VarsAt (x B : Nat) (w : World) (zs : List Int) : Prop where
  ex : ∃ v, w.heap[x]? = some (.cells #[v] 22 (0, 0)) ∧ w.ownsRow B 3 1 v zs.length (zs.map (Value.int .i64))

theorem foot_of {x : Nat} {w : World} {v : Value} {e : TypeId} {fr : Nat × Nat} (h : w.heap[x]? = some (.cells #[v] e fr)) (k : Nat) : slFoot w.heap[x]? k ↔ v.ownBlock = some k := by
  rw [h]
  constructor
  · rintro ⟨a, n, c, t, fr', h1, rfl⟩
    simp only [Option.some.injEq, Obj.cells.injEq] at h1
    obtain ⟨h1, _, _⟩ := h1
    have : v = .slice (some a) n c := by simpa using h1
    rw [this]; rfl
  · intro h1
    cases v with
    | slice a n c =>
      cases a with
      | none => cases h1
      | some a => exact ⟨a, n, c, e, fr, rfl, by simpa [Value.ownBlock] using h1.symm⟩
    | _ => cases h1

theorem VarsAt.below {x B : Nat} {w w' : World} {zs : List Int} (h : VarsAt x B w zs) (hb : Below w.heap.size w w') : VarsAt x B w' zs := by
  obtain ⟨v, h1, h2⟩ := h
  have hx : x < w.heap.size := by
    rcases Nat.lt_or_ge x w.heap.size with h | h
    · exact h
    · rw [Array.getElem?_eq_none h] at h1; cases h1
  exact ⟨v, by rw [hb.block x hx]; exact h1, own_same h2 (fun g hg => hb.block g (own_lt h2 g hg).2)⟩

def varStep : List Int → T → List Int × Bool := fun zs t => (if t.v = 0 then zs else zs ++ [t.v], true)

theorem Tryz.info3 : (Tryz.prog.info? 3).map (fun i => (i.zero, i.size, i.bytes)) = some (some (.int .i64 0), 1, 8) := by kernel_rfl

theorem one_new {w : World} {v : Value} {e : TypeId} {n : Nat} (hn : n = w.heap.size) : ∀ (j : Nat) (u : Value), [v][j]? = some u → (w.alloc (.cells #[v] e)).cell? ((⟨n, 0, none⟩ : Addr).add j) = some u := by
  subst hn; exact cell_one_new _ _ _

/-- What the append and the store behind it make. -/
theorem VarsAt.grown {x B : Nat} {w w2 : World} {zs : List Int} {v : Value} {n : Int} {g cap H : Nat} (hxB : x < B) (hB : B ≤ w.heap.size) (hv : w.heap[x]? = some (.cells #[v] 22 (0, 0))) (hown : w.ownsRow B 3 1 v zs.length (zs.map (Value.int .i64)))
    (hH : w.heap.size ≤ H) (W : World) (hW : Below w.heap.size w W)
    (hown2 : w2.ownsRow B 3 1 (.slice (some ⟨g, 0, none⟩) (zs.length + 1) cap) (zs.length + 1) (zs.map (Value.int .i64) ++ [.int .i64 n])) (hgr : W.grownBy w2 v.ownBlock) (hat : v.ownBlock = some g ∨ g = H) (hlt : g < w2.heap.size) :
    VarsAt x B (w2.setCell ⟨x, 0, none⟩ (.slice (some ⟨g, 0, none⟩) (zs.length + 1) cap)) (zs ++ [n]) ∧ Keeps x slFoot w (w2.setCell ⟨x, 0, none⟩ (.slice (some ⟨g, 0, none⟩) (zs.length + 1) cap)) := by
  have hx : x < w.heap.size := by omega
  have hxv : v.ownBlock ≠ some x := fun e => by have := (own_lt hown x e).1; omega
  have hwsz := hW.size
  have hgs := hgr.size
  have hx2 : w2.heap[x]? = some (.cells #[v] 22 (0, 0)) := by rw [hgr.block x (by omega) (fun e => hxv e.symm), hW.block x hx]; exact hv
  have hx3 : (w2.setCell ⟨x, 0, none⟩ (.slice (some ⟨g, 0, none⟩) (zs.length + 1) cap)).heap[x]? = some (.cells #[.slice (some ⟨g, 0, none⟩) (zs.length + 1) cap] 22 (0, 0)) := by
    simp [World.setCell, Array.getElem?_modify, hx2]
  have hg := own_lt hown2 g rfl
  refine ⟨⟨_, hx3, ?_⟩, hgr.os.trans hW.os, hgr.tape.trans hW.tape, hgr.output.trans hW.output, ?_, fun k hk hkx hkF => ?_, fun k hkF => ?_⟩
  · rw [List.length_append, List.map_append]
    exact ownsRow_setCell_below hown2 hxB _
  · simp [World.setCell]; omega
  · rw [foot_of hv] at hkF
    rw [Below.heap_setCell _ _ _ _ hkx, hgr.block k (by omega) (fun e => hkF e.symm), hW.block k hk]
  · rw [foot_of hx3] at hkF
    simp only [Value.ownBlock, Option.some.injEq] at hkF
    subst hkF
    rcases hat with hat | rfl
    · exact Or.inl ((foot_of hv _).2 hat)
    · exact Or.inr ⟨hH, by simp [World.setCell]; omega⟩

set_option maxRecDepth 100000 in
set_option maxHeartbeats 400000 in
theorem varsC_any (x B : Nat) (w : World) (zs : List Int) (t : T) (a : Option Addr) (cap : Nat) (hxB : x < B) (hB : B ≤ w.heap.size) (hz : zs.length < 1000) (h : VarsAt x B w zs) :
    Calls Tryz.prog 168 #[.agg #[.int .i64 t.v, .int .i64 t.f, .slice a t.args.length cap], .pointer (some ⟨x, 0, none⟩)] w fun e w' =>
      e = .returned (.bool (varStep zs t).2) ∧ VarsAt x B w' (varStep zs t).1 ∧ Keeps x slFoot w w' := by
  have hx : x < w.heap.size := by omega
  by_cases ht : t.v = 0
  · have h1 : varStep zs t = (zs, true) := by rw [varStep, if_pos ht]
    rw [h1]
    have ht' : (t.v != 0) = false := by simpa using ht
    have H := hide h
    clear h h1 ht
    go_enter Tryz.func168, Tryz.ntmps168
    go_wp2_with fail
    go_ret
    exact ⟨rfl, H.out.below (below1 _ _), Keeps.of_below hx (below1 _ _)⟩
  · have h1 : varStep zs t = (zs ++ [t.v], true) := by rw [varStep, if_neg ht]
    rw [h1]
    have ht' : (t.v != 0) = true := by simpa using ht
    obtain ⟨v, hv, hown⟩ := h
    obtain ⟨va, vc, rfl⟩ := own_shape hown
    have cv : w.cell? ⟨x, 0, none⟩ = some (.slice va zs.length vc) := by simp [World.cell?, hv]
    have Hv := hide hv
    have Hown := hide hown
    clear h1 ht hv hown
    obtain ⟨i, hi, hzz⟩ := Option.map_eq_some_iff.1 Tryz.info3
    simp only [Prod.mk.injEq] at hzz
    obtain ⟨hz0, hz1, hz2⟩ := hzz
    have HO := hide (fun o1 o2 => own_same Hown.out (w' := (w.alloc o1).alloc o2) (fun g hg => (below2 w o1 o2).block g (own_lt Hown.out g hg).2))
    go_enter Tryz.func168, Tryz.ntmps168
    go_wp2_with (at_builtin; go_must (refine wpList_append_lies _ rfl (.tmp 7) (.tmp 10) 22 rfl B 3 i (.int .i64 0) 1 8 Tryz.underlying22 hi hz0 hz1 hz2 rfl (by decide) (.slice va zs.length vc) zs.length (zs.map (Value.int .i64)) rfl (HO.out _ _) ⟨w.heap.size + 1, 0, none⟩ 1 1 [.int .i64 t.v] rfl rfl (one_new (by simp)) (by simp [Value.oneCell']) (by decide) (by unfold maxLen; omega) (by omega) (by simp; omega) _ rfl ?_))
    intro g cap2 w2 hown2 hgr hat hlt
    have hg := VarsAt.grown (H := w.heap.size + 1 + 1) hxB hB Hv.out Hown.out (by omega) _ (below2 _ _ _) hown2 hgr (by simpa using hat) hlt
    have Hg := hide hg
    have hx2 : w2.heap[x]? = some (.cells #[.slice va zs.length vc] 22 (0, 0)) := by
      have hne : (Value.slice va zs.length vc).ownBlock ≠ some x := fun e => by have := (own_lt Hown.out x e).1; omega
      rw [hgr.block x (by simp; omega) (fun e => hne e.symm), (below2 _ _ _).block x hx]; exact Hv.out
    have cv2 : w2.cell? ⟨x, 0, none⟩ = some (.slice va zs.length vc) := by simp [World.cell?, hx2]
    have fv2 : w2.frozen? ⟨x, 0, none⟩ = false := by simp [World.frozen?, hx2]
    clear hg hown2 hgr hat hx2 HO
    go_wp2_with fail
    go_ret
    exact ⟨rfl, Hg.out⟩

end Go.Proofs.YtbkedppkdhfpoabGreat

namespace Go.Proofs
open Go.Shelf
def Tryz.lays189_ren : Go.Shelf.Ren := ⟨fun | 189 => 130 | 125 => 173 | 257 => 172 | 128 => 222 | 129 => 223 | 294 => 213 | 295 => 214 | 296 => 215 | 297 => 216 | 298 => 217 | 299 => 218 | 216 => 219 | 300 => 220 | 301 => 221 | 328 => 252 | 329 => 253 | 330 => 254 | 331 => 255 | 332 => 256 | 215 => 257 | 343 => 285 | n => n, fun | 28 => 22 | 3 => 3 | 46 => 218 | 0 => 0 | 51 => 267 | 53 => 269 | 4 => 4 | 183 => 260 | 182 => 259 | 131 => 264 | 5 => 5 | 9 => 9 | 218 => 290 | 222 => 294 | 228 => 321 | 229 => 322 | n => n, fun | n => n⟩
theorem Tryz.lays189 : Go.Proofs.Lays.n189 Tryz.prog Tryz.lays189_ren := {
  mixed := by kernel_rfl
  f125 := Tryz.func173.trans (congrArg some (by kernel_rfl))
  f128 := Tryz.func222.trans (congrArg some (by kernel_rfl))
  f129 := Tryz.func223.trans (congrArg some (by kernel_rfl))
  f189 := Tryz.func130.trans (congrArg some (by kernel_rfl))
  f215 := Tryz.func257.trans (congrArg some (by kernel_rfl))
  f216 := Tryz.func219.trans (congrArg some (by kernel_rfl))
  f257 := Tryz.func172.trans (congrArg some (by kernel_rfl))
  f294 := Tryz.func213.trans (congrArg some (by kernel_rfl))
  f295 := Tryz.func214.trans (congrArg some (by kernel_rfl))
  f296 := Tryz.func215.trans (congrArg some (by kernel_rfl))
  f297 := Tryz.func216.trans (congrArg some (by kernel_rfl))
  f298 := Tryz.func217.trans (congrArg some (by kernel_rfl))
  f299 := Tryz.func218.trans (congrArg some (by kernel_rfl))
  f300 := Tryz.func220.trans (congrArg some (by kernel_rfl))
  f301 := Tryz.func221.trans (congrArg some (by kernel_rfl))
  f328 := Tryz.func252.trans (congrArg some (by kernel_rfl))
  f329 := Tryz.func253.trans (congrArg some (by kernel_rfl))
  f330 := Tryz.func254.trans (congrArg some (by kernel_rfl))
  f331 := Tryz.func255.trans (congrArg some (by kernel_rfl))
  f332 := Tryz.func256.trans (congrArg some (by kernel_rfl))
  f343 := Tryz.func285.trans (congrArg some (by kernel_rfl))
  t0 := Tryz.underlying0
  a0 := Tryz.isAgg0
  z0 := Tryz.sizeOf0
  v0 := Tryz.zeroValue0
  t3 := Tryz.underlying3
  a3 := Tryz.isAgg3
  z3 := Tryz.sizeOf3
  v3 := Tryz.zeroValue3
  t4 := Tryz.underlying4
  a4 := Tryz.isAgg4
  z4 := Tryz.sizeOf4
  v4 := Tryz.zeroValue4
  t5 := Tryz.underlying5
  a5 := Tryz.isAgg5
  z5 := Tryz.sizeOf5
  v5 := Tryz.zeroValue5
  t9 := Tryz.underlying9
  a9 := Tryz.isAgg9
  z9 := Tryz.sizeOf9
  v9 := Tryz.zeroValue9
  t28 := Tryz.underlying22
  a28 := Tryz.isAgg22
  z28 := Tryz.sizeOf22
  v28 := Tryz.zeroValue22
  t46 := Tryz.underlying218
  a46 := Tryz.isAgg218
  z46 := Tryz.sizeOf218
  v46 := Tryz.zeroValue218
  t51 := Tryz.underlying267
  a51 := Tryz.isAgg267
  z51 := Tryz.sizeOf267
  v51 := Tryz.zeroValue267
  t53 := Tryz.underlying269
  a53 := Tryz.isAgg269
  z53 := Tryz.sizeOf269
  v53 := Tryz.zeroValue269
  t131 := Tryz.underlying264
  a131 := Tryz.isAgg264
  z131 := Tryz.sizeOf264
  v131 := Tryz.zeroValue264
  t182 := Tryz.underlying259
  a182 := Tryz.isAgg259
  z182 := Tryz.sizeOf259
  v182 := Tryz.zeroValue259
  t183 := Tryz.underlying260
  a183 := Tryz.isAgg260
  z183 := Tryz.sizeOf260
  v183 := Tryz.zeroValue260
  t218 := Tryz.underlying290
  a218 := Tryz.isAgg290
  z218 := Tryz.sizeOf290
  v218 := Tryz.zeroValue290
  t222 := Tryz.underlying294
  a222 := Tryz.isAgg294
  z222 := Tryz.sizeOf294
  v222 := Tryz.zeroValue294
  t228 := Tryz.underlying321
  a228 := Tryz.isAgg321
  z228 := Tryz.sizeOf321
  v228 := Tryz.zeroValue321
  t229 := Tryz.underlying322
  a229 := Tryz.isAgg322
  z229 := Tryz.sizeOf322
  v229 := Tryz.zeroValue322 }
open Go.Sort Go.RowKit in
theorem Tryz.slices_Sort_int (blk off cap : Nat) (zs : List Int) (w : World) (hH : Holds (Value.int .i64) w blk off zs.toArray) (hblk : blk < w.heap.size) (hsz : zs.length < 4611686018427387904) :
    Calls Tryz.prog 130 #[.slice (some ⟨blk, off, none⟩) zs.length cap] w fun e w' =>
      e = .returned (.tuple #[]) ∧ ∃ n os, w' = grow (putRow (Value.int .i64) (Sort.ahead w n) blk off (zs.mergeSort fun x y => decide (x ≤ y)).toArray) os := Any.slices_Sort_int Tryz.lays189 blk off cap zs w hH hblk hsz
def Tryz.laysNm220_ren : Go.Shelf.Ren := ⟨fun | 20 => 131 | n => n, fun | 22 => 22 | 3 => 3 | 4 => 4 | 0 => 0 | n => n, fun | n => n⟩
theorem Tryz.laysNm220 : Go.Proofs.Lays2.n20 Tryz.prog Tryz.laysNm220_ren := {
  mixed := by kernel_rfl
  f20 := Tryz.func131.trans (congrArg some (by kernel_rfl))
  t0 := Tryz.underlying0
  a0 := Tryz.isAgg0
  z0 := Tryz.sizeOf0
  v0 := Tryz.zeroValue0
  t3 := Tryz.underlying3
  a3 := Tryz.isAgg3
  z3 := Tryz.sizeOf3
  v3 := Tryz.zeroValue3
  t4 := Tryz.underlying4
  a4 := Tryz.isAgg4
  z4 := Tryz.sizeOf4
  v4 := Tryz.zeroValue4
  t22 := Tryz.underlying22
  a22 := Tryz.isAgg22
  z22 := Tryz.sizeOf22
  v22 := Tryz.zeroValue22
  i3 := by kernel_rfl }
open Go.RowKit Go.Lib Go.Sort in
theorem Tryz.slices_Compact_int (blk off cap : Nat) (zs : List Int) (w : World) (hH : Holds (Value.int .i64) w blk off zs.toArray) (hsz : zs.length ≤ 9223372036854775807) (hcap : zs.length ≤ cap) :
    Calls Tryz.prog 131 #[.slice (some ⟨blk, off, none⟩) zs.length cap] w fun e w' => e = .returned (.slice (some ⟨blk, off, none⟩) (Lib.compact zs).length cap) ∧ ∃ q, w' = putRow (Value.int .i64) (Sort.ahead w q) blk off (Lib.compact zs ++ List.replicate (zs.length - (Lib.compact zs).length) 0).toArray := Any.slices_Compact_int Tryz.laysNm220 blk off cap zs w hH hsz hcap
open Go.RowKit Go.Lib Go.Sort in
theorem Tryz.slices_Compact_int_empty (a : Option Addr) (cap : Nat) (w : World) :
    Calls Tryz.prog 131 #[.slice a 0 cap] w fun e w' => e = .returned (.slice a 0 cap) ∧ w' = w := Any.slices_Compact_int_empty Tryz.laysNm220 a cap w
open Go.RowKit Go.Sort in
theorem Tryz.slices_Sort_int_none (p : Option Addr) (cap : Nat) (w : World) :
    Calls Tryz.prog 130 #[.slice p 0 cap] w fun e w' => e = .returned (.tuple #[]) ∧ w' = w := Any.slices_Sort_int_none Tryz.lays189 p cap w
end Go.Proofs

namespace Go.Proofs.YtbkedppkdhfpoabGreat
open Go.RowKit

theorem putRow_block {α : Type} [Inhabited α] {enc : α → Value} {w : World} {blk off k : Nat} {d : Array α} (h : k ≠ blk) : (Sort.putRow enc w blk off d).heap[k]? = w.heap[k]? := by
  simp [Sort.putRow, Sort.mapBlock, Array.getElem?_modify, Ne.symm h]

theorem holds_own {w : World} {B g cap : Nat} {zs : List Int} (h : w.ownsRow B 3 1 (.slice (some ⟨g, 0, none⟩) zs.length cap) zs.length (zs.map (Value.int .i64))) (hn : 0 < zs.length) : Sort.Holds (Value.int .i64) w g 0 zs.toArray ∧ g < w.heap.size ∧ zs.length ≤ cap := by
  rcases h.2 with ⟨_, h0⟩ | ⟨g', cap', cur, he, hb, hg, hc, hm, hs, ht⟩
  · omega
  simp only [Value.slice.injEq, Option.some.injEq, Addr.mk.injEq, and_true, true_and] at he
  obtain ⟨rfl, rfl⟩ := he
  refine ⟨fun j hj => ?_, ?_, hc⟩
  · have hj' : j < zs.length := by simpa using hj
    have e1 : cur[j]? = some (.int .i64 zs[j]) := by
      have : (cur.toList.take (zs.length * 1))[j]? = some (.int .i64 zs[j]) := by rw [ht]; simp [hj']
      rw [List.getElem?_take_of_lt (by omega)] at this
      simpa using this
    constructor
    · simp only [World.cell?, hg, Nat.zero_add]
      simp [e1, hj']
    · simp [World.frozen?, hg]
  · rcases Nat.lt_or_ge g w.heap.size with h | h
    · exact h
    · rw [Array.getElem?_eq_none h] at hg; cases hg

theorem sort_any (g cap : Nat) (zs : List Int) (w : World) (hH : Sort.Holds (Value.int .i64) w g 0 zs.toArray) (hg : g < w.heap.size) (hn : zs.length ≤ 2000) :
    Calls Tryz.prog 130 #[.slice (some ⟨g, 0, none⟩) zs.length cap] w fun e w' => e = .returned (.tuple #[]) ∧ Keeps g noFoot w w' ∧ Sort.Holds (Value.int .i64) w' g 0 (zs.mergeSort fun x y => decide (x ≤ y)).toArray := by
  refine (Tryz.slices_Sort_int g 0 cap zs w hH hg (by omega)).mono ?_
  rintro e w' ⟨rfl, n, os, rfl⟩
  refine ⟨rfl, ⟨rfl, rfl, rfl, by simp, fun k hk hkg _ => ?_, fun _ h => h.elim⟩, ?_⟩
  · rw [Sort.heap_grow_old _ _ (by simpa using hk), putRow_block hkg]; rfl
  · refine Sort.holds_grow _ _ _ _ _ _ (by simpa using hg) (Sort.holds_putRow _ _ _ _ zs.toArray _ hH (by simp))

theorem compact_le (zs : List Int) : (Lib.compact zs).length ≤ zs.length := by
  unfold Lib.compact Lib.compactUpTo
  rw [List.length_map]
  exact Nat.le_trans (List.length_filter_le _ _) (by simp)

theorem compact_any (g cap : Nat) (zs : List Int) (w : World) (hH : Sort.Holds (Value.int .i64) w g 0 zs.toArray) (hcap : zs.length ≤ cap) (hn : zs.length ≤ 2000) :
    Calls Tryz.prog 131 #[.slice (some ⟨g, 0, none⟩) zs.length cap] w fun e w' => e = .returned (.slice (some ⟨g, 0, none⟩) (Lib.compact zs).length cap) ∧ Keeps g noFoot w w' ∧ Ints w' (Lib.compact zs) (some ⟨g, 0, none⟩) := by
  refine (Tryz.slices_Compact_int g 0 cap zs w hH (by omega) hcap).mono ?_
  rintro e w' ⟨rfl, q, rfl⟩
  have hle := compact_le zs
  refine ⟨rfl, ⟨rfl, rfl, rfl, by simp, fun k hk hkg _ => ?_, fun _ h => h.elim⟩, Or.inr ⟨g, 0, rfl, fun i hi => ?_⟩⟩
  · rw [putRow_block hkg]; rfl
  · have h1 := Sort.cell?_putRow (Value.int .i64) (Sort.ahead w q) g 0 zs.toArray (Lib.compact zs ++ List.replicate (zs.length - (Lib.compact zs).length) 0).toArray hH (by simp; omega) i (by simp; omega)
    rw [h1]
    congr 1
    simp [List.getElem?_append_left hi, List.getD]

theorem eg168 (args : Array Value) (w : World) : (callFunc 168 args).run Tryz.prog w = .ok (.enter 168 args) w := by kernel_rfl

theorem look_vars (x B : Nat) (ts : List T) (a : Option Addr) (cap : Nat) (w : World) (hxB : x < B) (h1000 : T.sz.szL ts ≤ 1000) (hf : Foot x B slFoot w) (hin : InP (fun k => k < B ∧ k ≠ x) w ts a) (hst : VarsAt x B w []) :
    Calls Tryz.prog 167 #[.func (.func 168) #[] #[.pointer (some ⟨x, 0, none⟩)], .slice a ts.length cap] w fun e w' =>
      e = .returned (.bool (lookT.lookL varStep [] ts).2) ∧ VarsAt x B w' (lookT.lookL varStep [] ts).1 ∧ Keeps x slFoot w w' :=
  look_any varStep 168 #[.pointer (some ⟨x, 0, none⟩)] x B slFoot (VarsAt x B) eg168 List.length 1000 (fun s t => by
      show (if t.v = 0 then s else s ++ [t.v]).length ≤ _
      split <;> simp) (fun _ _ _ _ h => h.below (below1 _ _))
    (fun w' s t' a' cap' hlt hf' h => varsC_any x B w' s t' a' cap' hxB hf'.hB hlt h) (T.sz.szL ts + 1) ts a cap w [] (by omega) h1000 (by simpa using h1000) hf hin hst

/-- All variables of a term, behind those that stand ahead. -/
def allVars (t : T) : List Int := (lookT.lookL varStep [] [t]).1
/-- The variables of a term, rising, each once. -/
def varsT (t : T) : List Int := Lib.compact ((allVars t).mergeSort fun x y => decide (x ≤ y))

/-- What Vars answers. -/
def varsSpec (ar : List Int) (t : T) : List Int := if allErr ar [t] = 0 then varsT t else []

/-- Numbers and an error handed back. -/
def GivesInts (zs : List Int) (err : Int) (e : Ending) (w' : World) : Prop :=
  ∃ a1 cap1, e = .returned (.tuple #[.slice a1 zs.length cap1, .int .i64 err]) ∧ Ints w' zs a1
/-- The same; what is nil has no room, and what is not begins somewhere. -/
def GivesNums (zs : List Int) (err : Int) (e : Ending) (w' : World) : Prop :=
  ∃ a1 cap1, e = .returned (.tuple #[.slice a1 zs.length cap1, .int .i64 err]) ∧ Ints w' zs a1 ∧ ((a1 = none ∧ cap1 = 0) ∨ ∃ g, a1 = some ⟨g, 0, none⟩)

theorem allVars_le (t : T) : (allVars t).length ≤ t.sz := by
  have := (look_mu (step := varStep) (mu := List.length) (fun s t => by
      show (if t.v = 0 then s else s ++ [t.v]).length ≤ _
      split <;> simp) _).2 [t] [] (Nat.le_refl _)
  rw [T.szL_cons, T.szL_nil] at this
  simpa [allVars] using this

theorem Below.of_keepsF {x B : Nat} {F : Option Obj → Nat → Prop} {W w' : World} (h : Keeps x F W w') (hx : B ≤ x) (hB : B ≤ W.heap.size) (hF : ∀ k, F W.heap[x]? k → B ≤ k) : Below B W w' :=
  ⟨h.os, h.tape, h.output, h.size, fun k hk => h.block k (by omega) (by omega) (fun hk' => by have := hF k hk'; omega)⟩

set_option maxRecDepth 100000 in
set_option maxHeartbeats 1000000 in
theorem Vars_nums (ar : List Int) (ga : Option Addr) (gcap : Nat) (t : T) (a : Option Addr) (cap : Nat) (w : World) (hg : Ints w ar ga) (hin : InL w t.args a) (hszok : allErr ar [t] = 0 → t.sz ≤ 120) :
    Calls Tryz.prog 123 #[.agg #[.slice ga ar.length gcap], .agg #[.int .i64 t.v, .int .i64 t.f, .slice a t.args.length cap]] w fun e w' =>
      GivesNums (varsSpec ar t) (allErr ar [t]) e w' ∧ Below w.heap.size w w' := by
  have hmf : ∀ (fn : Fn) (first cap : Array Value) (w : World), (Instr.makeFunc fn first cap).run Tryz.prog w = .ok (.func fn first cap) w := fun _ _ _ _ => rfl
  have Hg := hide (fun o1 o2 o3 => Ints_alloc o3 (Ints_alloc o2 (Ints_alloc o1 hg)))
  have Hin := hide (fun o1 o2 e => InP_new1 (n := w.heap.size + 1 + 1) (cap := cap) e (by simp) trivial (InP_alloc o2 (InP_alloc o1 hin)))
  have hs1 : T.sz.szL [t] = t.sz := by rw [T.szL_cons, T.szL_nil]; omega
  have Hs1 := hide hs1
  clear hg hs1
  go_enter Tryz.func123, Tryz.ntmps123
  go_wp2_with fail
  refine (check_any ar ga gcap [t] _ 1 _ (Hg.out _ _ _) (Hin.out _ _ _) (by simp)).mono ?_
  rintro e w1 ⟨rfl, hb1⟩
  have hbw : Below w.heap.size w w1 := (((below1 _ _).alloc (by simp) _).alloc (by simp; omega) _).trans (hb1.mono (by simp; omega))
  have hz1 : w.heap.size + 1 < w1.heap.size := by have := hb1.size; simp at this; omega
  have h3t : Three w1 (w.heap.size + 1) (.int .i64 t.v) (.int .i64 t.f) (.slice a t.args.length cap) := ((Three.new _ (by simp)).alloc _).below hb1
  clear hb1
  by_cases hs : allErr ar [t] = 0
  · have hsz := hszok hs
    have hsp : varsSpec ar t = varsT t := by rw [varsSpec, if_pos hs]
    have Hsp := hide hsp
    have Hs := hide hs
    rw [hs]
    obtain ⟨d0, d1, d2, _, _, _⟩ := h3t
    have hin1 := InP_lt (InP_below hbw hin)
    have hin2 : ∀ e1 e2, InP (fun k => k < w1.heap.size + 2 ∧ k ≠ w1.heap.size) ((w1.alloc (.cells #[.slice none 0 0] e1)).alloc (.cells #[.int .i64 t.v, .int .i64 t.f, .slice a t.args.length cap] e2)) [t] (some ⟨w1.heap.size + 1, 0, none⟩) :=
      fun e1 e2 => InP_new1 e2 (by simp) (by constructor <;> simp) (InP_alloc _ (InP_imp (fun k h => by omega) hin1))
    have hst : ∀ o2, VarsAt w1.heap.size (w1.heap.size + 2) ((w1.alloc (.cells #[.slice none 0 0] 22)).alloc o2) [] := fun o2 =>
      VarsAt.below ⟨.slice none 0 0, heap_alloc_new w1 _, ⟨rfl, Or.inl ⟨rfl, rfl⟩⟩⟩ (below1 _ _)
    have hft : ∀ o2, Foot w1.heap.size (w1.heap.size + 2) slFoot ((w1.alloc (.cells #[.slice none 0 0] 22)).alloc o2) := fun o2 =>
      ⟨by simp; omega, by simp, fun k hk => by
        rw [Below.heap_alloc _ _ _ (by simp), foot_of (heap_alloc_new w1 _)] at hk; cases hk⟩
    have Hin2 := hide hin2
    have Hst := hide hst
    have Hft := hide hft
    clear hin1 hin2 hst hft hs hsp
    go_wp2_with fail
    refine (look_vars _ (w1.heap.size + 2) [t] _ 1 _ (by omega) (by rw [Hs1.out]; omega) (Hft.out _) (Hin2.out _ _) (Hst.out _)).mono ?_
    rintro e w2 ⟨rfl, hvars, hkeep⟩
    have hb2 : Below w.heap.size w w2 := ((hbw.alloc (by omega) _).alloc (by simp; omega) _).trans (Below.of_keepsF hkeep (by omega) (by simp; omega) (fun k hk => by have := (Hft.out _).rng k hk; omega))
    have hsz2 := hkeep.size
    simp at hsz2
    have hle := allVars_le t
    change VarsAt w1.heap.size (w1.heap.size + 2) w2 (allVars t) at hvars
    obtain ⟨v, hv, hown⟩ := hvars
    obtain ⟨va, vc, rfl⟩ := own_shape hown
    have cv : w2.cell? ⟨w1.heap.size, 0, none⟩ = some (.slice va (allVars t).length vc) := by simp [World.cell?, hv]
    have Hv := hide hv
    have Hown := hide hown
    clear hkeep hv hown Hft Hin2 Hst
    clear hszok
    by_cases hnil : (allVars t).length = 0
    · have hv0 : varsSpec ar t = [] := by
        rw [Hsp.out, varsT, List.length_eq_zero_iff.1 hnil, List.mergeSort_nil]; rfl
      have Hv0 := hide hv0
      have Hvn : Hid ((va = none ∧ vc = 0) ∨ ∃ g, va = some ⟨g, 0, none⟩) := by
        rcases Hown.out.2 with ⟨h, _⟩ | ⟨g, cap, cur, h, _⟩
        · simp only [Value.slice.injEq] at h; exact Or.inl ⟨h.1, h.2.2⟩
        · simp only [Value.slice.injEq] at h; exact Or.inr ⟨g, h.1⟩
      rw [hnil] at cv
      clear hnil hv0
      go_wp2_with fail
      refine (Tryz.slices_Sort_int_none va vc _).mono ?_
      rintro e w3 ⟨rfl, rfl⟩
      go_wp2_with fail
      refine (Tryz.slices_Compact_int_empty va vc _).mono ?_
      rintro e w4 ⟨rfl, rfl⟩
      go_wp2_with fail
      go_ret2
      exact ⟨by rw [Hv0.out, Hs.out]; exact ⟨va, vc, rfl, Or.inl rfl, Hvn.out⟩, hb2⟩
    · have hpos : 0 < (allVars t).length := by omega
      obtain ⟨g, cap2, hform, hBg, hglt⟩ := Hown.out.form hpos
      simp only [Value.slice.injEq, true_and] at hform
      obtain ⟨rfl, rfl⟩ := hform
      obtain ⟨hH, _, hcap⟩ := holds_own Hown.out hpos
      have HH := hide hH
      have hlen : ((allVars t).mergeSort fun x y => decide (x ≤ y)).length = (allVars t).length := List.length_mergeSort _
      have Hlen := hide hlen
      clear hH hlen hnil
      go_wp2_with fail
      refine (sort_any g vc (allVars t) _ HH.out hglt (by omega)).mono ?_
      rintro e w3 ⟨rfl, hk3, hH3⟩
      have hz3 := hk3.size
      have cv3 : w3.cell? ⟨w1.heap.size, 0, none⟩ = some (.slice (some ⟨g, 0, none⟩) (allVars t).length vc) := by
        rw [World.cell?_of_block (w := w2) (a := ⟨w1.heap.size, 0, none⟩) (hk3.block w1.heap.size (by omega) (by omega) (fun h => h))]; exact cv
      have Hb3 := hide (hb2.trans (Below.of_keeps (B := w.heap.size) hk3 (by omega) (by have := hb2.size; omega)))
      have hH3' := hide hH3
      clear hk3 hH3
      go_wp2_with fail
      have hcm := compact_any g vc ((allVars t).mergeSort fun x y => decide (x ≤ y)) w3 hH3'.out (by rw [Hlen.out]; exact hcap) (by rw [Hlen.out]; omega)
      rw [Hlen.out] at hcm
      refine hcm.mono ?_
      rintro e w4 ⟨rfl, hk4, hI⟩
      clear hcm
      have hsp4 : varsSpec ar t = Lib.compact ((allVars t).mergeSort fun x y => decide (x ≤ y)) := Hsp.out
      have Hsp4 := hide hsp4
      have Hb4 := hide (Hb3.out.trans (Below.of_keeps (B := w.heap.size) hk4 (by omega) (by have := Hb3.out.size; omega)))
      have HI := hide hI
      clear hsp4 hk4 hI
      go_wp2_with fail
      go_ret2
      exact ⟨by rw [Hsp4.out, Hs.out]; exact ⟨_, vc, rfl, HI.out, Or.inr ⟨_, rfl⟩⟩, Hb4.out⟩
  · have hs1 : (allErr ar [t] != 0) = true := by simpa using hs
    have hsp : varsSpec ar t = [] := by rw [varsSpec, if_neg hs]
    have Hsp := hide hsp
    clear hs hsp hszok
    go_wp2_with fail
    go_ret2
    exact ⟨by rw [Hsp.out]; exact ⟨none, 0, rfl, Or.inl rfl, Or.inl ⟨rfl, rfl⟩⟩, hbw⟩
theorem Vars_any (ar : List Int) (ga : Option Addr) (gcap : Nat) (t : T) (a : Option Addr) (cap : Nat) (w : World) (hg : Ints w ar ga) (hin : InL w t.args a) (hszok : allErr ar [t] = 0 → t.sz ≤ 120) :
    Calls Tryz.prog 123 #[.agg #[.slice ga ar.length gcap], .agg #[.int .i64 t.v, .int .i64 t.f, .slice a t.args.length cap]] w fun e w' =>
      GivesInts (varsSpec ar t) (allErr ar [t]) e w' ∧ Below w.heap.size w w' :=
  (Vars_nums ar ga gcap t a cap w hg hin hszok).mono fun _ _ ⟨⟨a1, c1, h1, h2, _⟩, hb⟩ => ⟨⟨a1, c1, h1, h2⟩, hb⟩

end Go.Proofs.YtbkedppkdhfpoabGreat

namespace Go.Proofs.YtbkedppkdhfpoabGreat
open Go.RowKit

set_option maxRecDepth 100000 in
set_option maxHeartbeats 400000 in
theorem small_any (w : World) : Calls Tryz.prog 61 #[] w fun e w' => ∃ n, e = .returned (.agg #[.slice (some ⟨n, 0, none⟩) 2 2]) ∧ Ints w' [0, 1] (some ⟨n, 0, none⟩) ∧ Below w.heap.size w w' := by
  go_enter Tryz.func61, Tryz.ntmps61
  go_wp2_with fail
  exact bodyPost_ret (v := .agg #[.slice (some ⟨w.heap.size + 1, 0, none⟩) 2 2]) (by simp [results, Tryz.results61, go_sem]) rfl ⟨w.heap.size + 1, rfl, Or.inr ⟨_, _, rfl, fun i hi => by
    have : i = 0 ∨ i = 1 := by simp at hi; omega
    rcases this with rfl | rfl
    · exact cell_new 0 (by simp)
    · exact cell_new 1 (by simp)⟩, below2 _ _ _⟩

set_option maxRecDepth 100000 in
set_option maxHeartbeats 400000 in
theorem fn_any (n : Int) (a : Option Addr) (len cap : Nat) (w : World) : Calls Tryz.prog 60 #[.int .i64 n, .slice a len cap] w fun e w' => e = .returned (.agg #[.int .i64 0, .int .i64 n, .slice a len cap]) ∧ Below w.heap.size w w' := by
  go_enter Tryz.func60, Tryz.ntmps60
  go_wp2_with fail
  exact bodyPost_ret (v := .agg #[.int .i64 0, .int .i64 n, .slice a len cap]) (by simp [results, Tryz.results60, go_sem]) rfl ⟨rfl, below1 _ _⟩

set_option maxRecDepth 100000 in
set_option maxHeartbeats 400000 in
theorem va_any (n : Int) (w : World) : Calls Tryz.prog 59 #[.int .i64 n] w fun e w' => e = .returned (.agg #[.int .i64 n, .int .i64 0, .slice none 0 0]) ∧ Below w.heap.size w w' := by
  go_enter Tryz.func59, Tryz.ntmps59
  go_wp2_with fail
  exact bodyPost_ret (v := .agg #[.int .i64 n, .int .i64 0, .slice none 0 0]) (by simp [results, Tryz.results59, go_sem]) rfl ⟨rfl, below1 _ _⟩

theorem InP_newT {p : Nat → Prop} {w : World} {v f : Int} {t : T} {n : Nat} (e : TypeId) (hn : n = w.heap.size) (hp : p w.heap.size) (ht : t = ⟨v, f, []⟩) :
    InP p (w.alloc (.cells #[.int .i64 v, .int .i64 f, .slice none 0 0] e)) [t] (some ⟨n, 0, none⟩) := by
  subst ht
  exact InP_new1 (t := ⟨v, f, []⟩) (a := none) (cap := 0) e hn hp InP_nil

attribute [local go_sem ↓] Go.wp_at_zero Go.wp_at_succ
end Go.Proofs.YtbkedppkdhfpoabGreat

namespace Go.Proofs.YtbkedppkdhfpoabGreat
open Go.RowKit

/-- How big what is put is. -/
theorem putT_sz {u : T} : ∀ {p : List Int} {t c : T}, atT t p = some c → (putT u t p).sz + c.sz = t.sz + u.sz := by
  intro p
  induction p with
  | nil =>
    intro t c h
    simp only [atT, Option.some.injEq] at h
    subst h
    show u.sz + t.sz = _
    omega
  | cons i p ih =>
    intro t c h
    rw [atT] at h
    by_cases hi : 0 ≤ i ∧ i < t.args.length
    · rw [if_pos hi] at h
      obtain ⟨d, hd, hc⟩ := Option.bind_eq_some_iff.1 h
      rw [putT_at hd]
      have hlt : i.toNat < t.args.length := by omega
      have h1 := ih hc
      have h2 : T.sz.szL (t.args.set i.toNat (putT u d p)) + d.sz = T.sz.szL t.args + (putT u d p).sz := by
        have e1 : t.args.set i.toNat (putT u d p) = t.args.take i.toNat ++ putT u d p :: t.args.drop (i.toNat + 1) := List.set_eq_take_append_cons_drop.trans (by rw [if_pos hlt])
        have e2 : t.args = t.args.take i.toNat ++ d :: t.args.drop (i.toNat + 1) := by
          have hd2 : t.args[i.toNat] = d := by
            rw [List.getElem?_eq_getElem hlt] at hd
            exact Option.some.inj hd
          rw [← hd2, List.getElem_cons_drop, List.take_append_drop]
        have e3 : T.sz.szL t.args = T.sz.szL (t.args.take i.toNat) + (d.sz + T.sz.szL (t.args.drop (i.toNat + 1))) := by
          rw [← T.szL_cons, ← T.szL_append, ← e2]
        rw [e1, T.szL_append, T.szL_cons, e3]; omega
      rw [T.sz_eq, T.sz_eq t]
      show 1 + T.sz.szL (t.args.set i.toNat (putT u d p)) + c.sz = _
      omega
    · rw [if_neg hi] at h; cases h

/-- Every part is right. -/
def okP (ar : List Int) : T → Prop
  | ⟨v, f, args⟩ => partErr ar v f args.length = 0 ∧ okL args
  where
  okL : List T → Prop
    | [] => True
    | t :: ts => okP ar t ∧ okL ts
theorem okP_iff {ar : List Int} {t : T} : okP ar t ↔ partErr ar t.v t.f t.args.length = 0 ∧ okP.okL ar t.args := by cases t; exact Iff.rfl
theorem okL_cons {ar : List Int} {t : T} {ts : List T} : okP.okL ar (t :: ts) ↔ okP ar t ∧ okP.okL ar ts := Iff.rfl
theorem okL_mem {ar : List Int} {ts : List T} : okP.okL ar ts ↔ ∀ t, t ∈ ts → okP ar t := by
  induction ts with
  | nil => simp [okP.okL]
  | cons t ts ih => rw [okL_cons, ih]; simp

theorem look_ok {ar : List Int} : ∀ (n : Nat), (∀ (t : T) (s : Int), t.sz ≤ n → okP ar t → lookT (partStep ar) s t = (0, true)) ∧ (∀ (ts : List T) (s : Int), T.sz.szL ts ≤ n → okP.okL ar ts → ∃ s', lookT.lookL (partStep ar) s ts = (s', true) ∧ (ts ≠ [] → s' = 0)) := by
  intro n
  induction n with
  | zero =>
    refine ⟨fun t s hn => by have := t.sz_pos; omega, fun ts s hn _ => ?_⟩
    cases ts with
    | nil => exact ⟨s, rfl, fun h => absurd rfl h⟩
    | cons t ts => have := t.sz_pos; rw [T.szL_cons] at hn; omega
  | succ n ih =>
    have h1 : ∀ (t : T) (s : Int), t.sz ≤ n + 1 → okP ar t → lookT (partStep ar) s t = (0, true) := fun t s hn hok => by
      rw [T.sz_eq] at hn
      obtain ⟨hp, hl⟩ := okP_iff.1 hok
      obtain ⟨s', hs', _⟩ := ih.2 t.args s (by omega) hl
      rw [lookT_eq, hs']
      simp [partStep, hp]
    refine ⟨h1, fun ts => ?_⟩
    induction ts with
    | nil => intro s _ _; exact ⟨s, rfl, fun h => absurd rfl h⟩
    | cons t ts iht =>
      intro s hn hok
      rw [T.szL_cons] at hn
      obtain ⟨hp, hl⟩ := okL_cons.1 hok
      rw [lookL_cons, h1 t s (by omega) hp]
      obtain ⟨s', hs', h0⟩ := iht 0 (by omega) hl
      refine ⟨s', by simpa using hs', fun _ => ?_⟩
      cases ts with
      | nil => rw [lookL_nil] at hs'; simp at hs'; exact hs'.symm
      | cons a b => exact h0 (by simp)

theorem look_not {ar : List Int} : ∀ (n : Nat), (∀ (t : T) (s : Int), t.sz ≤ n → ((lookT (partStep ar) s t).2 = true → okP ar t) ∧ ((lookT (partStep ar) s t).2 = false → (lookT (partStep ar) s t).1 ≠ 0)) ∧
    (∀ (ts : List T) (s : Int), T.sz.szL ts ≤ n → ((lookT.lookL (partStep ar) s ts).2 = true → okP.okL ar ts) ∧ ((lookT.lookL (partStep ar) s ts).2 = false → (lookT.lookL (partStep ar) s ts).1 ≠ 0)) := by
  intro n
  induction n with
  | zero =>
    refine ⟨fun t s hn => by have := t.sz_pos; omega, fun ts s hn => ?_⟩
    cases ts with
    | nil => exact ⟨fun _ => trivial, fun h => by cases h⟩
    | cons t ts => have := t.sz_pos; rw [T.szL_cons] at hn; omega
  | succ n ih =>
    have h1 : ∀ (t : T) (s : Int), t.sz ≤ n + 1 → ((lookT (partStep ar) s t).2 = true → okP ar t) ∧ ((lookT (partStep ar) s t).2 = false → (lookT (partStep ar) s t).1 ≠ 0) := fun t s hn => by
      rw [T.sz_eq] at hn
      obtain ⟨h2, h3⟩ := ih.2 t.args s (by omega)
      rw [lookT_eq]
      by_cases h : (lookT.lookL (partStep ar) s t.args).2 = false
      · rw [if_pos h]
        exact ⟨fun h' => (by cases h'), fun _ => h3 h⟩
      · rw [if_neg h]
        have hl := h2 (by simpa using h)
        refine ⟨fun h' => okP_iff.2 ⟨by simpa [partStep] using h', hl⟩, fun h' => by simpa [partStep] using h'⟩
    refine ⟨h1, fun ts => ?_⟩
    induction ts with
    | nil => intro s _; exact ⟨fun _ => trivial, fun h => by cases h⟩
    | cons t ts iht =>
      intro s hn
      rw [T.szL_cons] at hn
      obtain ⟨h2, h3⟩ := h1 t s (by omega)
      obtain ⟨h4, h5⟩ := iht (lookT (partStep ar) s t).1 (by omega)
      rw [lookL_cons]
      by_cases h : (lookT (partStep ar) s t).2 = false
      · rw [if_pos h]
        exact ⟨fun h' => (by cases h'), fun _ => h3 h⟩
      · rw [if_neg h]
        exact ⟨fun h' => okL_cons.2 ⟨h2 (by simpa using h), h4 h'⟩, h5⟩

theorem termErr_iff {ar : List Int} {t : T} : termErr ar t = 0 ↔ t.sz ≤ 120 ∧ okP ar t := by
  rw [termErr]
  by_cases h : 120 < t.sz
  · rw [if_pos h]; constructor
    · intro h'; cases h'
    · intro h'; omega
  · rw [if_neg h]
    constructor
    · intro h'
      refine ⟨by omega, ?_⟩
      obtain ⟨h2, h3⟩ := (look_not (ar := ar) _).2 [t] 0 (Nat.le_refl _)
      rcases Bool.eq_false_or_eq_true (lookT.lookL (partStep ar) 0 [t]).2 with h4 | h4
      · exact (okL_cons.1 (h2 h4)).1
      · exact absurd h' (h3 h4)
    · intro h'
      obtain ⟨s', hs', h0⟩ := (look_ok (ar := ar) _).2 [t] 0 (Nat.le_refl _) (okL_cons.2 ⟨h'.2, trivial⟩)
      rw [hs', h0 (by simp)]

theorem allErr_iff {ar : List Int} {ts : List T} : allErr ar ts = 0 ↔ sigErr ar = 0 ∧ ∀ t, t ∈ ts → t.sz ≤ 120 ∧ okP ar t := by
  have h1 : termsErr ar ts = 0 ↔ ∀ t, t ∈ ts → t.sz ≤ 120 ∧ okP ar t := by
    induction ts with
    | nil => simp [termsErr]
    | cons t ts ih =>
      rw [termsErr]
      by_cases h : termErr ar t = 0
      · rw [if_pos h, ih]; simp [termErr_iff.1 h]
      · rw [if_neg h]
        constructor
        · intro h'; exact absurd h' h
        · intro h'; exact absurd (termErr_iff.2 (h' t (by simp))) h
  rw [allErr]
  by_cases hs : sigErr ar = 0
  · rw [if_pos hs, h1]; simp [hs]
  · rw [if_neg hs]; simp [hs]

theorem okP_put {ar : List Int} {u : T} (hu : okP ar u) : ∀ {p : List Int} {t c : T}, atT t p = some c → okP ar t → okP ar (putT u t p) := by
  intro p
  induction p with
  | nil => intro t c _ _; exact hu
  | cons i p ih =>
    intro t c h hok
    rw [atT] at h
    by_cases hi : 0 ≤ i ∧ i < t.args.length
    · rw [if_pos hi] at h
      obtain ⟨d, hd, hc⟩ := Option.bind_eq_some_iff.1 h
      obtain ⟨hp, hl⟩ := okP_iff.1 hok
      rw [putT_at hd]
      refine okP_iff.2 ⟨?_, okL_mem.2 fun x hx => ?_⟩
      · show partErr ar t.v t.f (t.args.set i.toNat (putT u d p)).length = 0
        rw [List.length_set]; exact hp
      · rcases List.mem_or_eq_of_mem_set hx with hx | rfl
        · exact okL_mem.1 hl x hx
        · exact ih hc (okL_mem.1 hl d (List.mem_of_getElem? hd))
    · rw [if_neg hi] at h; cases h

end Go.Proofs.YtbkedppkdhfpoabGreat

namespace Go.Proofs.YtbkedppkdhfpoabGreat

/-- Of the first arguments that are not the same, is that of the first greater? -/
def firstN (g : T → T → Bool) : List T → List T → Bool
  | a :: xs, b :: ys => if sameT a b then firstN g xs ys else g a b
  | _, _ => false
def gtN : Nat → T → T → Bool
  | 0, _, _ => false
  | n + 1, s, t =>
    if s.v ≠ 0 then false else if t.v ≠ 0 then standsT t.v s else
      if s.args.any (fun a => sameT a t || gtN n a t) then true else
        if decide (s.f < t.f) || t.args.any (fun b => !gtN n s b) then false else decide (t.f < s.f) || firstN (gtN n) s.args t.args
/-- s is greater than t. -/
def gt (s t : T) : Bool := gtN (s.sz + t.sz) s t

theorem firstN_congr {g h : T → T → Bool} : ∀ {xs ys : List T}, (∀ a b, a ∈ xs → b ∈ ys → g a b = h a b) → firstN g xs ys = firstN h xs ys := by
  intro xs
  induction xs with
  | nil => intro ys _; rfl
  | cons a xs ih =>
    intro ys hh
    cases ys with
    | nil => rfl
    | cons b ys =>
      show (if sameT a b then firstN g xs ys else g a b) = (if sameT a b then firstN h xs ys else h a b)
      rw [ih (fun x y hx hy => hh x y (List.mem_cons_of_mem _ hx) (List.mem_cons_of_mem _ hy)), hh a b List.mem_cons_self List.mem_cons_self]
theorem any_congr' {α : Type} {l : List α} {f g : α → Bool} (h : ∀ a, a ∈ l → f a = g a) : l.any f = l.any g := by
  induction l with
  | nil => rfl
  | cons a l ih => rw [List.any_cons, List.any_cons, h a List.mem_cons_self, ih (fun x hx => h x (List.mem_cons_of_mem _ hx))]
theorem arg_sz {s a : T} (h : a ∈ s.args) : a.sz < s.sz := by
  have := T.szL_mem h
  have := T.sz_eq s
  omega

theorem gtN_stable : ∀ (n m : Nat) (s t : T), s.sz + t.sz ≤ n → s.sz + t.sz ≤ m → gtN n s t = gtN m s t := by
  intro n
  induction n with
  | zero => intro m s t h; have := s.sz_pos; omega
  | succ n ih =>
    intro m s t h1 h2
    cases m with
    | zero => have := s.sz_pos; omega
    | succ m =>
      have e1 : s.args.any (fun a => sameT a t || gtN n a t) = s.args.any (fun a => sameT a t || gtN m a t) := any_congr' (fun a ha => by
        have := arg_sz ha
        rw [ih m a t (by omega) (by omega)])
      have e2 : t.args.any (fun b => !gtN n s b) = t.args.any (fun b => !gtN m s b) := any_congr' (fun b hb => by
        have := arg_sz hb
        rw [ih m s b (by omega) (by omega)])
      have e3 : firstN (gtN n) s.args t.args = firstN (gtN m) s.args t.args := firstN_congr (fun a b ha hb => by
        have := arg_sz ha
        have := arg_sz hb
        exact ih m a b (by omega) (by omega))
      rw [gtN, gtN, e1, e2, e3]

theorem gt_eq (s t : T) : gt s t = if s.v ≠ 0 then false else if t.v ≠ 0 then standsT t.v s else
      if s.args.any (fun a => sameT a t || gt a t) then true else
        if decide (s.f < t.f) || t.args.any (fun b => !gt s b) then false else decide (t.f < s.f) || firstN gt s.args t.args := by
  have hs := s.sz_pos
  obtain ⟨n, hn⟩ : ∃ n, s.sz + t.sz = n + 1 := ⟨s.sz + t.sz - 1, by omega⟩
  have e1 : s.args.any (fun a => sameT a t || gtN n a t) = s.args.any (fun a => sameT a t || gt a t) := any_congr' (fun a ha => by
    have := arg_sz ha
    rw [gt, gtN_stable n _ a t (by omega) (Nat.le_refl _)])
  have e2 : t.args.any (fun b => !gtN n s b) = t.args.any (fun b => !gt s b) := any_congr' (fun b hb => by
    have := arg_sz hb
    rw [gt, gtN_stable n _ s b (by omega) (Nat.le_refl _)])
  have e3 : firstN (gtN n) s.args t.args = firstN gt s.args t.args := firstN_congr (fun a b ha hb => by
    have := arg_sz ha
    have := arg_sz hb
    rw [gt]
    exact gtN_stable n _ a b (by omega) (Nat.le_refl _))
  rw [gt, hn, gtN, e1, e2, e3]

/-- Two terms that are right and have the same function have as many arguments. -/
theorem same_arity {ar : List Int} {s t : T} (hs : okP ar s) (ht : okP ar t) (h1 : s.v = 0) (h2 : t.v = 0) (hf : s.f = t.f) : s.args.length = t.args.length := by
  have a1 := (okP_iff.1 hs).1
  have a2 := (okP_iff.1 ht).1
  simp only [partErr] at a1 a2
  rw [if_neg (by simp [h1])] at a1
  rw [if_neg (by simp [h2])] at a2
  split at a1
  · cases a1
  · split at a1
    · cases a1
    · split at a2
      · cases a2
      · split at a2
        · cases a2
        · rename_i h3 h4 _ h5
          rw [hf] at h4
          omega

/-- All parts of a term, each ahead of those that stand in it. -/
def pre : T → List T
  | ⟨v, f, args⟩ => ⟨v, f, args⟩ :: preL args
  where
  preL : List T → List T
    | [] => []
    | t :: ts => pre t ++ preL ts
theorem pre_eq (t : T) : pre t = t :: pre.preL t.args := by cases t; rfl
theorem preL_cons (t : T) (ts : List T) : pre.preL (t :: ts) = pre t ++ pre.preL ts := rfl
theorem pre_length : ∀ (n : Nat), (∀ t : T, t.sz ≤ n → (pre t).length = t.sz) ∧ (∀ ts : List T, T.sz.szL ts ≤ n → (pre.preL ts).length = T.sz.szL ts) := by
  intro n
  induction n with
  | zero =>
    refine ⟨fun t h => by have := t.sz_pos; omega, fun ts h => ?_⟩
    cases ts with
    | nil => rfl
    | cons t ts => have := t.sz_pos; rw [T.szL_cons] at h; omega
  | succ n ih =>
    have h1 : ∀ t : T, t.sz ≤ n + 1 → (pre t).length = t.sz := fun t h => by
      rw [T.sz_eq] at h ⊢
      rw [pre_eq, List.length_cons, ih.2 _ (by omega)]; omega
    refine ⟨h1, fun ts => ?_⟩
    induction ts with
    | nil => intro _; rfl
    | cons t ts iht =>
      intro h
      rw [T.szL_cons] at h ⊢
      rw [preL_cons, List.length_append, h1 t (by omega), iht (by omega)]

/-- From number n on, the parts of these terms stand in the list of all. -/
def Subs (PS : List T) (n : Nat) (ts : List T) : Prop := ∃ rest, PS.drop n = pre.preL ts ++ rest
theorem Subs.at {PS : List T} {n : Nat} {ts : List T} {k : Nat} {t : T} (h : Subs PS n ts) (hk : ts[k]? = some t) : PS[n + T.sz.szL (ts.take k)]? = some t ∧ Subs PS (n + T.sz.szL (ts.take k) + 1) t.args ∧ n + T.sz.szL (ts.take k) < PS.length := by
  obtain ⟨rest, hr⟩ := h
  have hlt : k < ts.length := by
    rcases Nat.lt_or_ge k ts.length with h | h
    · exact h
    · rw [List.getElem?_eq_none h] at hk; cases hk
  have e : ts = ts.take k ++ t :: ts.drop (k + 1) := by
    rw [List.getElem?_eq_getElem hlt] at hk
    simp at hk
    rw [← hk, List.getElem_cons_drop, List.take_append_drop]
  have happ : ∀ a b : List T, pre.preL (a ++ b) = pre.preL a ++ pre.preL b := by
    intro a b
    induction a with
    | nil => rfl
    | cons x xs ih => rw [List.cons_append, preL_cons, preL_cons, ih, List.append_assoc]
  have hl := (pre_length _).2 (ts.take k) (Nat.le_refl _)
  have e2 : PS.drop (n + T.sz.szL (ts.take k)) = t :: (pre.preL t.args ++ (pre.preL (ts.drop (k + 1)) ++ rest)) := by
    rw [← List.drop_drop, hr]
    have h3 : pre.preL ts = pre.preL (ts.take k) ++ (pre t ++ pre.preL (ts.drop (k + 1))) := by
      rw [← preL_cons, ← happ, ← e]
    rw [h3, pre_eq, List.append_assoc, ← hl, List.drop_left]
    simp
  have e3 : PS[n + T.sz.szL (ts.take k)]? = some t := by
    have := congrArg List.head? e2
    rw [List.head?_drop] at this
    simpa using this
  refine ⟨e3, ⟨pre.preL (ts.drop (k + 1)) ++ rest, ?_⟩, ?_⟩
  · rw [← List.drop_drop, e2]; rfl
  · rcases Nat.lt_or_ge (n + T.sz.szL (ts.take k)) PS.length with h | h
    · exact h
    · rw [List.getElem?_eq_none h] at e3; cases e3

theorem ok_two {ar : List Int} {s t : T} (h : allErr ar [s, t] = 0) : s.sz ≤ 120 ∧ okP ar s ∧ t.sz ≤ 120 ∧ okP ar t := by
  have h1 := allErr_iff.1 h
  exact ⟨(h1.2 s (by simp)).1, (h1.2 s (by simp)).2, (h1.2 t (by simp)).1, (h1.2 t (by simp)).2⟩

end Go.Proofs.YtbkedppkdhfpoabGreat
