/- The program's Put, once more: what it answers is new memory. Inferences: what is put in. -/
import Derived.Deep.DeepCutAuto
import Derived.Deep.DrawnRows
import Derived.Deep.RegionHeld3
import Derived.Test.YtbkedppkdhfpoabGreatJoined19
namespace Go.Proofs.YtbkedppkdhfpoabGreat
open Go.RowKit

set_option maxRecDepth 100000 in
set_option maxHeartbeats 2000000 in
theorem Put_new (ar : List Int) (ga : Option Addr) (gcap : Nat) (t : T) (a : Option Addr) (cap : Nat) (place : List Int) (pa : Option Addr) (pcap : Nat) (u : T) (a2 : Option Addr) (cap2 : Nat) (w : World) (hg : Ints w ar ga) (hin : InL w t.args a) (hp : Ints w place pa)
    (hin2 : InL w u.args a2) (hl : place.length ≤ 9223372036854775807) :
    Calls Tryz.prog 181 #[.agg #[.slice ga ar.length gcap], .agg #[.int .i64 t.v, .int .i64 t.f, .slice a t.args.length cap], .slice pa place.length pcap, .agg #[.int .i64 u.v, .int .i64 u.f, .slice a2 u.args.length cap2]] w fun e w' =>
      GivesN (putSpec ar t place u) w.heap.size e w' ∧ Below w.heap.size w w' := by
  have Hg := hide (fun o1 o2 o3 o4 o5 => Ints_alloc o5 (Ints_alloc o4 (Ints_alloc o3 (Ints_alloc o2 (Ints_alloc o1 hg)))))
  have Hin := hide (fun o1 o2 o3 o4 e => InP_new2 (n := w.heap.size + 1 + 1 + 1 + 1) (cap := cap) (cap2 := cap2) e (by simp) trivial (InP_alloc o4 (InP_alloc o3 (InP_alloc o2 (InP_alloc o1 hin)))) (InP_alloc o4 (InP_alloc o3 (InP_alloc o2 (InP_alloc o1 hin2)))))
  go_enter Tryz.func181, Tryz.ntmps181
  go_wp2_with fail
  refine (check_any ar ga gcap [t, u] _ 2 _ (Hg.out _ _ _ _ _) (Hin.out _ _ _ _ _) (by simp)).mono ?_
  rintro e w1 ⟨rfl, hb1⟩
  have hbw : Below w.heap.size w w1 := (((((below1 _ _).alloc (by simp) _).alloc (by simp; omega) _).alloc (by simp; omega) _).alloc (by simp; omega) _).trans (hb1.mono (by simp; omega))
  have hz1 : w.heap.size + 5 ≤ w1.heap.size := by have := hb1.size; simp at this; omega
  have h3t : Three w1 (w.heap.size + 1) (.int .i64 t.v) (.int .i64 t.f) (.slice a t.args.length cap) := ((((Three.new _ (by simp)).alloc _).alloc _).alloc _).below hb1
  have h3u : Three w1 (w.heap.size + 1 + 1) (.int .i64 u.v) (.int .i64 u.f) (.slice a2 u.args.length cap2) := (((Three.new _ (by simp)).alloc _).alloc _).below hb1
  have h3r : Three w1 (w.heap.size + 1 + 1 + 1) (.int .i64 0) (.int .i64 0) (.slice none 0 0) := ((Three.new _ (by simp)).alloc _).below hb1
  clear hb1 Hg Hin
  by_cases hs : allErr ar [t, u] = 0
  · have hszt := sz_of_ok hs (t := t) (by simp)
    have hszu := sz_of_ok hs (t := u) (by simp)
    rw [hs]
    obtain ⟨c0, c1, c2, _, _, _⟩ := h3t
    have hspec : putSpec ar t place u = (match atT t place with | some c => if 120 < (t.sz : Int) - c.sz + u.sz then (zeroT, 2) else (putT u t place, 0) | none => (zeroT, 5)) := by rw [putSpec, if_pos hs] <;> cases atT t place <;> rfl
    have Hspec := hide hspec
    clear hspec
    go_wp2_with fail
    refine (find_any t a cap place pa pcap _ (Ints_below hbw hp) (InP_below hbw hin) hl).mono ?_
    rintro e w2 ⟨hfound, hb2⟩
    have h3r2 := h3r.below hb2
    have h3t2 := Three.below ⟨c0, c1, c2, by assumption, by assumption, by assumption⟩ hb2
    have h3u2 := h3u.below hb2
    have hz2 := hb2.size
    have hbw2 := hbw.trans (hb2.mono (by omega))
    rcases hfound with ⟨c, a1, cap1, hat, rfl, hin1⟩ | ⟨hat, rfl⟩
    · have husz := atT_sz hat
      have hsp2 : putSpec ar t place u = if 120 < (t.sz : Int) - c.sz + u.sz then (zeroT, 2) else (putT u t place, 0) := by rw [Hspec.out, hat]
      have Hsp2 := hide hsp2
      have Hat := hide hat
      clear hsp2 Hspec hat h3r h3u c0 c1 c2
      obtain ⟨d0, d1, d2, f0, f1, f2⟩ := h3r2
      obtain ⟨t0, t1, t2, _, _, _⟩ := h3t2
      obtain ⟨u0, u1, u2, _, _, _⟩ := h3u2
      have hz3 : w.heap.size + 1 + 1 + 1 < w2.heap.size := by omega
      have hz4 : w.heap.size + 1 + 1 < w2.heap.size := by omega
      have hz5 : w.heap.size + 1 < w2.heap.size := by omega
      have hinT := InP_below hbw2 hin
      have hinU := InP_below hbw2 hin2
      have hinC := InP_below hb2 hin1
      have hHT := hide (fun (o : Obj) (w3 : World) (hb : Hid (Below (w2.heap.size + 1) (w2.alloc o) w3)) => (Three.alloc ⟨t0, t1, t2, by assumption, by assumption, by assumption⟩ o).same (hb.out.block _ (by omega)))
      have hHU := hide (fun (o : Obj) (w3 : World) (hb : Hid (Below (w2.heap.size + 1) (w2.alloc o) w3)) => (Three.alloc ⟨u0, u1, u2, by assumption, by assumption, by assumption⟩ o).same (hb.out.block _ (by omega)))
      have hHC := hide (fun (e : TypeId) (w3 : World) (hb : Hid (Below (w2.heap.size + 1) (w2.alloc (.cells #[.int .i64 c.v, .int .i64 c.f, .slice a1 c.args.length cap1] e)) w3)) => (Three.new (w := w2) (v0 := .int .i64 c.v) (v1 := .int .i64 c.f) (v2 := .slice a1 c.args.length cap1) e rfl).same (hb.out.block _ (by omega)))
      have hHR := hide (fun (o : Obj) (w3 : World) (hb : Hid (Below (w2.heap.size + 1) (w2.alloc o) w3)) => (Three.alloc ⟨d0, d1, d2, f0, f1, f2⟩ o).same (hb.out.block _ (by omega)))
      have HP := hide (Ints_below hbw2 hp)
      have hS := hide (fun (e : TypeId) (w' : World) (hb : Below (w2.heap.size + 1) (w2.alloc (.cells #[.int .i64 c.v, .int .i64 c.f, .slice a1 c.args.length cap1] e)) w') => (show w'.cell? ⟨w.heap.size + 1, 0, none⟩ = some (.int .i64 t.v) ∧ w'.cell? ⟨w.heap.size + 1, 1, none⟩ = some (.int .i64 t.f) ∧ w'.cell? ⟨w.heap.size + 1, 2, none⟩ = some (.slice a t.args.length cap) ∧ w'.cell? ⟨w.heap.size + 1 + 1, 0, none⟩ = some (.int .i64 u.v) ∧ w'.cell? ⟨w.heap.size + 1 + 1, 1, none⟩ = some (.int .i64 u.f) ∧ w'.cell? ⟨w.heap.size + 1 + 1, 2, none⟩ = some (.slice a2 u.args.length cap2) ∧ w'.cell? ⟨w2.heap.size, 0, none⟩ = some (.int .i64 c.v) ∧ w'.cell? ⟨w2.heap.size, 1, none⟩ = some (.int .i64 c.f) ∧ w'.cell? ⟨w2.heap.size, 2, none⟩ = some (.slice a1 c.args.length cap1) from
        ⟨(hHT.out _ w' hb).c0, (hHT.out _ w' hb).c1, (hHT.out _ w' hb).c2, (hHU.out _ w' hb).c0, (hHU.out _ w' hb).c1, (hHU.out _ w' hb).c2, (hHC.out _ w' hb).c0, (hHC.out _ w' hb).c1, (hHC.out _ w' hb).c2⟩))
      clear hbw hp hin hin2 hin1 hg hb2
      have husz2 : c.sz ≤ 120 := by omega
      have Hw : Hid (IntKind.i64.wrap (IntKind.i64.wrap ((t.sz : Int) - c.sz) + u.sz) = (t.sz : Int) - c.sz + u.sz) := by
        rw [wrap_ok ((t.sz : Int) - c.sz) (by omega) (by omega), wrap_ok ((t.sz : Int) - c.sz + u.sz) (by omega) (by omega)]; rfl
      go_upto_region 7 with fail
      go_cut [42] (fun v wc => v = .bool (decide (120 < (t.sz : Int) - c.sz + u.sz)) ∧ Hid (Below (w2.heap.size + 1) (w2.alloc (.cells #[.int .i64 c.v, .int .i64 c.f, .slice a1 c.args.length cap1] 77)) wc))
      case first =>
        go_region_held3 (fun w' => w'.cell? ⟨w.heap.size + 1, 0, none⟩ = some (.int .i64 t.v) ∧ w'.cell? ⟨w.heap.size + 1, 1, none⟩ = some (.int .i64 t.f) ∧ w'.cell? ⟨w.heap.size + 1, 2, none⟩ = some (.slice a t.args.length cap) ∧ w'.cell? ⟨w.heap.size + 1 + 1, 0, none⟩ = some (.int .i64 u.v) ∧ w'.cell? ⟨w.heap.size + 1 + 1, 1, none⟩ = some (.int .i64 u.f) ∧ w'.cell? ⟨w.heap.size + 1 + 1, 2, none⟩ = some (.slice a2 u.args.length cap2) ∧ w'.cell? ⟨w2.heap.size, 0, none⟩ = some (.int .i64 c.v) ∧ w'.cell? ⟨w2.heap.size, 1, none⟩ = some (.int .i64 c.f) ∧ w'.cell? ⟨w2.heap.size, 2, none⟩ = some (.slice a1 c.args.length cap1)) ((first | (refine hS.out 77 _ ?_; repeat' (first | with_reducible exact Hid.out ‹Hid (Below _ _ _)› | with_reducible exact Below.refl _ _ | (with_reducible refine Below.drew ?_) | (refine Below.alloc ?_ ?_ _; rotate_left; focus (first | omega | (simp; omega) | (simp; done))))) | go_keep)) ((
          go_at_call 229
          first
            | (refine (size_one t _ _ ?_ ?_).mono ?_; (focus omega); (focus ((repeat' (first | assumption | refine InP_drew ?_ | (refine InP_new1 _ ?_ trivial ?_; focus (first | rfl | (simp; done))) | refine InP_alloc _ ?_ | refine InP_below (by assumption) ?_)); done)))
            | (refine (size_one c _ _ ?_ ?_).mono ?_; (focus omega); (focus ((repeat' (first | assumption | refine InP_drew ?_ | (refine InP_new1 _ ?_ trivial ?_; focus (first | rfl | (simp; done))) | refine InP_alloc _ ?_ | refine InP_below (by assumption) ?_)); done)))
            | (refine (size_one u _ _ ?_ ?_).mono ?_; (focus omega); (focus ((repeat' (first | assumption | refine InP_drew ?_ | (refine InP_new1 _ ?_ trivial ?_; focus (first | rfl | (simp; done))) | refine InP_alloc _ ?_ | refine InP_below (by assumption) ?_)); done)))
          rintro e w3 ⟨rfl, hb3⟩
          have Hbb : Hid (Below (w2.heap.size + 1) (w2.alloc (.cells #[.int .i64 c.v, .int .i64 c.f, .slice a1 c.args.length cap1] 77)) w3) := by
            refine Below.trans (b := _) ?_ (hb3.mono ?_)
            · repeat' (first | with_reducible exact Hid.out ‹Hid (Below _ _ _)› | with_reducible exact Below.refl _ _ | (with_reducible refine Below.drew ?_) | (refine Below.alloc ?_ ?_ _; rotate_left; focus (first | omega | (simp; omega) | (simp; done))))
            · first | omega | (simp; omega) | (simp; done)
          have hsz3 := Hbb.out.size
          have hsz4 := hb3.size
          simp at hsz3 hsz4
          have hq1 : w.heap.size + 1 < w3.heap.size := by omega
          have hq2 : w.heap.size + 1 + 1 < w3.heap.size := by omega
          have hq3 : w2.heap.size < w3.heap.size := by omega
          obtain ⟨_, _, _, _, _, _⟩ := hHT.out _ _ Hbb
          obtain ⟨_, _, _, _, _, _⟩ := hHU.out _ _ Hbb
          obtain ⟨_, _, _, _, _, _⟩ := hHC.out _ _ Hbb))
        all_goals (go_wp2_with fail; go_meet; exact ⟨by rw [Hw.out], Hbb⟩)
      case rest =>
        obtain ⟨rfl, HB⟩ := hcut
        have hbb : Below w2.heap.size w2 wc := (below1 _ _).trans (HB.out.mono (by omega))
        have hzc : w2.heap.size + 1 ≤ wc.heap.size := by have := HB.out.size; simp at this; omega
        have hbf : Below w.heap.size w wc := hbw2.trans (hbb.mono (by omega))
        have h3 := hHR.out _ _ HB
        obtain ⟨x0, x1, x2, g0, g1, g2⟩ := h3
        by_cases hbig : 120 < (t.sz : Int) - c.sz + u.sz
        · have hsp3 : putSpec ar t place u = (zeroT, 2) := by rw [Hsp2.out, if_pos hbig]
          have Hsp3 := hide hsp3
          have hd : decide (120 < (t.sz : Int) - c.sz + u.sz) = true := by simpa using hbig
          rw [hd]
          clear hsp3 Hsp2 hS hHT hHU hHC hHR hbig
          go_wp2_with fail
          exact bodyPost_ret (v := .tuple #[.agg #[.int .i64 0, .int .i64 0, .slice none 0 0], .int .i64 2]) (by simp [results, Tryz.results181, go_sem, x0, x1, x2]) rfl
            ⟨by rw [Hsp3.out]; exact givesN_zero 2 _ _, below_set3 hbf (by omega) _ _ _⟩
        · have hsp3 : putSpec ar t place u = (putT u t place, 0) := by rw [Hsp2.out, if_neg hbig]
          have Hsp3 := hide hsp3
          have hd : decide (120 < (t.sz : Int) - c.sz + u.sz) = false := by simpa using hbig
          rw [hd]
          obtain ⟨y0, y1, y2, _, _, _⟩ := hHT.out _ _ HB
          obtain ⟨z0, z1, z2, _, _, _⟩ := hHU.out _ _ HB
          have Hpl := hide (Ints_below hbb HP.out)
          have HiT := hide (InP_below hbb hinT)
          have HiU := hide (InP_below hbb hinU)
          clear hsp3 Hsp2 hS hHT hHU hHC hHR hbig hinT hinU hinC
          go_wp2_with fail
          refine (put_any t a cap place pa pcap u a2 cap2 _ c Hpl.out HiT.out HiU.out hl (by omega) (by omega) Hat.out).mono ?_
          rintro e w4 ⟨a3, cap3, rfl, hin4, hb4⟩
          have h34 : Three w4 (w.heap.size + 1 + 1 + 1) (.int .i64 0) (.int .i64 0) (.slice none 0 0) := Three.below ⟨x0, x1, x2, g0, g1, g2⟩ hb4
          obtain ⟨q0, q1, q2, k0, k1, k2⟩ := h34
          have hbf4 : Below w.heap.size w w4 := hbf.trans (hb4.mono (by omega))
          go_wp2_with fail
          exact bodyPost_ret (v := .tuple #[.agg #[.int .i64 (putT u t place).v, .int .i64 (putT u t place).f, .slice a3 (putT u t place).args.length cap3], .int .i64 0]) (by simp [results, Tryz.results181, go_sem, q0, q1, q2]) rfl
            ⟨by rw [Hsp3.out]; exact ⟨a3, cap3, rfl, InP_imp (fun k hk => by omega) (InP_same (fun k hk _ => set3_block (by omega)) hin4)⟩, below_set3 hbf4 (by omega) _ _ _⟩
    · have hsp2 : putSpec ar t place u = (zeroT, 5) := by rw [Hspec.out, hat]
      have Hsp2 := hide hsp2
      clear hsp2 Hspec hat h3r
      obtain ⟨d0, d1, d2, f0, f1, f2⟩ := h3r2
      have hz3 : w.heap.size + 1 + 1 + 1 < w2.heap.size := by omega
      go_wp2_with fail
      exact bodyPost_ret (v := .tuple #[.agg #[.int .i64 0, .int .i64 0, .slice none 0 0], .int .i64 5]) (by simp [results, Tryz.results181, go_sem, d0, d1, d2, hz3]) rfl
        ⟨by rw [Hsp2.out]; exact givesN_zero 5 _ _, (below_set3 hbw2 (by omega) _ _ _).alloc (by rw [set3_size]; omega) _⟩
  · have hs1 : (allErr ar [t, u] != 0) = true := by simpa using hs
    have hspec : putSpec ar t place u = (zeroT, allErr ar [t, u]) := by rw [putSpec, if_neg hs]
    have Hspec := hide hspec
    clear hspec hs
    obtain ⟨d0, d1, d2, f0, f1, f2⟩ := h3r
    generalize allErr ar [t, u] = err at *
    go_wp2_with fail
    exact bodyPost_ret (v := .tuple #[.agg #[.int .i64 0, .int .i64 0, .slice none 0 0], .int .i64 err]) (by simp [results, Tryz.results181, go_sem, d0, d1, d2]) rfl
      ⟨by rw [Hspec.out]; exact givesN_zero err _ _, below_set3 hbw (by omega) _ _ _⟩

end Go.Proofs.YtbkedppkdhfpoabGreat

namespace Go.Proofs.YtbkedppkdhfpoabGreat
open Go.RowKit

theorem RowL_below {w w' : World} {v : Value} {c : List Lit} {xs : List Value} (hb : Below w.heap.size w w') (h : RowL w v c xs) : RowL w' v c xs :=
  ⟨SrcL_below hb h.src, KidsL_mono (fun k hk hlt => ⟨Nat.lt_of_lt_of_le hk hb.size, hb.block k hlt⟩) h.kid⟩
theorem Binds_set3 {p : Nat → Prop} {w : World} {bs : List (Int × T)} {a : Option Addr} {b off : Nat} {u0 u1 u2 : Value} (hp : ∀ k, p k → k ≠ b) (h : Binds p w bs a) : Binds p (set3 w b off u0 u1 u2) bs a :=
  Binds_mono (fun k o v hk hv => ⟨hk, by rw [World.cell?_of_block (w := w) (a := ⟨k, o, none⟩) (set3_block (hp k hk))]; exact hv⟩) h
theorem withF_len {c : List Lit} {k : Nat} {tu : Bool} {u : T} : (withF c k tu u).length = c.length := by
  rw [withF]; split
  · rw [List.length_set]
  · rfl
theorem withF_err {ar : List Int} {c : List Lit} {k : Nat} {tu : Bool} {u : T} (hc : ∀ x, x ∈ c → termErr ar x.2.1 = 0 ∧ termErr ar x.2.2 = 0) (hu : termErr ar u = 0) : ∀ x, x ∈ withF c k tu u → termErr ar x.2.1 = 0 ∧ termErr ar x.2.2 = 0 := by
  intro x hx
  rw [withF] at hx
  split at hx
  · rename_i y hy
    have hym := hc y (List.mem_of_getElem? hy)
    rcases List.mem_or_eq_of_mem_set hx with h | h
    · exact hc x h
    · rw [h]
      cases tu
      · exact ⟨hu, hym.2⟩
      · exact ⟨hym.1, hu⟩
  · exact hc x hx
theorem putI_sz {u : T} : ∀ {p : List Int} {t c : T}, atT t p = some c → (putT u t p).sz + c.sz = t.sz + u.sz := by
  intro p
  induction p with
  | nil =>
    intro t c h
    simp only [atT, Option.some.injEq] at h
    subst h
    show u.sz + t.sz = _
    omega
  | cons i p ih =>
    intro t c h
    rw [atT] at h
    by_cases hi : 0 ≤ i ∧ i < t.args.length
    · rw [if_pos hi] at h
      obtain ⟨d, hd, hc⟩ := Option.bind_eq_some_iff.1 h
      rw [putT_at hd]
      have hlt : i.toNat < t.args.length := by omega
      have h1 := ih hc
      have h2 : T.sz.szL (t.args.set i.toNat (putT u d p)) + d.sz = T.sz.szL t.args + (putT u d p).sz := by
        have e1 : t.args.set i.toNat (putT u d p) = t.args.take i.toNat ++ putT u d p :: t.args.drop (i.toNat + 1) := List.set_eq_take_append_cons_drop.trans (by rw [if_pos hlt])
        have e2 : t.args = t.args.take i.toNat ++ d :: t.args.drop (i.toNat + 1) := by
          have hd2 : t.args[i.toNat] = d := by
            rw [List.getElem?_eq_getElem hlt] at hd
            exact Option.some.inj hd
          rw [← hd2, List.getElem_cons_drop, List.take_append_drop]
        have e3 : T.sz.szL t.args = T.sz.szL (t.args.take i.toNat) + (d.sz + T.sz.szL (t.args.drop (i.toNat + 1))) := by
          rw [← T.szL_cons, ← T.szL_append, ← e2]
        rw [e1, T.szL_append, T.szL_cons, e3]; omega
      rw [T.sz_eq, T.sz_eq t]
      show 1 + T.sz.szL (t.args.set i.toNat (putT u d p)) + c.sz = _
      omega
    · rw [if_neg hi] at h; cases h
theorem okP_putI {ar : List Int} {u : T} (hu : okP ar u) : ∀ {p : List Int} {t c : T}, atT t p = some c → okP ar t → okP ar (putT u t p) := by
  intro p
  induction p with
  | nil => intro t c _ _; exact hu
  | cons i p ih =>
    intro t c h hok
    rw [atT] at h
    by_cases hi : 0 ≤ i ∧ i < t.args.length
    · rw [if_pos hi] at h
      obtain ⟨d, hd, hc⟩ := Option.bind_eq_some_iff.1 h
      obtain ⟨hp, hl⟩ := okP_iff.1 hok
      rw [putT_at hd]
      refine okP_iff.2 ⟨?_, okL_mem.2 fun x hx => ?_⟩
      · show partErr ar t.v t.f (t.args.set i.toNat (putT u d p)).length = 0
        rw [List.length_set]; exact hp
      · rcases List.mem_or_eq_of_mem_set hx with hx | rfl
        · exact okL_mem.1 hl x hx
        · exact ih hc (okL_mem.1 hl d (List.mem_of_getElem? hd))
    · rw [if_neg hi] at h; cases h
theorem put_err {ar : List Int} {t u c : T} {p : List Int} (hc : atT t p = some c) (h : (putSpec ar t p u).2 = 0) : termErr ar (putSpec ar t p u).1 = 0 := by
  rw [putSpec] at h ⊢
  by_cases h1 : allErr ar [t, u] = 0
  · rw [if_pos h1, hc] at h ⊢
    simp only at h ⊢
    split at h
    · cases h
    · rename_i h2
      rw [if_neg h2]
      have h3 := putI_sz (u := u) hc
      obtain ⟨ht, hu⟩ : okP ar t ∧ okP ar u := by
        rw [allErr] at h1
        split at h1
        · rw [termsErr, termsErr, termsErr] at h1
          split at h1
          · rename_i e1
            split at h1
            · rename_i e2; exact ⟨(termErr_iff.1 e1).2, (termErr_iff.1 e2).2⟩
            · rename_i e2; exact absurd h1 e2
          · rename_i e1; exact absurd h1 e1
        · rename_i e1; exact absurd h1 e1
      exact termErr_iff.2 ⟨by simp only; omega, okP_putI hu hc ht⟩
  · rw [if_neg h1] at h; exact absurd h h1

attribute [local go_sem ↓] Go.wp_at_zero Go.wp_at_succ
set_option maxRecDepth 100000 in
set_option maxHeartbeats 1000000 in
theorem inferPut_any (ar : List Int) (ga : Option Addr) (gcap : Nat) (c : List Lit) (ca : Option Addr) (cc : Nat) (d : List Lit) (da : Option Addr) (dc : Nat) (i : Inf) (pa : Option Addr) (pc : Nat) (k m : Nat) (x y : Lit) (p : T) (w : World) (hs : sigErr ar = 0) (hcl : c.length ≤ 400) (hdl : d.length ≤ 400) (htc : ∀ x, x ∈ c → termErr ar x.2.1 = 0 ∧ termErr ar x.2.2 = 0) (htd : ∀ x, x ∈ d → termErr ar x.2.1 = 0 ∧ termErr ar x.2.2 = 0) (hik : i.la = (k : Int)) (him : i.ra = (m : Int)) (hx : c[k]? = some x) (hy : d[m]? = some y)
    (hat : atT (side1 y i.rt) i.place = some p) (hpl : i.place.length ≤ 100000) (hg : Ints w ar ga) (hp : Ints w i.place pa) (hc : LitsP w c ca) (hd : LitsP w d da) :
    Calls Tryz.prog 140 #[.agg #[.slice ga ar.length gcap], .slice ca c.length cc, .slice da d.length dc, infV i pa pc] w fun e w' => GivesC (infPut ar c d k m i.rt i.place p (side1 x i.lt) (side2 x i.lt) (side1 y i.rt) (side2 y i.rt)) w.heap.size e w' ∧ Below w.heap.size w w' := by
  have hlt := (List.getElem?_eq_some_iff.1 hx).1
  have hltm := (List.getElem?_eq_some_iff.1 hy).1
  obtain ⟨b, off, rfl⟩ := LitsP_some hc (by omega)
  obtain ⟨b2, off2, rfl⟩ := LitsP_some hd (by omega)
  obtain ⟨W1, hW1⟩ : ∃ W1, W1 = (w.alloc (.cells #[.slice ga ar.length gcap] 24)).alloc (.cells #[.int .i64 i.kind, .int .i64 i.left, .int .i64 i.right, .int .i64 i.la, .int .i64 i.ra, .bool i.lt, .bool i.rt, .slice pa i.place.length pc] 47) := ⟨_, rfl⟩
  have hbW : Below w.heap.size w W1 := by rw [hW1]; exact below2 _ _ _
  have hcg : W1.cell? ⟨w.heap.size, 0, none⟩ = some (.slice ga ar.length gcap) := by rw [hW1, cell_alloc_lt (by simp)]; exact cell_new 0 rfl
  have h8 : I8 W1 (w.heap.size + 1) i pa pc := by rw [hW1]; exact I8.new _ (by simp)
  obtain ⟨a1, c1, a2, c2, k0, k1, k2, k3, k4, k5, k6, i1, i2⟩ := LitsP_at (LitsP_below hbW hc) hx
  obtain ⟨a3, c3, a4, c4, j0, j1, j2, j3, j4, j5, j6, i3, i4⟩ := LitsP_at (LitsP_below hbW hd) hy
  have h83 : W1.cell? ⟨w.heap.size + 1, 3, none⟩ = some (.int .i64 (k : Int)) := by rw [← hik]; exact h8.e3
  have h84 : W1.cell? ⟨w.heap.size + 1, 4, none⟩ = some (.int .i64 (m : Int)) := by rw [← him]; exact h8.e4
  have h85 := h8.e5
  have h86 := h8.e6
  have hSk := hide (fun (w' : World) (hb : Below W1.heap.size W1 w') => (show w'.cell? ⟨w.heap.size + 1, 3, none⟩ = some (.int .i64 (k : Int)) ∧ w'.cell? ⟨w.heap.size + 1, 5, none⟩ = some (.bool i.lt) ∧ w'.cell? ⟨b, off + k * 7, none⟩ = some (.bool x.1) ∧ w'.cell? ⟨b, off + k * 7 + 1, none⟩ = some (.int .i64 x.2.1.v) ∧ w'.cell? ⟨b, off + k * 7 + 2, none⟩ = some (.int .i64 x.2.1.f) ∧ w'.cell? ⟨b, off + k * 7 + 3, none⟩ = some (.slice a1 x.2.1.args.length c1) ∧ w'.cell? ⟨b, off + k * 7 + 4, none⟩ = some (.int .i64 x.2.2.v) ∧ w'.cell? ⟨b, off + k * 7 + 5, none⟩ = some (.int .i64 x.2.2.f) ∧ w'.cell? ⟨b, off + k * 7 + 6, none⟩ = some (.slice a2 x.2.2.args.length c2) from
    ⟨cellB hb h83, cellB hb h85, cellB hb k0, cellB hb k1, cellB hb k2, cellB hb k3, cellB hb k4, cellB hb k5, cellB hb k6⟩))
  have hSm := hide (fun (w' : World) (hb : Below W1.heap.size W1 w') => (show w'.cell? ⟨w.heap.size + 1, 4, none⟩ = some (.int .i64 (m : Int)) ∧ w'.cell? ⟨w.heap.size + 1, 6, none⟩ = some (.bool i.rt) ∧ w'.cell? ⟨b2, off2 + m * 7, none⟩ = some (.bool y.1) ∧ w'.cell? ⟨b2, off2 + m * 7 + 1, none⟩ = some (.int .i64 y.2.1.v) ∧ w'.cell? ⟨b2, off2 + m * 7 + 2, none⟩ = some (.int .i64 y.2.1.f) ∧ w'.cell? ⟨b2, off2 + m * 7 + 3, none⟩ = some (.slice a3 y.2.1.args.length c3) ∧ w'.cell? ⟨b2, off2 + m * 7 + 4, none⟩ = some (.int .i64 y.2.2.v) ∧ w'.cell? ⟨b2, off2 + m * 7 + 5, none⟩ = some (.int .i64 y.2.2.f) ∧ w'.cell? ⟨b2, off2 + m * 7 + 6, none⟩ = some (.slice a4 y.2.2.args.length c4) from
    ⟨cellB hb h84, cellB hb h86, cellB hb j0, cellB hb j1, cellB hb j2, cellB hb j3, cellB hb j4, cellB hb j5, cellB hb j6⟩))
  have hkI : (k : Int) < c.length := by omega
  have hk0 : (0 : Int) ≤ k := by omega
  have hmI : (m : Int) < d.length := by omega
  have hm0 : (0 : Int) ≤ m := by omega
  have HSx := hide (fun (w' : World) => sides_any x a1 c1 a2 c2 i.lt w')
  have HSy := hide (fun (w' : World) => sides_any y a3 c3 a4 c4 i.rt w')
  have HW1 := hide hW1
  have HbW := hide hbW
  have Hcg := hide hcg
  have H83 := hide h83
  have HI8 := hide h8
  have Hik := hide hik
  have HWF := hide (fun (u' : T) (ua' : Option Addr) (uc' : Nat) (w' : World) (hb : Below w.heap.size w w') (hu : InL w' u'.args ua') => withFirst_any d (some ⟨b2, off2, none⟩) dc m i pa pc u' ua' uc' w' hltm him (by omega) (LitsP_below hb hd) hu)
  obtain ⟨s, hs1⟩ : ∃ s, s = side1 x i.lt := ⟨_, rfl⟩
  obtain ⟨t, ht1⟩ : ∃ t, t = side2 x i.lt := ⟨_, rfl⟩
  obtain ⟨u, hu1⟩ : ∃ u, u = side1 y i.rt := ⟨_, rfl⟩
  obtain ⟨v, hv1⟩ : ∃ v, v = side2 y i.rt := ⟨_, rfl⟩
  obtain ⟨sa, hsa⟩ : ∃ sa, sa = if i.lt then a2 else a1 := ⟨_, rfl⟩
  obtain ⟨sc, hsc⟩ : ∃ sc, sc = if i.lt then c2 else c1 := ⟨_, rfl⟩
  obtain ⟨ta, hta⟩ : ∃ ta, ta = if i.lt then a1 else a2 := ⟨_, rfl⟩
  obtain ⟨tc, htc1⟩ : ∃ tc, tc = if i.lt then c1 else c2 := ⟨_, rfl⟩
  obtain ⟨ua, hua⟩ : ∃ ua, ua = if i.rt then a4 else a3 := ⟨_, rfl⟩
  obtain ⟨uc, huc⟩ : ∃ uc, uc = if i.rt then c4 else c3 := ⟨_, rfl⟩
  obtain ⟨va, hva⟩ : ∃ va, va = if i.rt then a3 else a4 := ⟨_, rfl⟩
  obtain ⟨vc, hvc⟩ : ∃ vc, vc = if i.rt then c3 else c4 := ⟨_, rfl⟩
  rw [← hs1, ← ht1, ← hsa, ← hsc, ← hta, ← htc1] at HSx
  rw [← hu1, ← hv1, ← hua, ← huc, ← hva, ← hvc] at HSy
  rw [← hs1, ← ht1, ← hu1, ← hv1]
  rw [← hu1] at hat
  have js : InL W1 s.args sa ∧ InL W1 t.args ta := by rw [hs1, hsa, ht1, hta]; exact side_in _ i1 i2
  have ju : InL W1 u.args ua ∧ InL W1 v.args va := by rw [hu1, hua, hv1, hva]; exact side_in _ i3 i4
  have ts : termErr ar s = 0 ∧ termErr ar t = 0 := by rw [hs1, ht1]; exact side1_mem _ (htc x (List.mem_of_getElem? hx))
  have tu : termErr ar u = 0 ∧ termErr ar v = 0 := by rw [hu1, hv1]; exact side1_mem _ (htd y (List.mem_of_getElem? hy))
  have Hjs := hide js
  have Hju := hide ju
  have Hts := hide ts
  have Htu := hide tu
  have Hat := hide hat
  have Htc := hide htc
  have Htd := hide htd
  clear hs1 ht1 hu1 hv1 hsa hsc hta htc1 hua huc hva hvc js ju ts tu hat htc htd
  clear hW1 hcg h8 h83 h84 h85 h86 k0 k1 k2 k3 k4 k5 k6 j0 j1 j2 j3 j4 j5 j6 hik him
  go_enter Tryz.func140, Tryz.ntmps140
  go_upto_region 1 with fail
  rw [← HW1.out]
  have hL := hSk.out
  have b0 := fun (w' : World) (hb : Below W1.heap.size W1 w') => (hL w' hb).1
  have b1 := fun (w' : World) (hb : Below W1.heap.size W1 w') => (hL w' hb).2.1
  have b2 := fun (w' : World) (hb : Below W1.heap.size W1 w') => (hL w' hb).2.2.1
  have b3 := fun (w' : World) (hb : Below W1.heap.size W1 w') => (hL w' hb).2.2.2.1
  have b4 := fun (w' : World) (hb : Below W1.heap.size W1 w') => (hL w' hb).2.2.2.2.1
  have b5 := fun (w' : World) (hb : Below W1.heap.size W1 w') => (hL w' hb).2.2.2.2.2.1
  have b6 := fun (w' : World) (hb : Below W1.heap.size W1 w') => (hL w' hb).2.2.2.2.2.2.1
  have b7 := fun (w' : World) (hb : Below W1.heap.size W1 w') => (hL w' hb).2.2.2.2.2.2.2.1
  have b8 := fun (w' : World) (hb : Below W1.heap.size W1 w') => (hL w' hb).2.2.2.2.2.2.2.2
  have hbr := Below.refl W1.heap.size W1
  clear hL
  go_cut [10, 11] (fun p q wc => ∃ Bp Bq, p = .pointer (some ⟨Bp, 0, none⟩) ∧ q = .pointer (some ⟨Bq, 0, none⟩) ∧ Hid (TwoV W1 wc Bp Bq (.int .i64 s.v) (.int .i64 s.f) (.slice sa s.args.length sc) (.int .i64 t.v) (.int .i64 t.f) (.slice ta t.args.length tc)))
  case first =>
    go_region_held3 (fun w' => Below W1.heap.size W1 w') ((first | with_reducible exact HK2.out _ _ | with_reducible exact HK1.out _ | ((repeat' (first | with_reducible exact HbA.out | with_reducible exact HK1.out _ | with_reducible exact HK2.out _ _ | with_reducible exact Below.refl _ _ | (with_reducible refine Below.drew ?_) | (with_reducible refine Below.setCell ?_ ?_ _; rotate_left; focus (first | exact Nat.le_refl _ | exact hzA | exact hn3 | (show W1.heap.size ≤ _; omega) | (simp; omega))) | (refine Below.alloc ?_ ?_ _; rotate_left; focus (first | omega | (simp; omega) | (simp; done))))); done) | go_keep)) ((first
        | (go_at_call 134
           with_reducible refine (HSx.out _).mono ?_
           rintro e wA ⟨rfl, hbA⟩
           have HbA : Hid (Below W1.heap.size W1 wA) := by
             refine Below.trans (b := _) ?_ (hbA.mono ?_)
             · repeat' (first | with_reducible exact Below.refl _ _ | (with_reducible refine Below.drew ?_) | (refine Below.alloc ?_ ?_ _; rotate_left; focus (first | omega | (simp; omega) | (simp; done))))
             · first | omega | (simp; omega) | (simp; done)
           have HK1 := hide (fun o => HbA.out.trans ((below1 wA o).mono HbA.out.size))
           have HK2 := hide (fun o1 o2 => HbA.out.trans ((below2 wA o1 o2).mono HbA.out.size))
           have hzA := HbA.out.size
           first
             | (have h3a := three_at hbA (heap_alloc_old W1 _ _)
                have h3b := three_at hbA (heap_alloc_two W1 _ _)
                have hz9 : W1.heap.size + 1 < wA.heap.size := by
                  have h9 := hbA.size
                  simp at h9
                  omega
                have hn1 : W1.heap.size ≠ W1.heap.size + 1 := by omega
                have hn2 : W1.heap.size + 1 ≠ W1.heap.size := by omega
                have hn3 : W1.heap.size ≤ W1.heap.size + 1 := by omega
                generalize hH2 : W1.heap.size + 1 = H2 at h3b hz9 hn1 hn2 hn3 ⊢
                have H3a := hide h3a
                have H3b := hide h3b
                obtain ⟨_, _, _, _, _, _⟩ := h3a
                obtain ⟨_, _, _, _, _, _⟩ := h3b
                clear hH2)
             | (have h3a := three_at hbA (heap_alloc_self W1 _)
                have h3b := fun o => h3a.alloc o
                have r0 := fun o => (h3b o).c0
                have r1 := fun o => (h3b o).c1
                have r2 := fun o => (h3b o).c2
                have r3 := fun o => (h3b o).f0
                have r4 := fun o => (h3b o).f1
                have r5 := fun o => (h3b o).f2
                have hz9 : W1.heap.size < wA.heap.size := by
                  have h9 := hbA.size
                  simp at h9
                  omega
                have hn1 : W1.heap.size ≠ wA.heap.size := by omega
                have hn2 : wA.heap.size ≠ W1.heap.size := by omega
                have H3a := hide h3a
                obtain ⟨_, _, _, _, _, _⟩ := h3a
                clear h3b)
             | skip
           clear b0 b1 b2 b3 b4 b5 b6 b7 b8 hbr hbA)))
    all_goals (go_wp2_with fail; go_meet)
    all_goals first
      | with_reducible exact ⟨_, _, rfl, rfl, hide (twoV_new HbA.out _ _ _ _ _ _ _ _)⟩
      | with_reducible exact ⟨_, _, rfl, rfl, hide (TwoV.swap (twoV_new HbA.out _ _ _ _ _ _ _ _))⟩
      | with_reducible exact ⟨_, _, rfl, rfl, hide (twoV_one HbA.out (Nat.le_refl _) H3a.out _ _ _ _ _ _ _)⟩
      | with_reducible exact ⟨_, _, rfl, rfl, hide (TwoV.swap (twoV_one HbA.out (Nat.le_refl _) H3a.out _ _ _ _ _ _ _))⟩
      | with_reducible exact ⟨_, _, rfl, rfl, hide (twoV_two HbA.out (Nat.le_refl _) hn3 hn1 H3a.out H3b.out _ _ _ _ _ _)⟩
      | with_reducible exact ⟨_, _, rfl, rfl, hide (twoV_two HbA.out hn3 (Nat.le_refl _) hn2 H3b.out H3a.out _ _ _ _ _ _)⟩
  case rest =>
    obtain ⟨B10, B11, rfl, rfl, HX1⟩ := hcut
    clear b0 b1 b2 b3 b4 b5 b6 b7 b8 hbr
    obtain ⟨V1, hV1⟩ : ∃ V1, V1 = wc := ⟨_, rfl⟩
    rw [← hV1] at HX1 ⊢
    clear hV1
    have HBV := hide HX1.out.below
    go_upto_region 2 with fail
    have hL := hSm.out
    have b0 := fun (w' : World) (hb : Below V1.heap.size V1 w') => (hL w' (HBV.out.trans (Below.mono hb HBV.out.size))).1
    have b1 := fun (w' : World) (hb : Below V1.heap.size V1 w') => (hL w' (HBV.out.trans (Below.mono hb HBV.out.size))).2.1
    have b2 := fun (w' : World) (hb : Below V1.heap.size V1 w') => (hL w' (HBV.out.trans (Below.mono hb HBV.out.size))).2.2.1
    have b3 := fun (w' : World) (hb : Below V1.heap.size V1 w') => (hL w' (HBV.out.trans (Below.mono hb HBV.out.size))).2.2.2.1
    have b4 := fun (w' : World) (hb : Below V1.heap.size V1 w') => (hL w' (HBV.out.trans (Below.mono hb HBV.out.size))).2.2.2.2.1
    have b5 := fun (w' : World) (hb : Below V1.heap.size V1 w') => (hL w' (HBV.out.trans (Below.mono hb HBV.out.size))).2.2.2.2.2.1
    have b6 := fun (w' : World) (hb : Below V1.heap.size V1 w') => (hL w' (HBV.out.trans (Below.mono hb HBV.out.size))).2.2.2.2.2.2.1
    have b7 := fun (w' : World) (hb : Below V1.heap.size V1 w') => (hL w' (HBV.out.trans (Below.mono hb HBV.out.size))).2.2.2.2.2.2.2.1
    have b8 := fun (w' : World) (hb : Below V1.heap.size V1 w') => (hL w' (HBV.out.trans (Below.mono hb HBV.out.size))).2.2.2.2.2.2.2.2
    have hbr := Below.refl V1.heap.size V1
    clear hL
    go_cut [12, 13] (fun p q wc => ∃ Bp Bq, p = .pointer (some ⟨Bp, 0, none⟩) ∧ q = .pointer (some ⟨Bq, 0, none⟩) ∧ Hid (TwoV V1 wc Bp Bq (.int .i64 u.v) (.int .i64 u.f) (.slice ua u.args.length uc) (.int .i64 v.v) (.int .i64 v.f) (.slice va v.args.length vc)))
    case first =>
      go_region_held3 (fun w' => Below V1.heap.size V1 w') ((first | with_reducible exact HK2.out _ _ | with_reducible exact HK1.out _ | ((repeat' (first | with_reducible exact HbA.out | with_reducible exact HK1.out _ | with_reducible exact HK2.out _ _ | with_reducible exact Below.refl _ _ | (with_reducible refine Below.drew ?_) | (with_reducible refine Below.setCell ?_ ?_ _; rotate_left; focus (first | exact Nat.le_refl _ | exact hzA | exact hn3 | (show V1.heap.size ≤ _; omega) | (simp; omega))) | (refine Below.alloc ?_ ?_ _; rotate_left; focus (first | omega | (simp; omega) | (simp; done))))); done) | go_keep)) ((first
          | (go_at_call 134
             with_reducible refine (HSy.out _).mono ?_
             rintro e wA ⟨rfl, hbA⟩
             have HbA : Hid (Below V1.heap.size V1 wA) := by
               refine Below.trans (b := _) ?_ (hbA.mono ?_)
               · repeat' (first | with_reducible exact Below.refl _ _ | (with_reducible refine Below.drew ?_) | (refine Below.alloc ?_ ?_ _; rotate_left; focus (first | omega | (simp; omega) | (simp; done))))
               · first | omega | (simp; omega) | (simp; done)
             have HK1 := hide (fun o => HbA.out.trans ((below1 wA o).mono HbA.out.size))
             have HK2 := hide (fun o1 o2 => HbA.out.trans ((below2 wA o1 o2).mono HbA.out.size))
             have hzA := HbA.out.size
             first
               | (have h3a := three_at hbA (heap_alloc_old V1 _ _)
                  have h3b := three_at hbA (heap_alloc_two V1 _ _)
                  have hz9 : V1.heap.size + 1 < wA.heap.size := by
                    have h9 := hbA.size
                    simp at h9
                    omega
                  have hn1 : V1.heap.size ≠ V1.heap.size + 1 := by omega
                  have hn2 : V1.heap.size + 1 ≠ V1.heap.size := by omega
                  have hn3 : V1.heap.size ≤ V1.heap.size + 1 := by omega
                  generalize hH2 : V1.heap.size + 1 = H2 at h3b hz9 hn1 hn2 hn3 ⊢
                  have H3a := hide h3a
                  have H3b := hide h3b
                  obtain ⟨_, _, _, _, _, _⟩ := h3a
                  obtain ⟨_, _, _, _, _, _⟩ := h3b
                  clear hH2)
               | (have h3a := three_at hbA (heap_alloc_self V1 _)
                  have h3b := fun o => h3a.alloc o
                  have r0 := fun o => (h3b o).c0
                  have r1 := fun o => (h3b o).c1
                  have r2 := fun o => (h3b o).c2
                  have r3 := fun o => (h3b o).f0
                  have r4 := fun o => (h3b o).f1
                  have r5 := fun o => (h3b o).f2
                  have hz9 : V1.heap.size < wA.heap.size := by
                    have h9 := hbA.size
                    simp at h9
                    omega
                  have hn1 : V1.heap.size ≠ wA.heap.size := by omega
                  have hn2 : wA.heap.size ≠ V1.heap.size := by omega
                  have H3a := hide h3a
                  obtain ⟨_, _, _, _, _, _⟩ := h3a
                  clear h3b)
               | skip
             clear b0 b1 b2 b3 b4 b5 b6 b7 b8 hbr hbA)))
      all_goals (go_wp2_with fail; go_meet)
      all_goals first
        | with_reducible exact ⟨_, _, rfl, rfl, hide (twoV_new HbA.out _ _ _ _ _ _ _ _)⟩
        | with_reducible exact ⟨_, _, rfl, rfl, hide (TwoV.swap (twoV_new HbA.out _ _ _ _ _ _ _ _))⟩
        | with_reducible exact ⟨_, _, rfl, rfl, hide (twoV_one HbA.out (Nat.le_refl _) H3a.out _ _ _ _ _ _ _)⟩
        | with_reducible exact ⟨_, _, rfl, rfl, hide (TwoV.swap (twoV_one HbA.out (Nat.le_refl _) H3a.out _ _ _ _ _ _ _))⟩
        | with_reducible exact ⟨_, _, rfl, rfl, hide (twoV_two HbA.out (Nat.le_refl _) hn3 hn1 H3a.out H3b.out _ _ _ _ _ _)⟩
        | with_reducible exact ⟨_, _, rfl, rfl, hide (twoV_two HbA.out hn3 (Nat.le_refl _) hn2 H3b.out H3a.out _ _ _ _ _ _)⟩
    case rest =>
      obtain ⟨B12, B13, rfl, rfl, HX2⟩ := hcut
      clear b0 b1 b2 b3 b4 b5 b6 b7 b8 hbr
      obtain ⟨V2, hV2⟩ : ∃ V2, V2 = wc := ⟨_, rfl⟩
      rw [← hV2] at HX2 ⊢
      clear hV2
      have HB2 := hide HX2.out.below
      have HW2 := hide (HBV.out.trans (HB2.out.mono HBV.out.size))
      have HwV := hide (HbW.out.trans (HW2.out.mono HbW.out.size))
      have HC := hide (fun (w' : World) (hb : Below V2.heap.size V2 w') => (show w'.cell? ⟨w.heap.size, 0, none⟩ = some (.slice ga ar.length gcap) ∧ w'.cell? ⟨w.heap.size + 1, 7, none⟩ = some (.slice pa i.place.length pc) ∧ Three w' B10 (.int .i64 s.v) (.int .i64 s.f) (.slice sa s.args.length sc) ∧ Three w' B11 (.int .i64 t.v) (.int .i64 t.f) (.slice ta t.args.length tc) ∧ Three w' B12 (.int .i64 u.v) (.int .i64 u.f) (.slice ua u.args.length uc) ∧ Three w' B13 (.int .i64 v.v) (.int .i64 v.f) (.slice va v.args.length vc) from
        ⟨cell_below hb (cell_below HW2.out Hcg.out), cell_below hb (cell_below HW2.out HI8.out.e7), (HX1.out.one.below HB2.out).below hb, (HX1.out.two.below HB2.out).below hb, HX2.out.one.below hb, HX2.out.two.below hb⟩))
      have HPt := hide (fun (w' : World) (hb : Below V2.heap.size V2 w') => part_any u p ua uc i.place pa pc w' Hat.out hpl (InP_below hb (InP_below HW2.out Hju.out.1)) (Ints_below (HwV.out.trans (hb.mono HwV.out.size)) hp))
      have HU := hide (fun (a1 : Option Addr) (c1 : Nat) (w' : World) (hb : Below V2.heap.size V2 w') (hi : InL w' p.args a1) => unifyE_any ar ga gcap p a1 c1 s sa sc w' (Ints_below (HwV.out.trans (hb.mono HwV.out.size)) hg) hi (InP_below hb (InP_below HW2.out Hjs.out.1)))
      have HU5 := hide (fun (h0 : (uniE ar p s).2 = 0) => uniE_ok hs h0)
      obtain ⟨U, hU⟩ : ∃ U, U = uniE ar p s := ⟨_, rfl⟩
      rw [← hU] at HU HU5
      have HF := hide (fun (h0 : U.2 = 0) (ba : Option Addr) (bc : Nat) (w' : World) (hb : Below V2.heap.size V2 w') (hbs : Binds (fun _ => True) w' U.1 ba) => falls_any ar ga gcap U.1 ba bc s sa sc t ta tc w' (HU5.out h0).2 (HU5.out h0).1 Hts.out.1 Hts.out.2 (Ints_below (HwV.out.trans (hb.mono HwV.out.size)) hg) hbs (InP_below hb (InP_below HW2.out Hjs.out.1)) (InP_below hb (InP_below HW2.out Hjs.out.2)))
      have HF' := hide (fun (h0 : U.2 = 0) (ba : Option Addr) (bc : Nat) (w' : World) (hb : Below V2.heap.size V2 w') (hbs : Binds (fun _ => True) w' U.1 ba) => falls_any ar ga gcap U.1 ba bc u ua uc v va vc w' (HU5.out h0).2 (HU5.out h0).1 Htu.out.1 Htu.out.2 (Ints_below (HwV.out.trans (hb.mono HwV.out.size)) hg) hbs (InP_below hb (InP_below HW2.out Hju.out.1)) (InP_below hb (InP_below HW2.out Hju.out.2)))
      obtain ⟨F, hF⟩ : ∃ F, F = fallS ar U.1 s t := ⟨_, rfl⟩
      obtain ⟨F', hF'⟩ : ∃ F', F' = fallS ar U.1 u v := ⟨_, rfl⟩
      rw [← hF] at HF
      rw [← hF'] at HF'
      have HQ := hide (fun (w' : World) (hb : Below V2.heap.size V2 w') => Put_new ar ga gcap u ua uc i.place pa pc t ta tc w' (Ints_below (HwV.out.trans (hb.mono HwV.out.size)) hg) (InP_below hb (InP_below HW2.out Hju.out.1)) (Ints_below (HwV.out.trans (hb.mono HwV.out.size)) hp) (InP_below hb (InP_below HW2.out Hjs.out.2)) (by omega))
      have HPe := hide (fun (h0 : (putSpec ar u i.place t).2 = 0) => put_err Hat.out h0)
      obtain ⟨P, hP⟩ : ∃ P, P = putSpec ar u i.place t := ⟨_, rfl⟩
      rw [← hP] at HQ HPe
      have HO := hide (fun (w' : World) (hb : Below w.heap.size w w') => without_any c (some ⟨b, off, none⟩) cc k w' hlt (by omega) (LitsP_below hb hc))
      rw [← Hik.out] at HO
      have hel : (c.eraseIdx k).length ≤ 400 := by rw [List.length_eraseIdx]; split <;> omega
      have hwl : (withF d m i.rt P.1).length = d.length := withF_len
      obtain ⟨E, hE⟩ : ∃ E, E = c.eraseIdx k := ⟨_, rfl⟩
      obtain ⟨G, hG⟩ : ∃ G, G = withF d m i.rt P.1 := ⟨_, rfl⟩
      rw [← hE] at HO hel
      rw [← hG] at hwl
      have HD := hide (fun (h0 : P.2 = 0) => (show ∀ z, z ∈ E ++ G → termErr ar z.2.1 = 0 ∧ termErr ar z.2.2 = 0 from fun z hz => by
        rcases List.mem_append.1 hz with h | h
        · rw [hE] at h; exact Htc.out z (List.mem_of_mem_eraseIdx h)
        · rw [hG] at h; exact withF_err Htd.out (HPe.out h0) z h))
      have HP := hide (fun (h0 : U.2 = 0) (h1 : P.2 = 0) (ba : Option Addr) (bc : Nat) (da : Option Addr) (dc : Nat) (w' : World) (hb : Below w.heap.size w w') (hbs : Binds (fun _ => True) w' U.1 ba) (hd : LitsP w' (E ++ G) da) => applied_any ar ga gcap U.1 ba bc (E ++ G) da dc w' (HU5.out h0).2 (by rw [List.length_append]; omega) (HU5.out h0).1 (HD.out h1) (Ints_below hb hg) hbs hd)
      rw [List.length_append] at HP
      have HWG := hide (fun (ua' : Option Addr) (uc' : Nat) (w' : World) (hb : Below w.heap.size w w') (hu : InL w' P.1.args ua') => HWF.out P.1 ua' uc' w' hb hu)
      rw [← hG] at HWG
      have Hsp : Hid (infPut ar c d k m i.rt i.place p s t u v = if U.2 = 0 then (if F = 0 then (if F' = 0 then (if P.2 = 0 then appliedS ar U.1 (E ++ G) else ([], P.2)) else ([], F')) else ([], F)) else ([], U.2)) := by show _ = _; rw [infPut, hF, hF', hE, hG, hP, hU]
      have Hel := hide hel
      have Hwl := hide hwl
      have HV1 := hide (And.intro HX2.out.lp (And.intro HBV.out.size HX2.out.one.lt))
      have HWV := hide (HbW.out.trans (HBV.out.mono HbW.out.size))
      clear hE hG hF hF' hP hU hg hc hd hp hs hx hy i1 i2 i3 i4 hSk hSm HSx HSy HX1 HX2 HW2 Hjs Hju Hts Htu H83 HW1 hel hwl hbW HU5 HD HPe HWF Hat Htc Htd
      go_upto_region 3 with fail
      have hL := HC.out
      have b0 := fun (w' : World) (hb : Below V2.heap.size V2 w') => (hL w' hb).1
      have b1 := fun (w' : World) (hb : Below V2.heap.size V2 w') => (hL w' hb).2.1
      have b2 := fun (w' : World) (hb : Below V2.heap.size V2 w') => (hL w' hb).2.2.1.c0
      have b3 := fun (w' : World) (hb : Below V2.heap.size V2 w') => (hL w' hb).2.2.1.c1
      have b4 := fun (w' : World) (hb : Below V2.heap.size V2 w') => (hL w' hb).2.2.1.c2
      have b5 := fun (w' : World) (hb : Below V2.heap.size V2 w') => (hL w' hb).2.2.2.2.1.c0
      have b6 := fun (w' : World) (hb : Below V2.heap.size V2 w') => (hL w' hb).2.2.2.2.1.c1
      have b7 := fun (w' : World) (hb : Below V2.heap.size V2 w') => (hL w' hb).2.2.2.2.1.c2
      have hbr := Below.refl V2.heap.size V2
      clear hL
      go_cut [14, 15] (fun p q wc => ∃ la lc, p = .slice la U.1.length lc ∧ q = .int .i64 U.2 ∧ Hid (Binds (fun k => V2.heap.size ≤ k) wc U.1 la) ∧ Hid (Below V2.heap.size V2 wc))
      case first =>
        go_region_held3 (fun w' => Below V2.heap.size V2 w') ((first | with_reducible exact HbB.out | with_reducible exact HbA.out | ((repeat' (first | with_reducible exact HbB.out | with_reducible exact HbA.out | with_reducible exact Below.refl _ _ | (with_reducible refine Below.drew ?_))); done) | go_keep)) ((first
          | (go_at_call 135
             with_reducible refine (HPt.out _ ?_).mono ?_
             focus ((repeat' (first | with_reducible exact Below.refl _ _ | (with_reducible refine Below.drew ?_))); done)
             rintro e wA ⟨a1, c1, rfl, hi1, hbA⟩
             have HbA : Hid (Below V2.heap.size V2 wA) := by first | exact hbA | exact below_undrew hbA
             have Hi1 := hide (fun (w' : World) (hb : Below wA.heap.size wA w') => InP_below hb hi1)
             clear hi1 hbA)
          | (go_at_call 177
             with_reducible refine (HU.out _ _ _ ?_ (Hi1.out _ ?_)).mono ?_
             focus ((repeat' (first | with_reducible exact HbA.out | (with_reducible refine Below.drew ?_))); done)
             focus ((repeat' (first | with_reducible exact Below.refl _ _ | (with_reducible refine Below.drew ?_))); done)
             rintro e wB ⟨la, lc, rfl, hbs, hbB⟩
             have HbB : Hid (Below V2.heap.size V2 wB) := by
               first
                 | exact HbA.out.trans (Below.mono hbB HbA.out.size)
                 | exact HbA.out.trans (Below.mono (below_undrew hbB) HbA.out.size)
             have Hbs : Hid (Binds (fun k => V2.heap.size ≤ k) wB U.1 la) := Binds_imp (fun k hk => Nat.le_trans HbA.out.size hk) hbs
             clear hbs hbB)))
        all_goals (go_wp2_with fail; go_meet)
        all_goals exact ⟨la, lc, rfl, rfl, Hbs, HbB⟩
      case rest =>
        obtain ⟨la, lc, rfl, rfl, Hbs, Hb1⟩ := hcut
        clear b0 b1 b2 b3 b4 b5 b6 b7 hbr
        obtain ⟨w1, hw1⟩ : ∃ w1, w1 = wc := ⟨_, rfl⟩
        rw [← hw1] at Hbs Hb1 ⊢
        clear hw1 HU HPt
        by_cases hU0 : U.2 = 0
        · have eu : (U.2 != 0) = false := by simpa using hU0
          have HU0 := hide hU0
          clear hU0
          have HF1 := hide (HF.out HU0.out la lc w1 Hb1.out (Binds_imp (fun _ _ => trivial) Hbs.out))
          obtain ⟨g0, _, ⟨p0, p1, p2, _, _, _⟩, ⟨q0, q1, q2, _, _, _⟩, _, _⟩ := HC.out w1 Hb1.out
          go_wp2_with fail
          refine HF1.out.mono ?_
          rintro e w2 ⟨rfl, hb2⟩
          have Hb2 := hide (Hb1.out.trans (hb2.mono Hb1.out.size))
          have Hbs2 := hide (Binds_below hb2 Hbs.out)
          clear hb2 HF1 HF g0 p0 p1 p2 q0 q1 q2 Hbs Hb1
          by_cases hF0 : F = 0
          · have ef : (F != 0) = false := by simpa using hF0
            have HF0 := hide hF0
            clear hF0
            have HF2 := hide (HF'.out HU0.out la lc w2 Hb2.out (Binds_imp (fun _ _ => trivial) Hbs2.out))
            obtain ⟨g0, _, _, _, ⟨p0, p1, p2, _, _, _⟩, ⟨q0, q1, q2, _, _, _⟩⟩ := HC.out w2 Hb2.out
            go_wp2_with fail
            refine HF2.out.mono ?_
            rintro e w3 ⟨rfl, hb3⟩
            have Hb3 := hide (Hb2.out.trans (hb3.mono Hb2.out.size))
            have Hbs3 := hide (Binds_below hb3 Hbs2.out)
            clear hb3 HF2 HF' g0 p0 p1 p2 q0 q1 q2 Hbs2 Hb2
            by_cases hF1 : F' = 0
            · have ef' : (F' != 0) = false := by simpa using hF1
              have HF1 := hide hF1
              clear hF1
              have HQ1 := hide (HQ.out w3 Hb3.out)
              obtain ⟨g0, g7, _, ⟨q0, q1, q2, _, _, _⟩, ⟨p0, p1, p2, _, _, _⟩, _⟩ := HC.out w3 Hb3.out
              go_wp2_with fail
              refine HQ1.out.mono ?_
              rintro e w4 ⟨⟨xa, xc, rfl, hix⟩, hb4⟩
              have Hb4 := hide (Hb3.out.trans (hb4.mono Hb3.out.size))
              have Hbs4 := hide (Binds_below hb4 Hbs3.out)
              have Hix : Hid (InP (fun k => V2.heap.size ≤ k) w4 P.1.args xa) := InP_imp (fun k hk => Nat.le_trans Hb3.out.size hk) hix
              clear hb4 hix HQ1 HQ g0 g7 p0 p1 p2 q0 q1 q2 Hbs3 Hb3
              have H12 := hide (HC.out w4 Hb4.out).2.2.2.2.1
              obtain ⟨wS, hwS⟩ : ∃ wS, wS = set3 w4 B12 0 (.int .i64 P.1.v) (.int .i64 P.1.f) (.slice xa P.1.args.length xc) := ⟨_, rfl⟩
              have HS0 : Hid (((w4.setCell ⟨B12, 0, none⟩ (.int .i64 P.1.v)).setCell ⟨B12, 1, none⟩ (.int .i64 P.1.f)).setCell ⟨B12, 2, none⟩ (.slice xa P.1.args.length xc) = wS) := by show _ = _; rw [hwS]
              have hlp := HV1.out.1
              have hlq := HV1.out.2.2
              have HbV : Hid (Below V1.heap.size V1 wS) := by
                rw [hwS]; exact below_set3 (HB2.out.trans (Hb4.out.mono HB2.out.size)) hlp _ _ _
              have H3S : Hid (Three wS B12 (.int .i64 P.1.v) (.int .i64 P.1.f) (.slice xa P.1.args.length xc)) := by rw [hwS]; exact H12.out.set _ _ _
              have HbsS : Hid (Binds (fun _ => True) wS U.1 la) := by rw [hwS]; exact Binds_imp (fun _ _ => trivial) (Binds_set3 (fun j hj => by omega) Hbs4.out)
              have HixS : Hid (InL wS P.1.args xa) := by rw [hwS]; exact InP_imp (fun _ _ => trivial) (InP_same (fun j hj _ => set3_block (b := B12) (off := 0) (show j ≠ _ by omega)) Hix.out)
              have HwwS := hide (HWV.out.trans (HbV.out.mono HWV.out.size))
              have HW1S := hide (HBV.out.trans (HbV.out.mono HBV.out.size))
              have HIS := hide (HI8.out.below HW1S.out)
              have HgS := hide (cell_below HW1S.out Hcg.out)
              obtain ⟨p0, p1, p2, f0, f1, f2⟩ := H12.out
              clear hwS Hbs4 Hix hlp hlq
              by_cases hP0 : P.2 = 0
              · have ep : (P.2 != 0) = false := by simpa using hP0
                have HP0 := hide hP0
                clear hP0
                go_upto_region 15 with fail
                rw [HS0.out]
                have HLS := hide (fun (w' : World) (hb : Below wS.heap.size wS w') => And.intro (cell_below hb HgS.out) (And.intro (HIS.out.below hb) (H3S.out.below hb)))
                have hL := HLS.out
                have b0 := fun (w' : World) (hb : Below wS.heap.size wS w') => (hL w' hb).1
                have b1 := fun (w' : World) (hb : Below wS.heap.size wS w') => (hL w' hb).2.1.e0
                have b2 := fun (w' : World) (hb : Below wS.heap.size wS w') => (hL w' hb).2.1.e1
                have b3 := fun (w' : World) (hb : Below wS.heap.size wS w') => (hL w' hb).2.1.e2
                have b4 := fun (w' : World) (hb : Below wS.heap.size wS w') => (hL w' hb).2.1.e3
                have b5 := fun (w' : World) (hb : Below wS.heap.size wS w') => (hL w' hb).2.1.e4
                have b6 := fun (w' : World) (hb : Below wS.heap.size wS w') => (hL w' hb).2.1.e5
                have b7 := fun (w' : World) (hb : Below wS.heap.size wS w') => (hL w' hb).2.1.e6
                have b8 := fun (w' : World) (hb : Below wS.heap.size wS w') => (hL w' hb).2.1.e7
                have b9 := fun (w' : World) (hb : Below wS.heap.size wS w') => (hL w' hb).2.2.c0
                have b10 := fun (w' : World) (hb : Below wS.heap.size wS w') => (hL w' hb).2.2.c1
                have b11 := fun (w' : World) (hb : Below wS.heap.size wS w') => (hL w' hb).2.2.c2
                have hbr := Below.refl wS.heap.size wS
                clear hL HS0 p0 p1 p2 f0 f1 f2
                go_region_held3 (fun w' => Below wS.heap.size wS w') ((first | with_reducible exact HbE.out | with_reducible exact HbD.out | with_reducible exact HK1.out _ | with_reducible exact HbC.out | with_reducible exact HbB.out | ((repeat' (first | with_reducible exact HbB.out | with_reducible exact HK1.out _ | with_reducible exact HbC.out | with_reducible exact HbD.out | with_reducible exact Below.refl _ _ | (with_reducible refine Below.drew ?_))); done) | go_keep)) ((first
                  | (go_at_call 179
                     with_reducible refine (HO.out _ ?_).mono ?_
                     focus ((repeat' (first | with_reducible exact HwwS.out | (with_reducible refine Below.drew ?_))); done)
                     rintro e wB ⟨vB, rfl, hkB, hbB⟩
                     obtain ⟨aB, capB, xs1, rfl, hr1⟩ := (OwnK.outs hkB).row
                     have HbB : Hid (Below wS.heap.size wS wB) := by first | exact hbB | exact below_undrew hbB
                     have Hr1 := hide hr1
                     clear hkB hbB hr1)
                  | (go_at_call 183
                     with_reducible refine (HWG.out _ _ _ ?_ (InP_below (w := wS) ?_ HixS.out)).mono ?_
                     focus ((repeat' (first | with_reducible exact HwwS.out.trans (HbB.out.mono HwwS.out.size) | (with_reducible refine Below.drew ?_))); done)
                     focus ((repeat' (first | with_reducible exact HbB.out | (with_reducible refine Below.drew ?_))); done)
                     rintro e wC ⟨vC, rfl, hoC, hbC⟩
                     obtain ⟨aC, capC, xs2, rfl, hr2⟩ := hoC.row
                     have HbC1 : Hid (Below wB.heap.size wB wC) := by first | exact hbC | exact below_undrew hbC
                     have HbC := hide (HbB.out.trans (HbC1.out.mono HbB.out.size))
                     have Hr1' := hide (RowL_below HbC1.out Hr1.out)
                     have Hr2 := hide hr2
                     have HK1 := hide (fun o => HbC.out.trans ((below1 wC o).mono HbC.out.size))
                     have HCc := hide (fun (qc : Nat) (w' : World) (hb : Below (wC.alloc (.cells #[.slice aB E.length capB, .slice aC G.length capC] 26)).heap.size (wC.alloc (.cells #[.slice aB E.length capB, .slice aC G.length capC] 26)) w') => And.intro hb (concat_any E G aB capB aC capC wC.heap.size qc xs1 xs2 w' (by have := Hwl.out; omega) (by have := Hel.out; omega) (by have := Hwl.out; omega) (cell_below hb (cell_new 0 rfl)) (cell_below hb (cell_new 1 rfl)) (RowL_below hb (RowL_below (below1 _ _) Hr1'.out)) (RowL_below hb (RowL_below (below1 _ _) Hr2.out))))
                     clear hoC hbC hr2)
                  | (go_at_call 182
                     with_reducible refine (HCc.out _ _ ?_).2.mono ?_
                     focus ((repeat' (first | with_reducible exact Below.refl _ _ | (with_reducible refine Below.drew ?_))); done)
                     rintro e wD ⟨aD, capD, rfl, hlD, hbD⟩
                     have HbD : Hid (Below wS.heap.size wS wD) := by
                       refine Below.trans (b := _) ?_ (hbD.mono ?_)
                       · repeat' (first | with_reducible exact HK1.out _ | (with_reducible refine Below.drew ?_))
                       · have h9 := HbC.out.size
                         simp; omega
                     have HlD := hide hlD
                     clear hlD hbD)
                  | (go_at_call 178
                     with_reducible refine (HP.out HU0.out HP0.out _ _ _ _ _ ?_ (Binds_below HbD.out HbsS.out) HlD.out).mono ?_
                     focus (exact HwwS.out.trans (HbD.out.mono HwwS.out.size))
                     rintro e wE ⟨hgE, hbE⟩
                     obtain ⟨aE, capE, rfl, hlE, hoE⟩ := hgE
                     have Hb5 : Hid (Below wD.heap.size wD wE) := by first | exact hbE | exact below_undrew hbE
                     have HbE : Hid (Below wS.heap.size wS wE) := HbD.out.trans (Hb5.out.mono HbD.out.size)
                     have HfE := hide (And.intro hlE hoE)
                     clear hlE hoE hbE)))
                all_goals
                  go_wp2_with fail
                  go_ret2
                  have hbr := HwwS.out.size
                  have hba := HbD.out.size
                  refine ⟨?_, HwwS.out.trans (HbE.out.mono HwwS.out.size)⟩
                  rw [Hsp.out, if_pos HU0.out, if_pos HF0.out, if_pos HF1.out, if_pos HP0.out]
                  refine ⟨aE, capE, rfl, HfE.out.1, ?_⟩
                  rcases HfE.out.2 with h | ⟨g, B, h1, h2, h3, h4, h5⟩
                  · exact Or.inl h
                  · exact Or.inr ⟨g, B, h1, h2, h3, h4, fun j hj => by have := h5 j hj; omega⟩
              · have ep : (P.2 != 0) = true := by simpa using hP0
                have HP0 := hide hP0
                clear hP0
                go_wp2_with fail
                go_ret2
                rw [HS0.out]
                exact ⟨by rw [Hsp.out, if_pos HU0.out, if_pos HF0.out, if_pos HF1.out, if_neg HP0.out]; exact ⟨none, 0, rfl, trivial, Or.inl rfl⟩, HwwS.out⟩
            · have ef : (F' != 0) = true := by simpa using hF1
              have HF1 := hide hF1
              clear hF1
              go_wp2_with fail
              go_ret2
              exact ⟨by rw [Hsp.out, if_pos HU0.out, if_pos HF0.out, if_neg HF1.out]; exact ⟨none, 0, rfl, trivial, Or.inl rfl⟩, HwV.out.trans (Hb3.out.mono HwV.out.size)⟩
          · have ef : (F != 0) = true := by simpa using hF0
            have HF0 := hide hF0
            clear hF0
            go_wp2_with fail
            go_ret2
            exact ⟨by rw [Hsp.out, if_pos HU0.out, if_neg HF0.out]; exact ⟨none, 0, rfl, trivial, Or.inl rfl⟩, HwV.out.trans (Hb2.out.mono HwV.out.size)⟩
        · have eu : (U.2 != 0) = true := by simpa using hU0
          have HU0 := hide hU0
          clear hU0
          go_wp2_with fail
          go_ret2
          exact ⟨by rw [Hsp.out, if_neg HU0.out]; exact ⟨none, 0, rfl, trivial, Or.inl rfl⟩, HwV.out.trans (Hb1.out.mono HwV.out.size)⟩
end Go.Proofs.YtbkedppkdhfpoabGreat
