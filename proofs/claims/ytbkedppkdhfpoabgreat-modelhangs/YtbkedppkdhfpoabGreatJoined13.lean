/- What a part of the unifier has become, made. The bindings of a map, rising. The unifier's bindings, rising. What the program's Unify comes to, in pure words; the variables' numbers while parts are added. Parts and the heads that stand for them. Joining two parts: it ends; what is joined is the same; nothing is joined that need not be. -/
import Derived.Deep.AppendLies
import Derived.Test.YtbkedppkdhfpoabGreatJoined12
namespace Go.Proofs.YtbkedppkdhfpoabGreat
open Go.RowKit

/-- A term that is being made: k of its arguments are there. -/
structure Md (w wr : World) (v f : Int) (n : Nat) (L : List T) (k g b7 : Nat) : Prop where
  kids : ∃ cs, Kids (fun x => w.heap.size < x ∧ x ≠ g) wr (L.take k) cs ∧ ∀ j u, cs[j]? = some u → wr.cell? ⟨g, j, none⟩ = some u
  cells : ∀ j, j < n * 3 → ∃ u, wr.cell? ⟨g, j, none⟩ = some u
  fr : ∀ j, wr.frozen? ⟨g, j, none⟩ = false
  made : Three wr b7 (.int .i64 v) (.int .i64 f) (.slice (some ⟨g, 0, none⟩) n n)
  res : Three wr (w.heap.size) (.int .i64 0) (.int .i64 0) (.slice none 0 0)
  below : Below w.heap.size w wr
  gg : w.heap.size < g
  gl : g < wr.heap.size
  bb : w.heap.size < b7
  ne : b7 ≠ g
theorem Md.step {w wr w2 : World} {v f : Int} {n k g b7 : Nat} {L : List T} {c : T} {a2 : Option Addr} {cap2 : Nat} (h : Md w wr v f n L k g b7) (hL : L.length = n) (hc : L[k]? = some c) (hb : Below wr.heap.size wr w2) (hi : InP (fun x => wr.heap.size ≤ x) w2 c.args a2) :
    Md w (set3 w2 g (k * 3) (.int .i64 c.v) (.int .i64 c.f) (.slice a2 c.args.length cap2)) v f n L (k + 1) g b7 := by
  have hk : k < n := by
    rcases Nat.lt_or_ge k L.length with h | h
    · omega
    · rw [List.getElem?_eq_none h] at hc; cases hc
  have hgl := h.gl
  have hgg := h.gg
  have hwb := h.below.size
  have hb' : Below wr.heap.size wr w2 := hb
  have hs2 := hb'.size
  obtain ⟨cs, hk1, hk2⟩ := h.kids
  have hcl := Kids_length hk1
  rw [List.length_take_of_le (by omega)] at hcl
  have hcells : ∀ j, j < n * 3 → ∃ u, w2.cell? ⟨g, j, none⟩ = some u := fun j hj => by
    rw [hb'.cell (p := ⟨g, j, none⟩) hgl]; exact h.cells j hj
  have hsame := set3_same (w := w2) (b := g) (off := k * 3) (u0 := .int .i64 c.v) (u1 := .int .i64 c.f) (u2 := .slice a2 c.args.length cap2) (fun j _ hj2 => hcells j (by omega))
  refine ⟨⟨cs ++ [.int .i64 c.v, .int .i64 c.f, .slice a2 c.args.length cap2], ?_, ?_⟩, ?_, ?_, (h.made.below hb').same (set3_block h.ne), (h.res.below hb').same (set3_block (by have := h.gg; omega)), below_set3 (h.below.trans (hb'.mono hwb)) (by have := h.gg; omega) _ _ _, h.gg, by rw [set3_size]; omega, h.bb, h.ne⟩
  · rw [List.take_add_one, hc]
    refine Kids_append (Kids_mono (fun x hx hxl => ⟨hx, by rw [set3_block hx.2]; exact hb'.block x hxl⟩) hk1) ⟨a2, cap2, [], rfl, ?_, rfl⟩
    refine InP_mono (fun b o v hp hv => ?_) _ _ _ (Nat.le_refl _) hi
    have hp : wr.heap.size ≤ b := hp
    exact ⟨⟨by omega, by omega⟩, by rw [World.cell?_of_block (w := w2) (a := ⟨b, o, none⟩) (set3_block (show b ≠ g by omega))]; exact hv⟩
  · intro j u hu
    rcases Nat.lt_or_ge j cs.length with hj | hj
    · rw [List.getElem?_append_left hj] at hu
      rw [set3_cell (by omega), hb'.cell (p := ⟨g, j, none⟩) hgl]; exact hk2 j u hu
    · rw [List.getElem?_append_right hj, hcl] at hu
      have hj3 : j - k * 3 = 0 ∨ j - k * 3 = 1 ∨ j - k * 3 = 2 := by
        rcases Nat.lt_or_ge (j - k * 3) 3 with h9 | h9
        · omega
        · rw [List.getElem?_eq_none (by simpa using h9)] at hu; cases hu
      rcases hj3 with e | e | e
      · rw [e] at hu
        obtain rfl : Value.int .i64 c.v = u := by simpa using hu
        rw [show j = k * 3 by omega]; exact hsame.1
      · rw [e] at hu
        obtain rfl : Value.int .i64 c.f = u := by simpa using hu
        rw [show j = k * 3 + 1 by omega]; exact hsame.2.1
      · rw [e] at hu
        obtain rfl : Value.slice a2 c.args.length cap2 = u := by simpa using hu
        rw [show j = k * 3 + 2 by omega]; exact hsame.2.2
  · intro j hj
    by_cases h3 : j < k * 3 ∨ k * 3 + 2 < j
    · rw [set3_cell h3]; exact hcells j hj
    · have : j = k * 3 ∨ j = k * 3 + 1 ∨ j = k * 3 + 2 := by omega
      rcases this with rfl | rfl | rfl
      · exact ⟨_, hsame.1⟩
      · exact ⟨_, hsame.2.1⟩
      · exact ⟨_, hsame.2.2⟩
  · intro j
    rw [set3_frozen, hb'.frozen (p := ⟨g, j, none⟩) hgl]; exact h.fr j
theorem Md.fin {w wr : World} {v f : Int} {n g b7 : Nat} {L : List T} (h : Md w wr v f n L n g b7) (hL : L.length = n) : InP (fun x => w.heap.size < x) wr L (some ⟨g, 0, none⟩) := by
  obtain ⟨cs, h1, h2⟩ := h.kids
  rw [← hL, List.take_length] at h1
  exact Kids_in h.gg (Kids_mono (fun x hx _ => ⟨hx.1, rfl⟩) h1) (fun j u hu => by rw [Nat.zero_add]; exact h2 j u hu)

theorem Md.start {w wr : World} {v f : Int} {n g b7 : Nat} {L : List T} (hg : wr.heap[g]? = some (.cells (row3 n) 77)) (h7 : Three wr b7 (.int .i64 v) (.int .i64 f) (.slice (some ⟨g, 0, none⟩) n n)) (hr : Three wr (w.heap.size) (.int .i64 0) (.int .i64 0) (.slice none 0 0)) (hb : Below w.heap.size w wr) (h1 : w.heap.size < g) (h2 : w.heap.size < b7) (h3 : b7 ≠ g) : Md w wr v f n L 0 g b7 := by
  refine ⟨⟨[], rfl, fun j u hu => by simp at hu⟩, fun j hj => ?_, fun j => frozen_of_heap hg j, h7, hr, hb, h1, (Array.getElem?_eq_some_iff.1 hg).1, h2, h3⟩
  have hs : j < (row3 n).size := by rw [size_row3]; exact hj
  refine ⟨(row3 n)[j], ?_⟩
  unfold World.cell?
  rw [hg]
  simp [hs]
theorem Md.behind {w wr : World} {v f : Int} {n k g b7 : Nat} {L : List T} (h : Md w wr v f n L k g b7) (hk : k < n) : ∀ (w2 : World), Below wr.heap.size wr w2 → (w2.cell? ⟨b7, 2, none⟩ = some (.slice (some ⟨g, 0, none⟩) n n)) ∧
      (∃ v0 v1 v2, w2.cell? ⟨g, k * 3, none⟩ = some v0 ∧ w2.cell? ⟨g, k * 3 + 1, none⟩ = some v1 ∧ w2.cell? ⟨g, k * 3 + 2, none⟩ = some v2) ∧ (∀ j, w2.frozen? ⟨g, j, none⟩ = false) := by
  intro w2 hb
  have hb' : Below wr.heap.size wr w2 := hb
  have hgl := h.gl
  obtain ⟨v0, e0⟩ := h.cells (k * 3) (by omega)
  obtain ⟨v1, e1⟩ := h.cells (k * 3 + 1) (by omega)
  obtain ⟨v2, e2⟩ := h.cells (k * 3 + 2) (by omega)
  exact ⟨(h.made.below hb').c2, ⟨v0, v1, v2, cell_below hb' e0, cell_below hb' e1, cell_below hb' e2⟩, fun j => by rw [hb'.frozen (p := ⟨g, j, none⟩) hgl]; exact h.fr j⟩


/-- The terms of some parts. -/
def madeL (rec : Nat → Option T) : List Nat → Option (List T)
  | [] => some []
  | a :: l => match rec a with
    | none => none
    | some t => match madeL rec l with
      | none => none
      | some ts => some (t :: ts)
/-- What a part has become; none: more than n steps. -/
def madeF (P : List Pt) : Nat → Nat → Option T
  | 0, _ => none
  | n + 1, k => match headF P (P.length + 1) k with
    | none => none
    | some h => match P[h]? with
      | none => none
      | some p => match madeL (madeF P n) p.args with
        | none => none
        | some ts => some ⟨p.v, p.f, ts⟩
theorem madeF_some {P : List Pt} {n k : Nat} {t : T} (hm : madeF P n k = some t) : ∃ m h p ts, n = m + 1 ∧ headF P (P.length + 1) k = some h ∧ P[h]? = some p ∧ madeL (madeF P m) p.args = some ts ∧ t = ⟨p.v, p.f, ts⟩ := by
  cases n with
  | zero => cases hm
  | succ n =>
    rw [madeF] at hm
    split at hm
    · cases hm
    · rename_i h hh
      split at hm
      · cases hm
      · rename_i p hp
        split at hm
        · cases hm
        · rename_i ts hts
          exact ⟨n, h, p, ts, rfl, hh, hp, hts, (Option.some.inj hm).symm⟩
theorem madeL_at {rec : Nat → Option T} : ∀ {l : List Nat} {ts : List T}, madeL rec l = some ts → ts.length = l.length ∧ ∀ k, k < l.length → ∃ c, ts[k]? = some c ∧ rec (l.getD k 0) = some c := by
  intro l
  induction l with
  | nil => intro ts h; rw [madeL] at h; cases h; exact ⟨rfl, fun k hk => by simp at hk⟩
  | cons a l ih =>
    intro ts h
    rw [madeL] at h
    split at h
    · cases h
    · rename_i t ht
      split at h
      · cases h
      · rename_i us hus
        cases h
        obtain ⟨h1, h2⟩ := ih hus
        refine ⟨by simp [h1], fun k hk => ?_⟩
        cases k with
        | zero => exact ⟨t, rfl, ht⟩
        | succ k =>
          obtain ⟨c, hc, hr⟩ := h2 k (by simpa using hk)
          exact ⟨c, by simpa using hc, by simpa using hr⟩

theorem UAt.alloc {q : Nat → Prop} {w : World} {u b c : Nat} {P : List Pt} (h : UAt q w u b c P) (o : Obj) : UAt q (w.alloc o) u b c P := h.below (below1 _ _)
theorem UAt.drew {q : Nat → Prop} {w : World} {u b c : Nat} {P : List Pt} (h : UAt q w u b c P) : UAt q w.drew u b c P := h.below (Below.drew (Below.refl _ _))
attribute [local go_sem ↓] Go.wp_at_zero Go.wp_at_succ
set_option maxRecDepth 100000 in
set_option maxHeartbeats 2000000 in
theorem made_any (q : Nat → Prop) (u b c : Nat) (P : List Pt) (N : Nat) : ∀ (k : Nat) (t : T) (w : World), UAt q w u b c P → madeF P N k = some t →
    Calls Tryz.prog 289 #[.pointer (some ⟨u, 0, none⟩), .int .i64 (k : Int)] w fun e w' =>
      ∃ a' cap', e = .returned (.agg #[.int .i64 t.v, .int .i64 t.f, .slice a' t.args.length cap']) ∧ InP (fun k => w.heap.size ≤ k) w' t.args a' ∧ Below w.heap.size w w' := by
  induction N with
  | zero => intro k t w _ h; cases h
  | succ N ih =>
    intro k t w hU hm
    obtain ⟨m, h, p, L, hN, hh, hp, hts, rfl⟩ := madeF_some hm
    obtain rfl : N = m := by omega
    obtain ⟨hLl, hLk⟩ := madeL_at hts
    simp only
    obtain ⟨W0, hW0⟩ : ∃ W0, W0 = w.alloc (.cells #[.int .i64 0, .int .i64 0, .slice none 0 0] 77) := ⟨_, rfl⟩
    have hb0 : Below w.heap.size w W0 := by rw [hW0]; exact below1 _ _
    have hz0 : W0.heap.size = w.heap.size + 1 := by rw [hW0]; simp
    have hR0 : Hid (Three W0 w.heap.size (.int .i64 0) (.int .i64 0) (.slice none 0 0)) := by rw [hW0]; exact Three.new 77 rfl
    have HU0 := hide (hU.below hb0)
    have hhl := (List.getElem?_eq_some_iff.1 hp).1
    obtain ⟨ta, tl, tc, aa, ac, y0, y1, y2, y3, y4, y5, hnx⟩ := hU.at6 h p hp
    have x0 := cell_below hb0 y0
    have x1 := cell_below hb0 y1
    have x2 := cell_below hb0 y2
    have x3 := cell_below hb0 y3
    have x4 := cell_below hb0 y4
    have x5 := cell_below hb0 y5
    have HUw := hide hU
    have cu := HU0.out.list
    have hlen := HU0.out.len
    have hub0 : u < W0.heap.size := lt_of_cell cu
    have hbb0 : b < W0.heap.size := HU0.out.ltb
    have hhI : (h : Int) < P.length := by omega
    have hh0 : (0 : Int) ≤ h := by omega
    have hal := hnx.1
    have Hnx := hide hnx
    have Hh := hide hh
    have HLk := hide hLk
    have Hih := hide ih
    have HW0 := hide hW0
    have Hb0 := hide hb0
    have Hz0 := hide hz0
    clear y0 y1 y2 y3 y4 y5 hz0 hm hU hN hh hp hts hLk hW0 hnx ih hb0
    go_enter Tryz.func289, Tryz.ntmps289
    go_upto_region 1 with fail
    rw [← HW0.out]
    go_cut [5] (fun v5 wc => ∃ n5, v5 = .pointer (some ⟨n5, 0, none⟩) ∧ Six wc n5 (.int .i64 p.v) (.int .i64 p.f) (.slice ta tl tc) (.slice aa p.args.length ac) (.int .i64 (p.like : Int)) (.int .i64 p.size) ∧ Hid (Below W0.heap.size W0 wc))
    case first => as_aux_lemma =>
      go_region_with (go_at_call 286; refine (head_any q _ u b c P (P.length + 1) k h ?_ Hh.out).mono ?_; (focus ((repeat' (first | with_reducible exact HU0.out | with_reducible refine UAt.alloc ?_ _ | with_reducible refine UAt.drew ?_)); done)); rintro e w' ⟨rfl, hw'⟩; obtain rfl := hw'.symm; clear hw')
      all_goals (go_wp2_with fail; go_meet; refine ⟨_, rfl, ?_, ?_⟩)
      all_goals first | exact Below.drew (below1 _ _) | exact below1 _ _ | (refine Six.below ?_ (Below.drew (Below.refl _ _)); exact Six.new _ (by simp)) | exact Six.new _ rfl
    case rest => as_aux_lemma =>
      obtain ⟨n5, rfl, h5, HBc⟩ := hcut
      obtain ⟨W2, hW2⟩ : ∃ W2, W2 = wc := ⟨_, rfl⟩
      subst hW2
      have hmk := run_make3 p.args.length (by omega)
      have Hb2 : Hid (Below w.heap.size w W2) := Hb0.out.trans (HBc.out.mono (by have := Hz0.out; omega))
      have hzw : w.heap.size < W2.heap.size := by have h1 := Hz0.out; have h2 := HBc.out.size; omega
      have HR2 := hide (hR0.out.below HBc.out)
      have H52 := hide h5
      obtain ⟨s0, s1, s2, s3, s4, s5⟩ := h5
      have hn5 := lt_of_cell s0
      clear hub0 hbb0 cu x0 x1 x2 x3 x4 x5 HU0 HW0 hR0 HBc Hb0
      go_upto_region 2 with fail
      go_cut [6] (fun v6 wd => ∃ g b6, v6 = .pointer (some ⟨b6, 0, none⟩) ∧ Md w wd p.v p.f p.args.length L 0 g b6 ∧ Hid (Below W2.heap.size W2 wd))
      case first => as_aux_lemma =>
        go_region
        all_goals (go_wp2_with fail; go_meet)
        · refine ⟨W2.heap.size, W2.heap.size + 1, rfl, Md.start ?_ ?_ ?_ ?_ (by omega) (by omega) (by omega), ?_⟩
          · exact (Below.heap_alloc (W2.alloc _) _ _ (by simp)).trans (heap_alloc_new W2 _)
          · exact Three.same (Three.new 77 (by rw [World.size_alloc])) rfl
          · exact Three.same ((HR2.out.alloc _).alloc _) rfl
          · exact Below.drew (Hb2.out.trans ((below2 _ _ _).mono (by omega)))
          · exact Below.drew (below2 _ _ _)
        · refine ⟨W2.heap.size + 1, W2.heap.size, rfl, Md.start ?_ ?_ ?_ ?_ (by omega) (by omega) (by omega), ?_⟩
          · have h9 := heap_alloc_new (W2.alloc (.cells #[.int .i64 p.v, .int .i64 p.f, .slice (some ⟨W2.heap.size + 1, 0, none⟩) p.args.length p.args.length] 77)) (.cells (row3 p.args.length) 77)
            rw [World.size_alloc] at h9
            exact h9
          · exact Three.same ((Three.new 77 rfl).alloc _) rfl
          · exact Three.same ((HR2.out.alloc _).alloc _) rfl
          · exact Below.drew (Hb2.out.trans ((below2 _ _ _).mono (by omega)))
          · exact Below.drew (below2 _ _ _)
      case rest => as_aux_lemma =>
        obtain ⟨g, b6, rfl, hmd0, HBd⟩ := hcut
        have Hmd0 := hide hmd0
        obtain ⟨r0, r1, r2, r3, r4, r5⟩ := H52.out.below HBd.out
        obtain ⟨WD, hWD⟩ : ∃ WD, WD = wc := ⟨_, rfl⟩
        subst hWD
        clear hmd0 hmk s0 s1 s2 s3 s4 s5 HR2 H52 HBd
        go_wp2_with fail
        go_loopw [32] (fun i wr => ∃ (j : Nat), j ≤ p.args.length ∧ i = .int .i64 j ∧ Md w wr p.v p.f p.args.length L j g b6) (fun i _ => p.args.length - (intOf i).toNat)
        case atStart => exact ⟨0, Nat.zero_le _, rfl, Hmd0.out⟩
        case round =>
          obtain ⟨j, hj, rfl, hmd⟩ := hrel
          have Hmd := hide hmd
          have HUr := hide (HUw.out.below hmd.below)
          obtain ⟨d0, d1, d2, g0, g1, g2⟩ := hmd.res
          obtain ⟨p0, p1, p2, _, _, _⟩ := hmd.made
          have hgl := hmd.gl
          have hbl := hmd.made.lt
          have hgg := hmd.gg
          have Hnr := hide (NumsQ_below hmd.below Hnx.out)
          clear hmd r0 r1 r2 r3 r4 r5
          by_cases hlt : j < p.args.length
          · obtain ⟨nb, noff, rfl, _, hcell⟩ := NumsQ_at Hnr.out (show 0 < p.args.length by omega)
            have cj := hcell j hlt
            obtain ⟨cT, hcT, hrec⟩ := HLk.out j hlt
            have HLc := hide hcT
            have Hrec := hide hrec
            have Hcall := hide (Hmd.out.behind hlt)
            generalize p.args.getD j 0 = aj at *
            have hjI : (j : Int) < p.args.length := by omega
            have hj0 : (0 : Int) ≤ j := by omega
            have hj3 : j ≤ 100000 := by omega
            clear hcell hcT hrec
            go_wp2_with fail
            go_region_with (go_at_call 289; refine (Hih.out aj cT _ ?_ Hrec.out).mono ?_; (focus (first | with_reducible exact HUr.out | exact HUr.out.drew)); rintro e w2 ⟨a2, cap2, rfl, hin2, hb1⟩; have hb2 : Below wr.heap.size wr w2 := below_undrew hb1; clear hb1; obtain ⟨q2, ⟨v0, v1, v2, e0, e1, e2⟩, qf⟩ := Hcall.out w2 hb2; have q0 := qf (j * 3); have q1 := qf (j * 3 + 1); have q3 := qf (j * 3 + 2); clear qf)
            all_goals
              go_wp2_with fail
              go_roundw
              case rel => exact ⟨j + 1, by omega, by go_num, Hmd.out.step hLl HLc.out hb2 hin2⟩
              case measure => simp [intOf]; omega
          · have hk2 : j = p.args.length := by omega
            subst hk2
            have HF := hide (Hmd.out.fin hLl)
            have Hres := hide (Hmd.out.res.set (.int .i64 p.v) (.int .i64 p.f) (.slice (some ⟨g, 0, none⟩) p.args.length p.args.length))
            have Hbw := hide Hmd.out.below
            go_wp2_with fail
            obtain ⟨z0, z1, z2, _, _, _⟩ := Hres.out
            simp only [set3, Nat.zero_add] at z0 z1 z2
            exact bodyPost_ret (v := .agg #[.int .i64 p.v, .int .i64 p.f, .slice (some ⟨g, 0, none⟩) p.args.length p.args.length]) (by simp [results, Tryz.results289, go_sem, z0, z1, z2]) rfl ⟨some ⟨g, 0, none⟩, p.args.length, by rw [hLl], InP_imp (fun j hj => by omega) (InP_same (fun j hj _ => set3_block (b := w.heap.size) (off := 0) (show j ≠ _ by omega)) HF.out), below_set3 (b := w.heap.size) (off := 0) Hbw.out (by omega) _ _ _⟩

end Go.Proofs.YtbkedppkdhfpoabGreat

namespace Go.Proofs.YtbkedppkdhfpoabGreat
open Go.RowKit Go.Maps

/-- The variables, sorted. -/
def keysB (bs : List (Int × T)) : List Int := (bs.map (·.1)).mergeSort (fun x y => decide (x ≤ y))
/-- The bindings, sorted by variables. -/
def sortB (bs : List (Int × T)) : List (Int × T) := (keysB bs).map (fun v => (v, (lookB bs v).getD zeroT))
theorem keysB_length (bs : List (Int × T)) : (keysB bs).length = bs.length := by rw [keysB, List.length_mergeSort, List.length_map]
theorem sortB_length (bs : List (Int × T)) : (sortB bs).length = bs.length := by rw [sortB, List.length_map, keysB_length]
theorem lookB_isSome {bs : List (Int × T)} {v : Int} : v ∈ bs.map (·.1) ↔ (lookB bs v).isSome = true := by
  induction bs with
  | nil => simp [lookB]
  | cons x bs ih =>
    obtain ⟨w, u⟩ := x
    rw [List.map_cons, List.mem_cons, lookB]
    by_cases h : w = v
    · rw [if_pos h]; simp [h]
    · rw [if_neg h, ← ih]
      constructor
      · rintro (e | e)
        · exact absurd e.symm h
        · exact e
      · exact Or.inr
theorem once_nodup {bs : List (Int × T)} (h : Once bs) : (bs.map (·.1)).Nodup := by
  rw [List.nodup_iff_pairwise_ne, List.pairwise_iff_getElem]
  intro i j hi hj hij e
  rw [List.length_map] at hi hj
  simp only [List.getElem_map] at e
  have := h i j bs[i] bs[j] (List.getElem?_eq_getElem hi) (List.getElem?_eq_getElem hj) e
  omega
theorem keysB_at {bs : List (Int × T)} {k : Nat} {v : Int} (h : (keysB bs)[k]? = some v) : ∃ u, lookB bs v = some u ∧ (sortB bs)[k]? = some (v, u) := by
  have hm := List.mem_of_getElem? h
  rw [keysB, List.mem_mergeSort] at hm
  obtain ⟨u, hu⟩ := Option.isSome_iff_exists.1 (lookB_isSome.1 hm)
  exact ⟨u, hu, by rw [sortB, List.getElem?_map, h]; simp [hu]⟩

set_option maxRecDepth 100000 in
set_option maxHeartbeats 2000000 in
theorem bindingsP_any (q : Nat → Prop) (b : Nat) (bs : List (Int × T)) (w : World) (ho : Once bs) (hl : bs.length ≤ 1000) (hr : ∀ x, x ∈ bs → 1 ≤ x.1 ∧ x.1 ≤ 1000) (hM : MB q b bs w) :
    Calls Tryz.prog 283 #[.map (some b)] w fun e w' => ∃ a cap, e = .returned (.slice a bs.length cap) ∧ Binds (fun k => w.heap.size ≤ k) w' (sortB bs) a ∧ Below w.heap.size w w' := by
  obtain ⟨⟨f, hMf, hBf⟩, hsz⟩ := hM
  have HK := hide (show ∀ x, x ∈ bs.map (·.1) ↔ (f x).isSome = true from fun x => by
    rw [lookB_isSome]
    cases h : lookB bs x with
    | none => rw [(hBf x).1 h]; simp
    | some u => obtain ⟨a, cap, hf, _⟩ := (hBf x).2 u h; rw [hf]; simp)
  have hlen : ∀ ty, (Builtin.len_ #[319] ty #[.map (some b)]).run Tryz.prog w = .ok (.int .i64 (bs.length : Nat)) w := fun ty => by
    obtain ⟨D, hD, hf⟩ := hMf
    have hp := keys_perm hD hf (once_nodup ho) HK.out
    have e1 : Maps.size D = bs.length := by
      have h1 := hp.length_eq
      rw [List.length_map] at h1
      rw [h1]
      obtain ⟨es, rfl⟩ := hD.isMap
      simp [intKeys, Maps.size]
    rw [hD.len Tryz.underlying319 ty, e1]
  have hmk := run_make4 bs.length (by omega)
  have HM := hide hMf
  have HB := hide hBf
  have Hsz := hide hsz
  have Ho := hide ho
  have Hr := hide hr
  obtain ⟨ti, hi, hzz⟩ := Option.map_eq_some_iff.1 Tryz.info93
  simp only [Prod.mk.injEq] at hzz
  obtain ⟨hz0, hz1, hz2⟩ := hzz
  clear hMf hBf hsz ho hr
  go_enter Tryz.func283, Tryz.ntmps283
  go_wp2_with (first
    | (go_at_call 306; refine (keysB_any _ _).mono ?_; rintro e w' ⟨rfl, rfl⟩)
    | (go_at_call 240; refine (sortedB_any b bs.length f (bs.map (·.1)) (by omega) (once_nodup Ho.out) HK.out _ _ (HM.out.below (below2 _ _ _)) (by rw [cell_new 0 (by simp)]; rfl)).mono ?_; rintro e w1 ⟨v1, rfl, hown1, hb1⟩; obtain ⟨va, vc, rfl, hints1, _⟩ := own_ints hown1))
  have hz1' : w.heap.size + 2 ≤ w1.heap.size := by have := hb1.size; simp at this; omega
  have Hbw1 : Hid (Below w.heap.size w w1) := (below2 _ _ _).trans (hb1.mono (by simp; omega))
  have Hl0 : Hid (OutsB (fun _ => False) w.heap.size w1 (.slice (some ⟨w.heap.size, 0, none⟩) 0 bs.length) []) := OutsB_below (OutsB_below (OutsB_made (Nat.le_refl _) (by omega)) (below1 _ _)) hb1
  have Hkeys : Hid (∀ (k : Nat) (v : Int), (keysB bs)[k]? = some v → ∃ b1 off1, va = some ⟨b1, off1, none⟩ ∧ b1 ≠ w.heap.size ∧ b1 < w1.heap.size ∧ w1.cell? ⟨b1, off1 + k, none⟩ = some (.int .i64 v)) := fun k v hv => by
    have hlt : k < (keysB bs).length := by
      rcases Nat.lt_or_ge k (keysB bs).length with h | h
      · exact h
      · rw [List.getElem?_eq_none h] at hv; cases hv
    have hpos : 0 < (keysB bs).length := by omega
    obtain ⟨b1, off1, rfl, hc⟩ := Ints_some hints1 hpos
    have h1 := hc k hlt
    rw [List.getD_eq_getElem?_getD, show ((bs.map (·.1)).mergeSort (fun x y => decide (x ≤ y)))[k]? = some v from hv] at h1
    have h2 := own_lt hown1 b1 rfl
    simp at h2
    exact ⟨b1, off1, rfl, by omega, lt_of_cell h1, h1⟩
  clear hb1 hown1 hints1 hlen hmk
  go_wp2_with fail
  go_loopw [3, 13] (fun l i wr => ∃ k : Nat, k ≤ bs.length ∧ i = .int .i64 k ∧ OutsB (fun _ => False) w.heap.size wr l ((sortB bs).take k) ∧ Grw w1 wr (some w.heap.size) l.ownBlock) (fun _ i _ => bs.length - (intOf i).toNat)
  case atStart => exact ⟨0, Nat.zero_le _, rfl, Hl0.out, Grw.refl _ _⟩
  case round =>
    obtain ⟨k, hk, rfl, hout, hgrw⟩ := hrel
    have Hout := hide hout
    have Hgrw := hide hgrw
    have hzr := hgrw.gr.size
    clear hout hgrw
    have HbR : Hid (Below w.heap.size w wr) := Hbw1.out.trans (Hgrw.out.below (by omega) (fun g hg => by cases hg; exact Nat.le_refl _))
    by_cases hlt : k < bs.length
    · obtain ⟨v, hv⟩ : ∃ v, (keysB bs)[k]? = some v := ⟨(keysB bs)[k]'(by rw [keysB_length]; exact hlt), List.getElem?_eq_getElem _⟩
      obtain ⟨u, hlk, hst⟩ := keysB_at hv
      obtain ⟨b1, off1, rfl, hb1n, hb1l, hc1⟩ := Hkeys.out k v hv
      have hcr : wr.cell? ⟨b1, off1 + k, none⟩ = some (.int .i64 v) := by
        rw [World.cell?_of_block (w := w1) (a := ⟨b1, off1 + k, none⟩) (Hgrw.out.gr.block b1 hb1l (fun e => hb1n (by cases e; rfl)))]; exact hc1
      obtain ⟨a1, cap1, hf, hin1⟩ := (HB.out v).2 u hlk
      have husz := Hsz.out _ _ (lookB_mem hlk)
      have hvr := Hr.out _ (lookB_mem hlk)
      have hvr1 : 1 ≤ v := hvr.1
      have hvr2 : v ≤ 1000 := hvr.2
      have hlook := (HM.out.below HbR.out).look (t := 319) Tryz.underlying319 (Tryz.zero77 _) (k := v) (by omega) (by omega)
      rw [hf] at hlook
      have HT1 := hide (show (sortB bs).take (k + 1) = (sortB bs).take k ++ [(v, u)] by rw [List.take_add_one, hst]; rfl)
      have Htk : Hid (((sortB bs).take k).length = k) := by show _ = _; rw [List.length_take, sortB_length]; omega
      have HC := hide (copyOf_any (u.sz + 1) u a1 cap1 wr (by omega) husz (InP_imp (q := fun _ => True) (fun _ _ => trivial) (InP_below HbR.out hin1)))
      have hkI : (k : Int) < bs.length := by omega
      have hk0 : (0 : Int) ≤ k := by omega
      clear hv hlk hst hc1 hf hin1 hvr Hkeys
      go_wp2_with (first
        | (go_at_call 153
           refine HC.out.mono ?_
           rintro e w2 ⟨s, Bc, rfl, hown, _, hrg, hb2⟩
           obtain ⟨a2, cap2, rfl, hin2⟩ := In_iff.1 (Own_inP hown)
           have hzw2 := hb2.size
           have Hout2 := hide (OutsB_below Hout.out hb2)
           obtain ⟨xs, hownL, hkids⟩ := Hout2.out
           have HO := hide (fun o1 => own_same hownL (w' := w2.alloc o1) (fun g hg => (below1 w2 o1).block g (own_lt hownL g hg).2))
           have HCi : Hid (InP (fun k' => (False ∨ w.heap.size ≤ k') ∧ u3.ownBlock ≠ some k') w2 u.args a2) := InP_imp (fun k' hk' => by
             have h8 := (hrg k' hk').1
             refine ⟨Or.inr (by omega), fun e => ?_⟩
             obtain ⟨xs0, h0, _⟩ := Hout.out
             have := (own_lt h0 k' e).2
             omega) hin2
           have Hg2 := hide (Hgrw.out.trans (Grw.of_below _ hb2))
           clear hown hrg hin2 hb2)
        | (at_builtin
           go_must (refine wpList_append_lies _ rfl (.tmp 17) (.tmp 24) 91 rfl w.heap.size 93 ti (.agg #[.int .i64 0, .int .i64 0, .int .i64 0, .slice none 0 0]) 4 48 Tryz.underlying91 hi hz0 hz1 hz2 rfl (by decide) u3 ((sortB bs).take k).length xs rfl (HO.out _) ⟨w2.heap.size, 0, none⟩ 1 1 [.int .i64 v, .int .i64 u.v, .int .i64 u.f, .slice a2 u.args.length cap2] rfl rfl (four_new (by first | rfl | simp)) (by simp [Value.oneCell']) (by decide) (by have := Htk.out; unfold maxLen; omega) (by have := Htk.out; omega) (by simp; omega) _ rfl ?_)
           intro g capg w3 hown3 hgr3 hat3 hlt3))
      have hO3 := OutsB_step (x := (v, u)) (KidsB_mono (fun k' hk' hlt' => ⟨hk', (below1 w2 _).block k' hlt'⟩) hkids) (InP_alloc _ HCi.out) hown3 hgr3 (hat3.imp id (fun h => by rw [h]))
      have hG3 : Grw w1 w3 (some w.heap.size) (Value.slice (some ⟨g, 0, none⟩) (((sortB bs).take k).length + 1) capg).ownBlock := Hg2.out.trans ((Grw.of_below _ (below1 _ _)).trans ⟨hgr3, by
        rcases hat3 with h | h
        · exact Or.inl h.symm
        · exact Or.inr ⟨g, rfl, by rw [h]; simp⟩⟩)
      rw [← HT1.out, Htk.out] at hO3
      rw [Htk.out] at hG3
      have hmin : min k (sortB bs).length = k := by rw [sortB_length]; omega
      go_roundw
      case rel => exact ⟨k + 1, by omega, by go_num, by rw [hmin]; exact hO3, by rw [hmin]; exact hG3⟩
      case measure => simp [intOf]; omega
    · have hk2 : k = (sortB bs).length := by rw [sortB_length]; omega
      rw [hk2, List.take_length] at Hout
      obtain ⟨la, lc, rfl, hinL⟩ := OutsB_end Hout.out
      rw [sortB_length] at hk2
      subst hk2
      have HinL := hide hinL
      rw [sortB_length]
      clear hinL Hout
      go_wp2_with fail
      go_ret
      exact ⟨la, lc, rfl, Binds_imp (fun k' hk' => by rcases hk' with h | h; exact h.elim; exact h) HinL.out, HbR.out⟩

end Go.Proofs.YtbkedppkdhfpoabGreat

namespace Go.Proofs.YtbkedppkdhfpoabGreat
open Go.RowKit Go.Maps

theorem Tryz.underlying106 : Tryz.prog.underlying 106 = some (.map 3 3) := by kernel_rfl
theorem Tryz.zero3 (w : World) : (zeroValue 3).run Tryz.prog w = .ok (.int .i64 0) w := by kernel_rfl

/-- The bindings of some variables, whose parts' numbers vn tells. -/
def outF (P : List Pt) (M : Nat) (vn : Int → Nat) : List Int → Option (List (Int × T))
  | [] => some []
  | v :: l => match headF P (P.length + 1) (vn v) with
    | none => none
    | some h => if h = vn v then outF P M vn l else match madeF P M (vn v) with
      | none => none
      | some t => match outF P M vn l with
        | none => none
        | some bs => some ((v, t) :: bs)
theorem outF_cons {P : List Pt} {M : Nat} {vn : Int → Nat} {v : Int} {l : List Int} {bs : List (Int × T)} (hm : outF P M vn (v :: l) = some bs) : ∃ h, headF P (P.length + 1) (vn v) = some h ∧
    ((h = vn v ∧ outF P M vn l = some bs) ∨ (h ≠ vn v ∧ ∃ t bs', madeF P M (vn v) = some t ∧ outF P M vn l = some bs' ∧ bs = (v, t) :: bs')) := by
  rw [outF] at hm
  split at hm
  · cases hm
  · rename_i h hh
    refine ⟨h, hh, ?_⟩
    split at hm
    · rename_i e; exact Or.inl ⟨e, hm⟩
    · rename_i e
      split at hm
      · cases hm
      · rename_i t ht
        split at hm
        · cases hm
        · rename_i bs' hbs
          exact Or.inr ⟨e, t, bs', ht, hbs, (Option.some.inj hm).symm⟩

set_option maxRecDepth 100000 in
set_option maxHeartbeats 2000000 in
theorem bindU_any (q : Nat → Prop) (u b c : Nat) (P : List Pt) (M mb n : Nat) (f : Int → Option Value) (K : List Int) (vn : Int → Nat) (bs : List (Int × T)) (w : World) (hU : UAt q w u b c P) (hmc : w.cell? ⟨u, 1, none⟩ = some (.map (some mb))) (hM : MapAt w mb n f) (hn : n ≤ 100000) (hnd : K.Nodup) (hK : ∀ x, x ∈ K ↔ (f x).isSome = true)
    (hf : ∀ x, x ∈ K → f x = some (.int .i64 (vn x : Nat)) ∧ 0 ≤ x ∧ x ≤ 100000) (hlK : K.length ≤ 100000) (ho : outF P M vn (K.mergeSort (fun x y => decide (x ≤ y))) = some bs) :
    Calls Tryz.prog 262 #[.pointer (some ⟨u, 0, none⟩)] w fun e w' => ∃ a cap, e = .returned (.slice a bs.length cap) ∧ Binds (fun k => w.heap.size ≤ k) w' bs a ∧ Below w.heap.size w w' := by
  obtain ⟨KS, hKS⟩ : ∃ KS, KS = K.mergeSort (fun x y => decide (x ≤ y)) := ⟨_, rfl⟩
  have hKl : KS.length = K.length := by rw [hKS, List.length_mergeSort]
  have HKm := hide (show ∀ x, x ∈ KS → x ∈ K from fun x hx => by rw [hKS, List.mem_mergeSort] at hx; exact hx)
  rw [← hKS] at ho
  have HKS := hide hKS
  have HU := hide hU
  have HM := hide hM
  have HK := hide hK
  have Hf := hide hf
  have Ho := hide ho
  have Hnd := hide hnd
  obtain ⟨ti, hi, hzz⟩ := Option.map_eq_some_iff.1 Tryz.info93
  simp only [Prod.mk.injEq] at hzz
  obtain ⟨hz0, hz1, hz2⟩ := hzz
  have hul := lt_of_cell hmc
  clear hU hM hK hf ho hnd hKS
  go_enter Tryz.func262, Tryz.ntmps262
  go_wp2_with (first
    | (go_at_call 288; refine (keysI_any _ _).mono ?_; rintro e w' ⟨rfl, rfl⟩)
    | (go_at_call 240; refine (sortedI_any mb n f K hn Hnd.out HK.out _ _ (HM.out.below (below1 _ _)) (by rw [cell_new 0 (by simp)]; rfl)).mono ?_; rintro e w1 ⟨v1, rfl, hown1, hb1⟩; rw [← HKS.out] at hown1; obtain ⟨va, vc, rfl, hints1, _⟩ := own_ints hown1))
  have hz1' : w.heap.size + 1 ≤ w1.heap.size := by have := hb1.size; simp at this; omega
  have Hbw1 : Hid (Below w.heap.size w w1) := (below1 _ _).trans (hb1.mono (by simp))
  have Hints := hide hints1
  have hmc1 : w1.cell? ⟨u, 1, none⟩ = some (.map (some mb)) := cell_below Hbw1.out hmc
  clear hb1 hown1 hints1 hmc
  go_loopw [3, 14] (fun l i wr => ∃ (k : Nat) (acc rest : List (Int × T)), k ≤ K.length ∧ i = .int .i64 k ∧ acc.length ≤ k ∧ Hid (outF P M vn (KS.drop k) = some rest) ∧ Hid (bs = acc ++ rest) ∧ OutsB (fun _ => False) w.heap.size wr l acc ∧ Grw w1 wr none l.ownBlock) (fun _ i _ => K.length - (intOf i).toNat)
  case atStart => exact ⟨0, [], bs, Nat.zero_le _, rfl, Nat.le_refl _, Ho, rfl, OutsB_nil, Grw.refl _ _⟩
  case round =>
    obtain ⟨k, acc, rest, hk, rfl, hacc, HL, Hbs, hout, hgrw⟩ := hrel
    have Hout := hide hout
    have Hgrw := hide hgrw
    have hzr := hgrw.gr.size
    have HbR1 : Hid (Below w1.heap.size w1 wr) := hgrw.below (Nat.le_refl _) (fun g hg => by cases hg)
    clear hout hgrw
    have HbR : Hid (Below w.heap.size w wr) := Hbw1.out.trans (HbR1.out.mono (by omega))
    by_cases hlt : k < K.length
    · have hlt2 : k < KS.length := by omega
      obtain ⟨v, hv⟩ : ∃ v, KS[k]? = some v := ⟨KS[k], List.getElem?_eq_getElem hlt2⟩
      obtain ⟨b1, off1, rfl, hc⟩ := Ints_some Hints.out (show 0 < KS.length by omega)
      have hcr : wr.cell? ⟨b1, off1 + k, none⟩ = some (.int .i64 v) := by
        have h1 := hc k hlt2
        rw [List.getD_eq_getElem?_getD, hv] at h1
        exact cell_below HbR1.out h1
      obtain ⟨hfv, hv0, hv1⟩ := Hf.out v (HKm.out v (List.mem_of_getElem? hv))
      have hlook := (HM.out.below HbR.out).look (t := 106) Tryz.underlying106 (Tryz.zero3 _) (k := v) (by omega) (by omega)
      rw [hfv] at hlook
      have hmcr : wr.cell? ⟨u, 1, none⟩ = some (.map (some mb)) := cell_below HbR1.out hmc1
      have hd : KS.drop k = v :: KS.drop (k + 1) := by
        rw [List.drop_eq_getElem_cons hlt2]
        have := (List.getElem?_eq_some_iff.1 hv).2
        rw [this]
      have hL := HL.out
      rw [hd] at hL
      obtain ⟨h, hh, hx⟩ := outF_cons hL
      have HUr := hide (HU.out.below HbR.out)
      have HH := hide (head_any q wr u b c P _ (vn v) h HUr.out hh)
      have Hx := hide hx
      have hkI : (k : Int) < K.length := by omega
      have hk0 : (0 : Int) ≤ k := by omega
      clear hv hc hfv hd hL HL hh hx
      go_wp2_with fail
      refine HH.out.mono ?_
      rintro e w' ⟨rfl, hw'⟩
      obtain rfl := hw'.symm
      clear hw' HH
      rcases Hx.out with ⟨e9, hrest⟩ | ⟨hne, t, bs', ht, hrest, hbs'⟩
      · have e0 : ((h : Int) != ((vn v : Nat) : Int)) = false := by simp [e9]
        have Hrest := hide hrest
        clear e9 hrest Hx
        go_wp2_with fail
        go_roundw
        case rel => exact ⟨k + 1, acc, rest, by omega, by go_num, by omega, Hrest, Hbs, Hout.out, Hgrw.out⟩
        case measure => simp [intOf]; omega
      · have e0 : ((h : Int) != ((vn v : Nat) : Int)) = true := by simp; omega
        have Hrest := hide hrest
        have Hbs2 : Hid (bs = (acc ++ [(v, t)]) ++ bs') := by show _ = _; rw [Hbs.out, hbs']; simp
        have HC := hide (made_any q u b c P M (vn v) t wr HUr.out ht)
        clear hne hrest hbs' ht Hx Hbs
        go_wp2_with (first
          | (go_at_call 289
             refine HC.out.mono ?_
             rintro e w2 ⟨a2, cap2, rfl, hin2, hb2⟩
             have hzw2 := hb2.size
             have Hout2 := hide (OutsB_below Hout.out hb2)
             obtain ⟨xs, hownL, hkids⟩ := Hout2.out
             have HO := hide (fun o1 => own_same hownL (w' := w2.alloc o1) (fun g hg => (below1 w2 o1).block g (own_lt hownL g hg).2))
             have HCi : Hid (InP (fun k' => (False ∨ w.heap.size ≤ k') ∧ u3.ownBlock ≠ some k') w2 t.args a2) := InP_imp (fun k' hk' => by
               have h8 : wr.heap.size ≤ k' := hk'
               refine ⟨Or.inr (by omega), fun e => ?_⟩
               obtain ⟨xs0, h0, _⟩ := Hout.out
               have := (own_lt h0 k' e).2
               omega) hin2
             have Hg2 := hide (Hgrw.out.trans (Grw.of_below _ hb2))
             clear hin2 hb2)
          | (at_builtin
             go_must (refine wpList_append_lies _ rfl (.tmp 29) (.tmp 35) 91 rfl w.heap.size 93 ti (.agg #[.int .i64 0, .int .i64 0, .int .i64 0, .slice none 0 0]) 4 48 Tryz.underlying91 hi hz0 hz1 hz2 rfl (by decide) u3 acc.length xs rfl (HO.out _) ⟨w2.heap.size, 0, none⟩ 1 1 [.int .i64 v, .int .i64 t.v, .int .i64 t.f, .slice a2 t.args.length cap2] rfl rfl (four_new (by first | rfl | simp)) (by simp [Value.oneCell']) (by decide) (by unfold maxLen; omega) (by omega) (by simp; omega) _ rfl ?_)
             intro g capg w3 hown3 hgr3 hat3 hlt3))
        have hO3 := OutsB_step (x := (v, t)) (KidsB_mono (fun k' hk' hlt' => ⟨hk', (below1 w2 _).block k' hlt'⟩) hkids) (InP_alloc _ HCi.out) hown3 hgr3 (hat3.imp id (fun h => by rw [h]))
        have hG3 : Grw w1 w3 none (Value.slice (some ⟨g, 0, none⟩) (acc.length + 1) capg).ownBlock := Hg2.out.trans ((Grw.of_below _ (below1 _ _)).trans ⟨hgr3, by
          rcases hat3 with h | h
          · exact Or.inl h.symm
          · exact Or.inr ⟨g, rfl, by rw [h]; simp⟩⟩)
        go_roundw
        case rel => exact ⟨k + 1, acc ++ [(v, t)], bs', by omega, by go_num, by simp; omega, Hrest, Hbs2, hO3, hG3⟩
        case measure => simp [intOf]; omega
    · have hk2 : k = KS.length := by omega
      have h9 := HL.out
      rw [hk2, List.drop_length, outF] at h9
      have hr0 : rest = [] := (Option.some.inj h9).symm
      have hbs : bs = acc := by rw [Hbs.out, hr0]; simp
      obtain ⟨la, lc, rfl, hinL⟩ := OutsB_end Hout.out
      have HinL := hide hinL
      have Hbs3 := hide hbs
      have hk3 : k = K.length := by omega
      subst hk3
      clear hinL Hout h9 hr0 hbs hk2 HL Hbs
      go_wp2_with fail
      go_ret
      rw [Hbs3.out]
      exact ⟨la, lc, rfl, Binds_imp (fun k' hk' => by rcases hk' with h | h; exact h.elim; exact h) HinL.out, HbR.out⟩

end Go.Proofs.YtbkedppkdhfpoabGreat

namespace Go.Proofs.YtbkedppkdhfpoabGreat

/-- No variable twice, and each one right. -/
def keysOk (vs : List (Int × Nat)) : Prop := (vs.map Prod.fst).Nodup ∧ ∀ x, x ∈ vs.map Prod.fst → 0 ≤ x ∧ x ≤ 1000
theorem lookN_isSome (vs : List (Int × Nat)) (v : Int) : v ∈ vs.map Prod.fst ↔ (lookN vs v).isSome = true := by
  induction vs with
  | nil => simp [lookN]
  | cons x vs ih =>
    rw [List.map_cons, List.mem_cons, ih, lookN]
    by_cases h : x.1 = v
    · rw [if_pos h]; simp [h]
    · rw [if_neg h]
      constructor
      · rintro (h' | h')
        · exact absurd h'.symm h
        · exact h'
      · exact Or.inr
theorem okP_var {ar : List Int} {t : T} (h : okP ar t) (hv : t.v ≠ 0) : t.args = [] := by
  have h1 := (okP_iff.1 h).1
  rw [partErr_var hv, varErr] at h1
  by_cases h2 : t.v < 1 ∨ 1000 < t.v
  · rw [if_pos h2] at h1; cases h1
  · rw [if_neg h2] at h1
    by_cases h3 : t.args.length ≠ 0 ∨ t.f ≠ 0
    · rw [if_pos h3] at h1; cases h1
    · exact List.length_eq_zero_iff.1 (by omega)
theorem add_keys {ar : List Int} : ∀ (n : Nat), (∀ (t : T) (s : List Pt × List (Int × Nat)), t.sz ≤ n → okP ar t → keysOk s.2 → keysOk (addT t s).2.2) ∧
    (∀ (ts : List T) (s : List Pt × List (Int × Nat)), T.sz.szL ts ≤ n → okP.okL ar ts → keysOk s.2 → keysOk (addT.addL ts s).2.2) := by
  intro n
  induction n with
  | zero =>
    refine ⟨fun t s h => by have := t.sz_pos; omega, fun ts s h _ hk => ?_⟩
    cases ts with
    | nil => exact hk
    | cons t ts => have := t.sz_pos; rw [T.szL_cons] at h; omega
  | succ n ih =>
    have h1 : ∀ (t : T) (s : List Pt × List (Int × Nat)), t.sz ≤ n + 1 → okP ar t → keysOk s.2 → keysOk (addT t s).2.2 := fun t s h hok hk => by
      have he := T.sz_eq t
      cases hlk : lookN s.2 t.v with
      | some m => rw [addT_known hlk]; exact hk
      | none =>
        rw [addT_new hlk]
        have h9 := ih.2 t.args s (by omega) (okP_iff.1 hok).2 hk
        show keysOk (if t.v = 0 then _ else _)
        by_cases hv : t.v = 0
        · rw [if_pos hv]; exact h9
        · rw [if_neg hv]
          have ha := okP_var hok hv
          rw [ha] at h9 ⊢
          have h8 : keysOk s.2 := h9
          have hb := okP_le hok
          refine ⟨?_, fun x hx => ?_⟩
          · rw [List.map_cons, List.nodup_cons]
            refine ⟨fun hm => ?_, h8.1⟩
            have h7 := (lookN_isSome s.2 t.v).1 hm
            rw [hlk] at h7; cases h7
          · rw [List.map_cons, List.mem_cons] at hx
            rcases hx with rfl | hx
            · exact hb
            · exact h8.2 x hx
    refine ⟨h1, fun ts => ?_⟩
    induction ts with
    | nil => intro s _ _ hk; exact hk
    | cons t ts iht =>
      intro s h hok hk
      rw [T.szL_cons] at h
      obtain ⟨o1, o2⟩ := okL_cons.1 hok
      exact iht (addT t s).2 (by omega) o2 (h1 t s (by omega) o1 hk)

/-- What Unify answers of terms that are right: bindings, whether there are some, an error; none: more than N steps. -/
def unifyF (N : Nat) (a b : T) : Option (List (Int × T) × Bool × Int) :=
  match joinF N (addT b (addT a ([], [])).2).2.1 (addT a ([], [])).1 (addT b (addT a ([], [])).2).1 with
  | none => none
  | some x => if x.1 = true then (match measF N x.2 (addT a ([], [])).1 with
    | none => none
    | some y => if y.1 = -1 then some ([], false, 0) else if 120 < y.1 then some ([], false, 2) else
      match outF y.2 N (fun v => (lookN (addT b (addT a ([], [])).2).2.2 v).getD 0) (((addT b (addT a ([], [])).2).2.2.map Prod.fst).mergeSort (fun x y => decide (x ≤ y))) with
      | none => none
      | some bs => some (bs, true, 0)) else some ([], false, 0)
theorem unifyF_some {N : Nat} {a b : T} {r : List (Int × T) × Bool × Int} (h : unifyF N a b = some r) : ∃ ok P2, joinF N (addT b (addT a ([], [])).2).2.1 (addT a ([], [])).1 (addT b (addT a ([], [])).2).1 = some (ok, P2) ∧
    ((ok = false ∧ r = ([], false, 0)) ∨ (ok = true ∧ ∃ m P3, measF N P2 (addT a ([], [])).1 = some (m, P3) ∧ ((m = -1 ∧ r = ([], false, 0)) ∨ (m ≠ -1 ∧ 120 < m ∧ r = ([], false, 2)) ∨
      (m ≠ -1 ∧ ¬ 120 < m ∧ ∃ bs, outF P3 N (fun v => (lookN (addT b (addT a ([], [])).2).2.2 v).getD 0) (((addT b (addT a ([], [])).2).2.2.map Prod.fst).mergeSort (fun x y => decide (x ≤ y))) = some bs ∧ r = (bs, true, 0))))) := by
  rw [unifyF] at h
  split at h
  · cases h
  · rename_i x hx
    obtain ⟨ok, P2⟩ := x
    refine ⟨ok, P2, hx, ?_⟩
    cases ok with
    | false => rw [if_neg (by simp)] at h; exact Or.inl ⟨rfl, (Option.some.inj h).symm⟩
    | true =>
      rw [if_pos rfl] at h
      refine Or.inr ⟨rfl, ?_⟩
      split at h
      · cases h
      · rename_i y hy
        obtain ⟨m, P3⟩ := y
        refine ⟨m, P3, hy, ?_⟩
        by_cases e1 : m = -1
        · rw [if_pos e1] at h; exact Or.inl ⟨e1, (Option.some.inj h).symm⟩
        · rw [if_neg e1] at h
          by_cases e2 : 120 < m
          · rw [if_pos e2] at h; exact Or.inr (Or.inl ⟨e1, e2, (Option.some.inj h).symm⟩)
          · rw [if_neg e2] at h
            split at h
            · cases h
            · rename_i bs hbs
              exact Or.inr (Or.inr ⟨e1, e2, bs, hbs, (Option.some.inj h).symm⟩)

end Go.Proofs.YtbkedppkdhfpoabGreat

namespace Go.Proofs.YtbkedppkdhfpoabGreat

/-- Heads, counted. -/
def isHd (P : List Pt) (k : Nat) : Bool := match P[k]? with
  | none => false
  | some p => p.like == k
def heads (P : List Pt) : Nat := (List.range P.length).countP (isHd P)

theorem countP_one {p q : Nat → Bool} {y : Nat} : ∀ {n : Nat}, y < n → (∀ k, k < n → k ≠ y → p k = q k) → p y = true → q y = false → (List.range n).countP q + 1 = (List.range n).countP p := by
  intro n
  induction n with
  | zero => intro h; omega
  | succ n ih =>
    intro h he hp hq
    rw [List.range_succ, List.countP_append, List.countP_append, List.countP_singleton, List.countP_singleton]
    by_cases e : y = n
    · subst e
      rw [hp, hq]
      have : (List.range y).countP q = (List.range y).countP p := List.countP_congr fun k hk => by
        have := List.mem_range.1 hk
        rw [he k (by omega) (by omega)]
      simp [this]
    · have := ih (by omega) (fun k hk hne => he k (by omega) hne) hp hq
      rw [he n (by omega) (by omega)]
      omega

/-- Parts that are as they should be. -/
structure WFp (P : List Pt) : Prop where
  args : ∀ (k : Nat) (p : Pt), P[k]? = some p → ∀ a, a ∈ p.args → a < k
  like : ∀ (k : Nat) (p : Pt), P[k]? = some p → p.like < P.length
  vle : ∀ (k : Nat) (p q : Pt), P[k]? = some p → P[p.like]? = some q → q.v ≤ p.v
  nn : ∀ (k : Nat) (p : Pt), P[k]? = some p → 0 ≤ p.v
  var : ∀ (k : Nat) (p : Pt), P[k]? = some p → p.v ≠ 0 → p.args = [] ∧ p.f = 0
  uniq : ∀ (j k : Nat) (p q : Pt), P[j]? = some p → P[k]? = some q → p.v = q.v → p.v ≠ 0 → j = k
  dep : ∃ d : Nat → Nat, (∀ (k : Nat) (p : Pt), P[k]? = some p → (p.like = k → d k = 0) ∧ (p.like ≠ k → d p.like < d k)) ∧ ∀ k, k < P.length → d k + heads P ≤ P.length

theorem headF_mono {P : List Pt} {r : Nat} : ∀ {n m k : Nat}, headF P n k = some r → n ≤ m → headF P m k = some r := by
  intro n
  induction n with
  | zero => intro m k h; cases h
  | succ n ih =>
    intro m k h hm
    obtain ⟨_, p, _, hp⟩ := headF_some h
    obtain ⟨m, rfl⟩ : ∃ j, m = j + 1 := ⟨m - 1, by omega⟩
    rw [headF_succ hp] at h ⊢
    by_cases e : p.like = k
    · rw [if_pos e] at h ⊢; exact h
    · rw [if_neg e] at h ⊢; exact ih h (by omega)
theorem headF_det {P : List Pt} {r s n m k : Nat} (h : headF P n k = some r) (h' : headF P m k = some s) : r = s := by
  have h1 := headF_mono h (Nat.le_max_left n m)
  have h2 := headF_mono h' (Nat.le_max_right n m)
  rw [h1] at h2; exact Option.some.inj h2
theorem headF_self {P : List Pt} {r : Nat} : ∀ {n k : Nat}, headF P n k = some r → ∃ p, P[r]? = some p ∧ p.like = r := by
  intro n
  induction n with
  | zero => intro k h; cases h
  | succ n ih =>
    intro k h
    obtain ⟨_, p, _, hp⟩ := headF_some h
    rw [headF_succ hp] at h
    by_cases e : p.like = k
    · rw [if_pos e] at h; cases h; exact ⟨p, hp, e⟩
    · rw [if_neg e] at h; exact ih h
theorem hd_some {P : List Pt} (h : WFp P) {k : Nat} (hk : k < P.length) : ∃ r, headF P (P.length + 1) k = some r := by
  obtain ⟨d, hd, hb⟩ := h.dep
  have key : ∀ n k, k < P.length → d k ≤ n → ∃ r, headF P (n + 1) k = some r := by
    intro n
    induction n with
    | zero =>
      intro k hk hdk
      have hp := List.getElem?_eq_getElem hk
      refine ⟨k, ?_⟩
      rw [headF_succ hp, if_pos]
      by_cases e : P[k].like = k
      · exact e
      · have := (hd k _ hp).2 e; omega
    | succ n ih =>
      intro k hk hdk
      have hp := List.getElem?_eq_getElem hk
      rw [headF_succ hp]
      by_cases e : P[k].like = k
      · exact ⟨k, by rw [if_pos e]⟩
      · rw [if_neg e]
        exact ih _ (h.like k _ hp) (by have := (hd k _ hp).2 e; omega)
  exact key P.length k hk (by have := hb k hk; omega)
/-- The head of a part. -/
def hd (P : List Pt) (k : Nat) : Nat := (headF P (P.length + 1) k).getD 0
theorem hd_eq {P : List Pt} (h : WFp P) {k : Nat} (hk : k < P.length) : headF P (P.length + 1) k = some (hd P k) := by
  obtain ⟨r, hr⟩ := hd_some h hk
  rw [hd, hr]; rfl
theorem hd_of {P : List Pt} {k n r : Nat} (h : WFp P) (hr : headF P n k = some r) : hd P k = r := by
  obtain ⟨_, p, _, hp⟩ := headF_some hr
  have hk := (List.getElem?_eq_some_iff.1 hp).1
  exact headF_det (hd_eq h hk) hr
theorem hd_lt {P : List Pt} (h : WFp P) {k : Nat} (hk : k < P.length) : hd P k < P.length := headF_lt (hd_eq h hk)
theorem hd_self {P : List Pt} (h : WFp P) {k : Nat} (hk : k < P.length) : ∃ p, P[hd P k]? = some p ∧ p.like = hd P k := headF_self (hd_eq h hk)
theorem hd_head {P : List Pt} (h : WFp P) {k : Nat} {p : Pt} (hp : P[k]? = some p) (e : p.like = k) : hd P k = k := hd_of (n := 1) h (by rw [headF_succ hp, if_pos e])
theorem hd_like {P : List Pt} (h : WFp P) {k : Nat} {p : Pt} (hp : P[k]? = some p) : hd P p.like = hd P k := by
  have hk := (List.getElem?_eq_some_iff.1 hp).1
  by_cases e : p.like = k
  · rw [e]
  · have h1 := hd_eq h (h.like k p hp)
    refine (hd_of (n := P.length + 1 + 1) h ?_).symm
    rw [headF_succ hp, if_neg e, h1]
theorem hd_hd {P : List Pt} (h : WFp P) {k : Nat} (hk : k < P.length) : hd P (hd P k) = hd P k := by
  obtain ⟨p, hp, e⟩ := hd_self h hk
  exact hd_head h hp e
/-- What holds of a part if it does of the one that it is like, holds of all if it does of heads. -/
theorem hd_ind {P : List Pt} (h : WFp P) (M : Nat → Prop) (h1 : ∀ (k : Nat) (p : Pt), P[k]? = some p → p.like = k → M k) (h2 : ∀ (k : Nat) (p : Pt), P[k]? = some p → p.like ≠ k → M p.like → M k) : ∀ k, k < P.length → M k := by
  obtain ⟨d, hd, _⟩ := h.dep
  have key : ∀ n k, k < P.length → d k ≤ n → M k := by
    intro n
    induction n with
    | zero =>
      intro k hk hdk
      have hp := List.getElem?_eq_getElem hk
      by_cases e : P[k].like = k
      · exact h1 k _ hp e
      · have := (hd k _ hp).2 e; omega
    | succ n ih =>
      intro k hk hdk
      have hp := List.getElem?_eq_getElem hk
      by_cases e : P[k].like = k
      · exact h1 k _ hp e
      · exact h2 k _ hp e (ih _ (h.like k _ hp) (by have := (hd k _ hp).2 e; omega))
  exact fun k hk => key _ k hk (Nat.le_refl _)
theorem hd_vle {P : List Pt} (h : WFp P) : ∀ (k : Nat), k < P.length → ∀ (p q : Pt), P[k]? = some p → P[hd P k]? = some q → q.v ≤ p.v := by
  refine hd_ind h _ (fun k p hp e p' q hp' hq => ?_) (fun k p hp e ih p' q hp' hq => ?_)
  · rw [hd_head h hp e] at hq
    rw [hp'] at hq; cases hq; omega
  · rw [hp] at hp'; cases hp'
    have hl := h.like k p hp
    have hr := List.getElem?_eq_getElem hl
    have h3 := h.vle k p _ hp hr
    have h4 := ih _ q hr (by rw [hd_like h hp]; exact hq)
    omega

/-- What is not a part's like. -/
def stJ (p : Pt) : Pt := { p with like := 0 }
def SameJ (P P' : List Pt) : Prop := P.map stJ = P'.map stJ
theorem SameJ.len {P P' : List Pt} (h : SameJ P P') : P'.length = P.length := by
  have := congrArg List.length h; simpa using this.symm
theorem SameJ.at {P P' : List Pt} (h : SameJ P P') {k : Nat} {p : Pt} (hp : P[k]? = some p) : ∃ p', P'[k]? = some p' ∧ p'.v = p.v ∧ p'.f = p.f ∧ p'.args = p.args ∧ p'.size = p.size := by
  have h1 : (P.map stJ)[k]? = (P'.map stJ)[k]? := by rw [h]
  rw [List.getElem?_map, List.getElem?_map, hp] at h1
  cases hp' : P'[k]? with
  | none => rw [hp'] at h1; cases h1
  | some p' =>
    rw [hp'] at h1
    simp only [Option.map_some, Option.some.injEq, stJ, Pt.mk.injEq] at h1
    exact ⟨p', rfl, h1.1.symm, h1.2.1.symm, h1.2.2.1.symm, h1.2.2.2.2.symm⟩
theorem SameJ.refl (P : List Pt) : SameJ P P := rfl
theorem SameJ.trans {P P' P'' : List Pt} (h : SameJ P P') (h' : SameJ P' P'') : SameJ P P'' := Eq.trans h h'
theorem SameJ.symm {P P' : List Pt} (h : SameJ P P') : SameJ P' P := Eq.symm h
theorem SameJ.set {P : List Pt} {y : Nat} {q : Pt} (hq : P[y]? = some q) (x : Nat) : SameJ P (P.set y { q with like := x }) := by
  refine List.ext_getElem? fun k => ?_
  rw [List.getElem?_map, List.getElem?_map]
  by_cases e : k = y
  · subst e
    have hk := (List.getElem?_eq_some_iff.1 hq).1
    rw [List.getElem?_set_self hk, hq]; rfl
  · rw [List.getElem?_set_ne (fun h => e h.symm)]

section
variable {P : List Pt} {x y : Nat} {p q : Pt}
/-- Head y is now like head x. -/
theorem link_head (hx : P[x]? = some p) (hy : P[y]? = some q) (ex : p.like = x) (ey : q.like = y) (ne : x ≠ y) : ∀ {n k r : Nat}, headF P n k = some r → headF (P.set y { q with like := x }) (n + 1) k = some (if r = y then x else r) := by
  have hyl := (List.getElem?_eq_some_iff.1 hy).1
  have h0 : ∀ n, headF (P.set y { q with like := x }) (n + 1) x = some x := fun n => by
    have : (P.set y { q with like := x })[x]? = some p := by rw [List.getElem?_set_ne (fun h => ne h.symm)]; exact hx
    rw [headF_succ this, if_pos ex]
  intro n
  induction n with
  | zero => intro k r h; cases h
  | succ n ih =>
    intro k r h
    obtain ⟨_, p', _, hp⟩ := headF_some h
    rw [headF_succ hp] at h
    by_cases e : k = y
    · subst e
      rw [hy] at hp; cases hp
      rw [if_pos ey] at h; cases h
      have h1 : (P.set k { q with like := x })[k]? = some { q with like := x } := List.getElem?_set_self hyl
      rw [headF_succ h1, if_neg (show ¬ x = k from ne), if_pos rfl]
      exact h0 n
    · have h1 : (P.set y { q with like := x })[k]? = some p' := by rw [List.getElem?_set_ne (fun h => e h.symm)]; exact hp
      rw [headF_succ h1]
      by_cases e2 : p'.like = k
      · rw [if_pos e2] at h ⊢; cases h; rw [if_neg e]
      · rw [if_neg e2] at h ⊢; exact ih h
theorem link_heads (hy : P[y]? = some q) (ey : q.like = y) (ne : x ≠ y) : heads (P.set y { q with like := x }) + 1 = heads P := by
  have hyl := (List.getElem?_eq_some_iff.1 hy).1
  rw [heads, heads, List.length_set]
  refine countP_one hyl (fun k hk hne => ?_) ?_ ?_
  · rw [isHd, isHd, List.getElem?_set_ne (fun h => hne h.symm)]
  · rw [isHd, hy]; simpa using ey
  · rw [isHd, List.getElem?_set_self hyl]; simpa using ne
theorem link_wf (h : WFp P) (hx : P[x]? = some p) (hy : P[y]? = some q) (ex : p.like = x) (ey : q.like = y) (ne : x ≠ y) (hv : p.v ≤ q.v) : WFp (P.set y { q with like := x }) := by
  have hs := SameJ.set hy x
  have hxl := (List.getElem?_eq_some_iff.1 hx).1
  have hyl := (List.getElem?_eq_some_iff.1 hy).1
  have hat : ∀ (k : Nat) (r : Pt), (P.set y { q with like := x })[k]? = some r → (k = y ∧ r = { q with like := x }) ∨ (k ≠ y ∧ P[k]? = some r) := fun k r hr => by
    by_cases e : k = y
    · subst e; rw [List.getElem?_set_self hyl] at hr; cases hr; exact Or.inl ⟨rfl, rfl⟩
    · rw [List.getElem?_set_ne (fun h => e h.symm)] at hr; exact Or.inr ⟨e, hr⟩
  refine ⟨fun k r hr a ha => ?_, fun k r hr => ?_, fun k r s hr hss => ?_, fun k r hr => ?_, fun k r hr => ?_, fun j k r s hr hss e1 e2 => ?_, ?_⟩
  · obtain ⟨r', h1, _, _, h2, _⟩ := hs.symm.at hr
    exact h.args k r' h1 a (by rw [h2]; exact ha)
  · rw [List.length_set]
    rcases hat k r hr with ⟨rfl, rfl⟩ | ⟨_, hr⟩
    · exact hxl
    · exact h.like k r hr
  · rcases hat k r hr with ⟨rfl, rfl⟩ | ⟨e, hr⟩
    · rw [List.getElem?_set_ne (fun h => ne h.symm), hx] at hss; cases hss; exact hv
    · obtain ⟨s', h1, h2, _⟩ := hs.symm.at hss
      rw [← h2]; exact h.vle k r s' hr h1
  · obtain ⟨r', h1, h2, _⟩ := hs.symm.at hr
    rw [← h2]; exact h.nn k r' h1
  · obtain ⟨r', h1, h2, h3, h4, _⟩ := hs.symm.at hr
    rw [← h2, ← h3, ← h4]; exact h.var k r' h1
  · obtain ⟨r', h1, h2, _⟩ := hs.symm.at hr
    obtain ⟨s', h3, h4, _⟩ := hs.symm.at hss
    exact h.uniq j k r' s' h1 h3 (by rw [h2, h4]; exact e1) (by rw [h2]; exact e2)
  · obtain ⟨d, hd1, hd2⟩ := h.dep
    refine ⟨fun k => if hd P k = y then d k + 1 else d k, fun k r hr => ?_, fun k hk => ?_⟩
    · rcases hat k r hr with ⟨rfl, rfl⟩ | ⟨e, hr⟩
      · refine ⟨fun e => absurd e ne, fun _ => ?_⟩
        show (if hd P x = k then d x + 1 else d x) < (if hd P k = k then d k + 1 else d k)
        rw [hd_head h hx ex, if_neg ne, hd_head h hy ey, if_pos rfl, (hd1 x p hx).1 ex]; omega
      · refine ⟨fun e2 => ?_, fun e2 => ?_⟩
        · show (if hd P k = y then d k + 1 else d k) = 0
          rw [hd_head h hr e2, if_neg e]; exact (hd1 k r hr).1 e2
        · show (if hd P r.like = y then d r.like + 1 else d r.like) < (if hd P k = y then d k + 1 else d k)
          rw [hd_like h hr]
          have := (hd1 k r hr).2 e2
          split <;> omega
    · rw [List.length_set] at hk ⊢
      have h1 := link_heads hy ey ne
      have h2 := hd2 k hk
      show (if hd P k = y then d k + 1 else d k) + _ ≤ _
      split <;> omega
theorem link_hd (h : WFp P) (hx : P[x]? = some p) (hy : P[y]? = some q) (ex : p.like = x) (ey : q.like = y) (ne : x ≠ y) (hv : p.v ≤ q.v) {k : Nat} (hk : k < P.length) : hd (P.set y { q with like := x }) k = if hd P k = y then x else hd P k :=
  hd_of (link_wf h hx hy ex ey ne hv) (link_head hx hy ex ey ne (hd_eq h hk))
end
end Go.Proofs.YtbkedppkdhfpoabGreat

namespace Go.Proofs.YtbkedppkdhfpoabGreat

/-- Where a function is like another part, that is the same function, of arguments that are the same. -/
def Good (P : List Pt) (k : Nat) : Prop := ∀ (p q : Pt), P[k]? = some p → P[p.like]? = some q → p.v ≠ 0 ∨ (q.v = 0 ∧ p.f = q.f ∧ p.args.length = q.args.length ∧ ∀ (i a b : Nat), p.args[i]? = some a → q.args[i]? = some b → hd P a = hd P b)

/-- What a joining leaves. -/
structure JO (P P' : List Pt) (ok : Bool) : Prop where
  sj : SameJ P P'
  wf : WFp P'
  hs : heads P' ≤ heads P
  mono : ∀ (i j : Nat), i < P.length → j < P.length → hd P i = hd P j → hd P' i = hd P' j
  links : ok = true → ∀ (k : Nat) (p p' : Pt), P[k]? = some p → P'[k]? = some p' → p'.like = p.like ∨ Good P' k
theorem JO.refl {P : List Pt} (h : WFp P) (ok : Bool) : JO P P ok := ⟨rfl, h, Nat.le_refl _, fun _ _ _ _ e => e, fun _ k p p' h1 h2 => by rw [h1] at h2; cases h2; exact Or.inl rfl⟩
theorem JO.good {P P' : List Pt} {ok : Bool} (h : JO P P' ok) (hw : WFp P) {k : Nat} {p p' : Pt} (h1 : P[k]? = some p) (h2 : P'[k]? = some p') (e : p'.like = p.like) (hg : Good P k) : Good P' k := by
  intro r s hr hss
  rw [h2] at hr; cases hr
  rw [e] at hss
  obtain ⟨s', h3, h4, h5, h6, _⟩ := h.sj.symm.at hss
  obtain ⟨p2, h7, h8, h9, h10, _⟩ := h.sj.symm.at h2
  rw [h1] at h7; cases h7
  rcases hg p s' h1 h3 with hg | ⟨g1, g2, g3, g4⟩
  · exact Or.inl (by rw [← h8]; exact hg)
  · refine Or.inr ⟨by rw [← h4]; exact g1, by rw [← h9, ← h5]; exact g2, by rw [← h10, ← h6]; exact g3, fun i a b ha hb => ?_⟩
    rw [← h10] at ha
    rw [← h6] at hb
    have hk := (List.getElem?_eq_some_iff.1 h1).1
    have hl := (List.getElem?_eq_some_iff.1 h3).1
    have la := hw.args k p h1 a (List.mem_of_getElem? ha)
    have lb := hw.args _ s' h3 b (List.mem_of_getElem? hb)
    exact h.mono a b (by omega) (by omega) (g4 i a b ha hb)
theorem JO.trans {P P' P'' : List Pt} {ok ok' : Bool} (h : JO P P' ok) (h' : JO P' P'' ok') (he : ok' = true → ok = true) : JO P P'' ok' := by
  refine ⟨h.sj.trans h'.sj, h'.wf, Nat.le_trans h'.hs h.hs, fun i j hi hj e => h'.mono i j (by rw [h.sj.len]; exact hi) (by rw [h.sj.len]; exact hj) (h.mono i j hi hj e), fun hk k p p'' h1 h2 => ?_⟩
  obtain ⟨p', h3, _⟩ := h.sj.at h1
  rcases h'.links hk k p' p'' h3 h2 with e | g
  · rcases h.links (he hk) k p p' h1 h3 with e2 | g
    · exact Or.inl (e.trans e2)
    · exact Or.inr (h'.good h.wf h3 h2 e g)
  · exact Or.inr g

/-- What parts are, where variables are what θ says. -/
def IsDen (θ : Int → T) (P : List Pt) (D : Nat → T) : Prop := ∀ (k : Nat) (p : Pt), P[k]? = some p → D k = if p.v = 0 then ⟨0, p.f, p.args.map D⟩ else θ p.v
theorem IsDen.same {θ : Int → T} {P P' : List Pt} {D : Nat → T} (h : IsDen θ P D) (hs : SameJ P P') : IsDen θ P' D := by
  intro k p hp
  obtain ⟨p', h1, h2, h3, h4, _⟩ := hs.symm.at hp
  rw [h k p' h1, h2, h3, h4]
/-- What is like another part is the same. -/
def Resp (P : List Pt) (D : Nat → T) : Prop := ∀ (k : Nat) (p : Pt), P[k]? = some p → D k = D p.like
theorem Resp.hd {P : List Pt} {D : Nat → T} (h : WFp P) (hr : Resp P D) : ∀ k, k < P.length → D k = D (hd P k) := by
  refine hd_ind h _ (fun k p hp e => by rw [hd_head h hp e]) (fun k p hp e ih => ?_)
  rw [hr k p hp, ih, hd_like h hp]

def JR (n : Nat) (P : List Pt) (i j : Nat) : Prop :=
  ∃ ok P', joinF n P i j = some (ok, P') ∧ JO P P' ok ∧ (ok = true → hd P' i = hd P' j) ∧ ∀ θ D, IsDen θ P D → Resp P D → D i = D j → ok = true ∧ Resp P' D

theorem eqR_ok {n : Nat} (ih : ∀ P i j, WFp P → i < P.length → j < P.length → heads P < n → JR n P i j) : ∀ (l m : List Nat) (P : List Pt), l.length = m.length → WFp P → heads P < n → (∀ a, a ∈ l → a < P.length) → (∀ a, a ∈ m → a < P.length) →
    ∃ ok P', eqR (joinF n) l m P = some (ok, P') ∧ JO P P' ok ∧ (ok = true → ∀ (i a b : Nat), l[i]? = some a → m[i]? = some b → hd P' a = hd P' b) ∧ ∀ θ D, IsDen θ P D → Resp P D → l.map D = m.map D → ok = true ∧ Resp P' D := by
  intro l
  induction l with
  | nil =>
    intro m P hl hw hh _ _
    cases m with
    | cons b m => simp at hl
    | nil => exact ⟨true, P, rfl, JO.refl hw _, fun _ i a b ha => by simp at ha, fun θ D _ hr _ => ⟨rfl, hr⟩⟩
  | cons a l ihl =>
    intro m P hl hw hh h1 h2
    cases m with
    | nil => simp at hl
    | cons b m =>
      obtain ⟨ok, P1, hj, hjo, hj1, hj2⟩ := ih P a b hw (h1 a List.mem_cons_self) (h2 b List.mem_cons_self) hh
      cases ok with
      | false =>
        refine ⟨false, P1, by rw [eqR, hj]; rfl, hjo, (fun h => by cases h), fun θ D hd hr he => ?_⟩
        simp only [List.map_cons, List.cons.injEq] at he
        cases (hj2 θ D hd hr he.1).1
      | true =>
        have hlen := hjo.sj.len
        obtain ⟨ok, P2, he, heo, he1, he2⟩ := ihl m P1 (by simpa using hl) hjo.wf (Nat.lt_of_le_of_lt hjo.hs hh) (fun x hx => by rw [hlen]; exact h1 x (List.mem_cons_of_mem _ hx)) (fun x hx => by rw [hlen]; exact h2 x (List.mem_cons_of_mem _ hx))
        refine ⟨ok, P2, by rw [eqR, hj]; exact he, hjo.trans heo (fun _ => rfl), fun hok i x y hx hy => ?_, fun θ D hd hr hm => ?_⟩
        · cases i with
          | zero =>
            simp only [List.getElem?_cons_zero, Option.some.injEq] at hx hy
            subst hx hy
            exact heo.mono _ _ (by rw [hlen]; exact h1 _ List.mem_cons_self) (by rw [hlen]; exact h2 _ List.mem_cons_self) (hj1 rfl)
          | succ i => exact he1 hok i x y (by simpa using hx) (by simpa using hy)
        · simp only [List.map_cons, List.cons.injEq] at hm
          exact he2 θ D (hd.same hjo.sj) (hj2 θ D hd hr hm.1).2 hm.2

theorem joinB_ok {n : Nat} (ih : ∀ P i j, WFp P → i < P.length → j < P.length → heads P < n → JR n P i j) {P : List Pt} {x y : Nat} {p q : Pt} (h : WFp P) (hx : P[x]? = some p) (hy : P[y]? = some q) (ex : p.like = x) (ey : q.like = y) (ne : x ≠ y) (hv : p.v ≤ q.v) (hh : heads P < n + 1) :
    ∃ ok P', joinB (joinF n) P x y p q = some (ok, P') ∧ JO P P' ok ∧ (ok = true → hd P' x = hd P' y) ∧ ∀ θ D, IsDen θ P D → Resp P D → D x = D y → ok = true ∧ Resp P' D := by
  have hxl := (List.getElem?_eq_some_iff.1 hx).1
  have hyl := (List.getElem?_eq_some_iff.1 hy).1
  have hsj := SameJ.set hy x
  have hwf := link_wf h hx hy ex ey ne hv
  have hhd := fun {k} (hk : k < P.length) => link_hd h hx hy ex ey ne hv hk
  have hhs := link_heads hy ey ne
  have hxy : hd (P.set y { q with like := x }) x = hd (P.set y { q with like := x }) y := by
    rw [hhd hxl, hhd hyl, hd_head h hx ex, hd_head h hy ey, if_neg ne, if_pos rfl]
  have hmono : ∀ (i j : Nat), i < P.length → j < P.length → hd P i = hd P j → hd (P.set y { q with like := x }) i = hd (P.set y { q with like := x }) j := fun i j hi hj e => by rw [hhd hi, hhd hj, e]
  have hlike : ∀ (k : Nat) (r r' : Pt), P[k]? = some r → (P.set y { q with like := x })[k]? = some r' → r'.like = r.like ∨ k = y := fun k r r' h1 h2 => by
    by_cases e : k = y
    · exact Or.inr e
    · rw [List.getElem?_set_ne (fun h => e h.symm), h1] at h2; cases h2; exact Or.inl rfl
  have hyq : (P.set y { q with like := x })[y]? = some { q with like := x } := List.getElem?_set_self hyl
  have hresp : ∀ D, Resp P D → D x = D y → Resp (P.set y { q with like := x }) D := fun D hr e k r hk => by
    by_cases e2 : k = y
    · subst e2; rw [hyq] at hk; cases hk; exact e.symm
    · rw [List.getElem?_set_ne (fun h => e2 h.symm)] at hk; exact hr k r hk
  rw [joinB]
  by_cases hq0 : q.v = 0
  · have hp0 : p.v = 0 := by have := h.nn x p hx; omega
    rw [if_pos hq0]
    have hnoG : ∀ ok : Bool, ok = false → JO P (P.set y { q with like := x }) ok := fun ok e => ⟨hsj, hwf, by omega, hmono, fun e2 => by rw [e] at e2; cases e2⟩
    by_cases hf : p.f = q.f
    · rw [if_pos hf, eqL]
      by_cases hl : p.args.length = q.args.length
      · rw [if_pos hl]
        obtain ⟨ok, P2, he, heo, he1, he2⟩ := eqR_ok ih p.args q.args _ hl hwf (by omega) (fun a ha => by rw [List.length_set]; have := h.args x p hx a ha; omega) (fun a ha => by rw [List.length_set]; have := h.args y q hy a ha; omega)
        refine ⟨ok, P2, he, ⟨hsj.trans heo.sj, heo.wf, by have := heo.hs; omega, fun i j hi hj e => heo.mono i j (by rw [List.length_set]; exact hi) (by rw [List.length_set]; exact hj) (hmono i j hi hj e), fun hok k r r2 h1 h2 => ?_⟩, fun _ => heo.mono x y (by rw [List.length_set]; exact hxl) (by rw [List.length_set]; exact hyl) hxy, fun θ D hd hr e => ?_⟩
        · obtain ⟨r1, h3, _⟩ := hsj.at h1
          rcases heo.links hok k r1 r2 h3 h2 with e | g
          · rcases hlike k r r1 h1 h3 with e2 | e2
            · exact Or.inl (e.trans e2)
            · subst e2
              rw [hyq] at h3; cases h3
              refine Or.inr ?_
              intro a b ha hb
              rw [h2] at ha; cases ha
              rw [e] at hb
              obtain ⟨b', g1, g2, g3, g4, _⟩ := (hsj.trans heo.sj).symm.at hb
              obtain ⟨a', g5, g6, g7, g8, _⟩ := (hsj.trans heo.sj).symm.at h2
              rw [hy] at g5; cases g5
              have hb3 : P[x]? = some b' := g1
              rw [hx] at hb3; cases hb3
              refine Or.inr ⟨by rw [← g2]; exact hp0, by rw [← g7, ← g3]; exact hf.symm, by rw [← g8, ← g4]; exact hl.symm, fun i u v hu hv => ?_⟩
              exact (he1 hok i v u (by rw [g4]; exact hv) (by rw [g8]; exact hu)).symm
          · exact Or.inr g
        · refine he2 θ D (hd.same hsj) (hresp D hr e) ?_
          rw [hd x p hx, hd y q hy, if_pos hp0, if_pos hq0] at e
          simp only [T.mk.injEq] at e
          exact e.2.2
      · rw [if_neg hl]
        refine ⟨false, _, rfl, hnoG _ rfl, (fun h => by cases h), fun θ D hd hr e => ?_⟩
        rw [hd x p hx, hd y q hy, if_pos hp0, if_pos hq0] at e
        simp only [T.mk.injEq] at e
        have := congrArg List.length e.2.2
        simp at this
        exact absurd this hl
    · rw [if_neg hf]
      refine ⟨false, _, rfl, hnoG _ rfl, (fun h => by cases h), fun θ D hd hr e => ?_⟩
      rw [hd x p hx, hd y q hy, if_pos hp0, if_pos hq0] at e
      simp only [T.mk.injEq] at e
      exact absurd e.2.1 hf
  · rw [if_neg hq0]
    refine ⟨true, _, rfl, ⟨hsj, hwf, by omega, hmono, fun _ k r r' h1 h2 => ?_⟩, fun _ => hxy, fun θ D hd hr e => ⟨rfl, hresp D hr e⟩⟩
    rcases hlike k r r' h1 h2 with e | e
    · exact Or.inl e
    · subst e
      refine Or.inr fun a b ha hb => Or.inl ?_
      rw [hyq] at ha; cases ha; exact hq0

theorem join_ok : ∀ (n : Nat) (P : List Pt) (i j : Nat), WFp P → i < P.length → j < P.length → heads P < n → JR n P i j := by
  intro n
  induction n with
  | zero => intro P i j _ _ _ h; omega
  | succ n ih =>
    intro P i j h hi hj hh
    have e1 := hd_eq h hi
    have e2 := hd_eq h hj
    obtain ⟨p, hp, ep⟩ := hd_self h hi
    obtain ⟨q, hq, eq⟩ := hd_self h hj
    have hdi := hd_hd h hi
    have hdj := hd_hd h hj
    have li := hd_lt h hi
    have lj := hd_lt h hj
    unfold JR
    by_cases e : hd P i = hd P j
    · refine ⟨true, P, by rw [joinF, e1, e2]; simp only [if_pos e], JO.refl h _, fun _ => e, fun θ D _ hr _ => ⟨rfl, hr⟩⟩
    · have hj1 : joinF (n + 1) P i j = if q.v < p.v then joinB (joinF n) P (hd P j) (hd P i) q p else joinB (joinF n) P (hd P i) (hd P j) p q := by
        rw [joinF, e1, e2]
        simp only [if_neg e, hp, hq]
      by_cases hv : q.v < p.v
      · obtain ⟨ok, P', h1, h2, h3, h4⟩ := joinB_ok ih h hq hp eq ep (fun e' => e e'.symm) (Int.le_of_lt hv) hh
        refine ⟨ok, P', by rw [hj1, if_pos hv]; exact h1, h2, fun hok => ?_, fun θ D hd hr he => h4 θ D hd hr ?_⟩
        · rw [h2.mono i _ hi li hdi.symm, h2.mono j _ hj lj hdj.symm]; exact (h3 hok).symm
        · rw [← Resp.hd h hr i hi, ← Resp.hd h hr j hj]; exact he.symm
      · obtain ⟨ok, P', h1, h2, h3, h4⟩ := joinB_ok ih h hp hq ep eq e (by omega) hh
        refine ⟨ok, P', by rw [hj1, if_neg hv]; exact h1, h2, fun hok => ?_, fun θ D hd hr he => h4 θ D hd hr ?_⟩
        · rw [h2.mono i _ hi li hdi.symm, h2.mono j _ hj lj hdj.symm]; exact h3 hok
        · rw [← Resp.hd h hr i hi, ← Resp.hd h hr j hj]; exact he
end Go.Proofs.YtbkedppkdhfpoabGreat
