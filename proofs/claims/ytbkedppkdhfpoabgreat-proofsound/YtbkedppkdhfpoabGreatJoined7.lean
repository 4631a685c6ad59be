/- What a part of the unifier has become, made. DERIVED: THE SHELF's CONTRACTS AT THIS DUMP, IN PLAIN WORDS (tools/lay-plain.mjs out of 'TryzSorted.lean', which tools/lay-shelf.mjs wrote): THE SAME DECLARATIONS UNDER THE SAME NAMES: 'import', 'namespace', 'open', 'def', 'theorem' AND NOTHING ELSE: no command of the shelf's: FOR A HAND-IN. Each laying: the table of numbers ('.._ren') and one theorem, a field a fact of the dump's own or the kernel's comparison; each contract: ONE APPLICATION. The keys of a map, sorted. The unifier's bindings, rising. What the program's Unify comes to, in pure words; the variables' numbers while parts are added. The program's Match: what it answers. The program's Unify. Parts and the heads that stand for them. -/
import Derived.Deep.AppendLies
import Derived.Ground.GgzProg
import Derived.Shelf.SlIterI.Nil
import Derived.Test.YtbkedppkdhfpoabGreatProg
import Derived.Test.YtbkedppkdhfpoabGreatJoined6
namespace Go.Proofs.YtbkedppkdhfpoabGreat
open Go.RowKit

/-- A term that is being made: k of its arguments are there. -/
structure Md (w wr : World) (v f : Int) (n : Nat) (L : List T) (k g b7 : Nat) : Prop where
  kids : ∃ cs, Kids (fun x => w.heap.size < x ∧ x ≠ g) wr (L.take k) cs ∧ ∀ j u, cs[j]? = some u → wr.cell? ⟨g, j, none⟩ = some u
  cells : ∀ j, j < n * 3 → ∃ u, wr.cell? ⟨g, j, none⟩ = some u
  fr : ∀ j, wr.frozen? ⟨g, j, none⟩ = false
  made : Three wr b7 (.int .i64 v) (.int .i64 f) (.slice (some ⟨g, 0, none⟩) n n)
  res : Three wr (w.heap.size) (.int .i64 0) (.int .i64 0) (.slice none 0 0)
  below : Below w.heap.size w wr
  gg : w.heap.size < g
  gl : g < wr.heap.size
  bb : w.heap.size < b7
  ne : b7 ≠ g
theorem Md.step {w wr w2 : World} {v f : Int} {n k g b7 : Nat} {L : List T} {c : T} {a2 : Option Addr} {cap2 : Nat} (h : Md w wr v f n L k g b7) (hL : L.length = n) (hc : L[k]? = some c) (hb : Below wr.heap.size wr w2) (hi : InP (fun x => wr.heap.size ≤ x) w2 c.args a2) :
    Md w (set3 w2 g (k * 3) (.int .i64 c.v) (.int .i64 c.f) (.slice a2 c.args.length cap2)) v f n L (k + 1) g b7 := by
  have hk : k < n := by
    rcases Nat.lt_or_ge k L.length with h | h
    · omega
    · rw [List.getElem?_eq_none h] at hc; cases hc
  have hgl := h.gl
  have hgg := h.gg
  have hwb := h.below.size
  have hb' : Below wr.heap.size wr w2 := hb
  have hs2 := hb'.size
  obtain ⟨cs, hk1, hk2⟩ := h.kids
  have hcl := Kids_length hk1
  rw [List.length_take_of_le (by omega)] at hcl
  have hcells : ∀ j, j < n * 3 → ∃ u, w2.cell? ⟨g, j, none⟩ = some u := fun j hj => by
    rw [hb'.cell (p := ⟨g, j, none⟩) hgl]; exact h.cells j hj
  have hsame := set3_same (w := w2) (b := g) (off := k * 3) (u0 := .int .i64 c.v) (u1 := .int .i64 c.f) (u2 := .slice a2 c.args.length cap2) (fun j _ hj2 => hcells j (by omega))
  refine ⟨⟨cs ++ [.int .i64 c.v, .int .i64 c.f, .slice a2 c.args.length cap2], ?_, ?_⟩, ?_, ?_, (h.made.below hb').same (set3_block h.ne), (h.res.below hb').same (set3_block (by have := h.gg; omega)), below_set3 (h.below.trans (hb'.mono hwb)) (by have := h.gg; omega) _ _ _, h.gg, by rw [set3_size]; omega, h.bb, h.ne⟩
  · rw [List.take_add_one, hc]
    refine Kids_append (Kids_mono (fun x hx hxl => ⟨hx, by rw [set3_block hx.2]; exact hb'.block x hxl⟩) hk1) ⟨a2, cap2, [], rfl, ?_, rfl⟩
    refine InP_mono (fun b o v hp hv => ?_) _ _ _ (Nat.le_refl _) hi
    have hp : wr.heap.size ≤ b := hp
    exact ⟨⟨by omega, by omega⟩, by rw [World.cell?_of_block (w := w2) (a := ⟨b, o, none⟩) (set3_block (show b ≠ g by omega))]; exact hv⟩
  · intro j u hu
    rcases Nat.lt_or_ge j cs.length with hj | hj
    · rw [List.getElem?_append_left hj] at hu
      rw [set3_cell (by omega), hb'.cell (p := ⟨g, j, none⟩) hgl]; exact hk2 j u hu
    · rw [List.getElem?_append_right hj, hcl] at hu
      have hj3 : j - k * 3 = 0 ∨ j - k * 3 = 1 ∨ j - k * 3 = 2 := by
        rcases Nat.lt_or_ge (j - k * 3) 3 with h9 | h9
        · omega
        · rw [List.getElem?_eq_none (by simpa using h9)] at hu; cases hu
      rcases hj3 with e | e | e
      · rw [e] at hu
        obtain rfl : Value.int .i64 c.v = u := by simpa using hu
        rw [show j = k * 3 by omega]; exact hsame.1
      · rw [e] at hu
        obtain rfl : Value.int .i64 c.f = u := by simpa using hu
        rw [show j = k * 3 + 1 by omega]; exact hsame.2.1
      · rw [e] at hu
        obtain rfl : Value.slice a2 c.args.length cap2 = u := by simpa using hu
        rw [show j = k * 3 + 2 by omega]; exact hsame.2.2
  · intro j hj
    by_cases h3 : j < k * 3 ∨ k * 3 + 2 < j
    · rw [set3_cell h3]; exact hcells j hj
    · have : j = k * 3 ∨ j = k * 3 + 1 ∨ j = k * 3 + 2 := by omega
      rcases this with rfl | rfl | rfl
      · exact ⟨_, hsame.1⟩
      · exact ⟨_, hsame.2.1⟩
      · exact ⟨_, hsame.2.2⟩
  · intro j
    rw [set3_frozen, hb'.frozen (p := ⟨g, j, none⟩) hgl]; exact h.fr j
theorem Md.fin {w wr : World} {v f : Int} {n g b7 : Nat} {L : List T} (h : Md w wr v f n L n g b7) (hL : L.length = n) : InP (fun x => w.heap.size < x) wr L (some ⟨g, 0, none⟩) := by
  obtain ⟨cs, h1, h2⟩ := h.kids
  rw [← hL, List.take_length] at h1
  exact Kids_in h.gg (Kids_mono (fun x hx _ => ⟨hx.1, rfl⟩) h1) (fun j u hu => by rw [Nat.zero_add]; exact h2 j u hu)

theorem Md.start {w wr : World} {v f : Int} {n g b7 : Nat} {L : List T} (hg : wr.heap[g]? = some (.cells (row3 n) 77)) (h7 : Three wr b7 (.int .i64 v) (.int .i64 f) (.slice (some ⟨g, 0, none⟩) n n)) (hr : Three wr (w.heap.size) (.int .i64 0) (.int .i64 0) (.slice none 0 0)) (hb : Below w.heap.size w wr) (h1 : w.heap.size < g) (h2 : w.heap.size < b7) (h3 : b7 ≠ g) : Md w wr v f n L 0 g b7 := by
  refine ⟨⟨[], rfl, fun j u hu => by simp at hu⟩, fun j hj => ?_, fun j => frozen_of_heap hg j, h7, hr, hb, h1, (Array.getElem?_eq_some_iff.1 hg).1, h2, h3⟩
  have hs : j < (row3 n).size := by rw [size_row3]; exact hj
  refine ⟨(row3 n)[j], ?_⟩
  unfold World.cell?
  rw [hg]
  simp [hs]
theorem Md.behind {w wr : World} {v f : Int} {n k g b7 : Nat} {L : List T} (h : Md w wr v f n L k g b7) (hk : k < n) : ∀ (w2 : World), Below wr.heap.size wr w2 → (w2.cell? ⟨b7, 2, none⟩ = some (.slice (some ⟨g, 0, none⟩) n n)) ∧
      (∃ v0 v1 v2, w2.cell? ⟨g, k * 3, none⟩ = some v0 ∧ w2.cell? ⟨g, k * 3 + 1, none⟩ = some v1 ∧ w2.cell? ⟨g, k * 3 + 2, none⟩ = some v2) ∧ (∀ j, w2.frozen? ⟨g, j, none⟩ = false) := by
  intro w2 hb
  have hb' : Below wr.heap.size wr w2 := hb
  have hgl := h.gl
  obtain ⟨v0, e0⟩ := h.cells (k * 3) (by omega)
  obtain ⟨v1, e1⟩ := h.cells (k * 3 + 1) (by omega)
  obtain ⟨v2, e2⟩ := h.cells (k * 3 + 2) (by omega)
  exact ⟨(h.made.below hb').c2, ⟨v0, v1, v2, cell_below hb' e0, cell_below hb' e1, cell_below hb' e2⟩, fun j => by rw [hb'.frozen (p := ⟨g, j, none⟩) hgl]; exact h.fr j⟩


/-- The terms of some parts. -/
def madeL (rec : Nat → Option T) : List Nat → Option (List T)
  | [] => some []
  | a :: l => match rec a with
    | none => none
    | some t => match madeL rec l with
      | none => none
      | some ts => some (t :: ts)
/-- What a part has become; none: more than n steps. -/
def madeF (P : List Pt) : Nat → Nat → Option T
  | 0, _ => none
  | n + 1, k => match headF P (P.length + 1) k with
    | none => none
    | some h => match P[h]? with
      | none => none
      | some p => match madeL (madeF P n) p.args with
        | none => none
        | some ts => some ⟨p.v, p.f, ts⟩
theorem madeF_some {P : List Pt} {n k : Nat} {t : T} (hm : madeF P n k = some t) : ∃ m h p ts, n = m + 1 ∧ headF P (P.length + 1) k = some h ∧ P[h]? = some p ∧ madeL (madeF P m) p.args = some ts ∧ t = ⟨p.v, p.f, ts⟩ := by
  cases n with
  | zero => cases hm
  | succ n =>
    rw [madeF] at hm
    split at hm
    · cases hm
    · rename_i h hh
      split at hm
      · cases hm
      · rename_i p hp
        split at hm
        · cases hm
        · rename_i ts hts
          exact ⟨n, h, p, ts, rfl, hh, hp, hts, (Option.some.inj hm).symm⟩
theorem madeL_at {rec : Nat → Option T} : ∀ {l : List Nat} {ts : List T}, madeL rec l = some ts → ts.length = l.length ∧ ∀ k, k < l.length → ∃ c, ts[k]? = some c ∧ rec (l.getD k 0) = some c := by
  intro l
  induction l with
  | nil => intro ts h; rw [madeL] at h; cases h; exact ⟨rfl, fun k hk => by simp at hk⟩
  | cons a l ih =>
    intro ts h
    rw [madeL] at h
    split at h
    · cases h
    · rename_i t ht
      split at h
      · cases h
      · rename_i us hus
        cases h
        obtain ⟨h1, h2⟩ := ih hus
        refine ⟨by simp [h1], fun k hk => ?_⟩
        cases k with
        | zero => exact ⟨t, rfl, ht⟩
        | succ k =>
          obtain ⟨c, hc, hr⟩ := h2 k (by simpa using hk)
          exact ⟨c, by simpa using hc, by simpa using hr⟩

theorem UAt.alloc {q : Nat → Prop} {w : World} {u b c : Nat} {P : List Pt} (h : UAt q w u b c P) (o : Obj) : UAt q (w.alloc o) u b c P := h.below (below1 _ _)
theorem UAt.drew {q : Nat → Prop} {w : World} {u b c : Nat} {P : List Pt} (h : UAt q w u b c P) : UAt q w.drew u b c P := h.below (Below.drew (Below.refl _ _))
attribute [local go_sem ↓] Go.wp_at_zero Go.wp_at_succ
set_option maxRecDepth 100000 in
set_option maxHeartbeats 2000000 in
theorem made_any (q : Nat → Prop) (u b c : Nat) (P : List Pt) (N : Nat) : ∀ (k : Nat) (t : T) (w : World), UAt q w u b c P → madeF P N k = some t →
    Calls Tryz.prog 289 #[.pointer (some ⟨u, 0, none⟩), .int .i64 (k : Int)] w fun e w' =>
      ∃ a' cap', e = .returned (.agg #[.int .i64 t.v, .int .i64 t.f, .slice a' t.args.length cap']) ∧ InP (fun k => w.heap.size ≤ k) w' t.args a' ∧ Below w.heap.size w w' := by
  induction N with
  | zero => intro k t w _ h; cases h
  | succ N ih =>
    intro k t w hU hm
    obtain ⟨m, h, p, L, hN, hh, hp, hts, rfl⟩ := madeF_some hm
    obtain rfl : N = m := by omega
    obtain ⟨hLl, hLk⟩ := madeL_at hts
    simp only
    obtain ⟨W0, hW0⟩ : ∃ W0, W0 = w.alloc (.cells #[.int .i64 0, .int .i64 0, .slice none 0 0] 77) := ⟨_, rfl⟩
    have hb0 : Below w.heap.size w W0 := by rw [hW0]; exact below1 _ _
    have hz0 : W0.heap.size = w.heap.size + 1 := by rw [hW0]; simp
    have hR0 : Hid (Three W0 w.heap.size (.int .i64 0) (.int .i64 0) (.slice none 0 0)) := by rw [hW0]; exact Three.new 77 rfl
    have HU0 := hide (hU.below hb0)
    have hhl := (List.getElem?_eq_some_iff.1 hp).1
    obtain ⟨ta, tl, tc, aa, ac, y0, y1, y2, y3, y4, y5, hnx⟩ := hU.at6 h p hp
    have x0 := cell_below hb0 y0
    have x1 := cell_below hb0 y1
    have x2 := cell_below hb0 y2
    have x3 := cell_below hb0 y3
    have x4 := cell_below hb0 y4
    have x5 := cell_below hb0 y5
    have HUw := hide hU
    have cu := HU0.out.list
    have hlen := HU0.out.len
    have hub0 : u < W0.heap.size := lt_of_cell cu
    have hbb0 : b < W0.heap.size := HU0.out.ltb
    have hhI : (h : Int) < P.length := by omega
    have hh0 : (0 : Int) ≤ h := by omega
    have hal := hnx.1
    have Hnx := hide hnx
    have Hh := hide hh
    have HLk := hide hLk
    have Hih := hide ih
    have HW0 := hide hW0
    have Hb0 := hide hb0
    have Hz0 := hide hz0
    clear y0 y1 y2 y3 y4 y5 hz0 hm hU hN hh hp hts hLk hW0 hnx ih hb0
    go_enter Tryz.func289, Tryz.ntmps289
    go_upto_region 1 with fail
    rw [← HW0.out]
    go_cut [5] (fun v5 wc => ∃ n5, v5 = .pointer (some ⟨n5, 0, none⟩) ∧ Six wc n5 (.int .i64 p.v) (.int .i64 p.f) (.slice ta tl tc) (.slice aa p.args.length ac) (.int .i64 (p.like : Int)) (.int .i64 p.size) ∧ Hid (Below W0.heap.size W0 wc))
    case first => as_aux_lemma =>
      go_region_with (go_at_call 286; refine (head_any q _ u b c P (P.length + 1) k h ?_ Hh.out).mono ?_; (focus ((repeat' (first | with_reducible exact HU0.out | with_reducible refine UAt.alloc ?_ _ | with_reducible refine UAt.drew ?_)); done)); rintro e w' ⟨rfl, hw'⟩; obtain rfl := hw'.symm; clear hw')
      all_goals (go_wp2_with fail; go_meet; refine ⟨_, rfl, ?_, ?_⟩)
      all_goals first | exact Below.drew (below1 _ _) | exact below1 _ _ | (refine Six.below ?_ (Below.drew (Below.refl _ _)); exact Six.new _ (by simp)) | exact Six.new _ rfl
    case rest => as_aux_lemma =>
      obtain ⟨n5, rfl, h5, HBc⟩ := hcut
      obtain ⟨W2, hW2⟩ : ∃ W2, W2 = wc := ⟨_, rfl⟩
      subst hW2
      have hmk := run_make3 p.args.length (by omega)
      have Hb2 : Hid (Below w.heap.size w W2) := Hb0.out.trans (HBc.out.mono (by have := Hz0.out; omega))
      have hzw : w.heap.size < W2.heap.size := by have h1 := Hz0.out; have h2 := HBc.out.size; omega
      have HR2 := hide (hR0.out.below HBc.out)
      have H52 := hide h5
      obtain ⟨s0, s1, s2, s3, s4, s5⟩ := h5
      have hn5 := lt_of_cell s0
      clear hub0 hbb0 cu x0 x1 x2 x3 x4 x5 HU0 HW0 hR0 HBc Hb0
      go_upto_region 2 with fail
      go_cut [6] (fun v6 wd => ∃ g b6, v6 = .pointer (some ⟨b6, 0, none⟩) ∧ Md w wd p.v p.f p.args.length L 0 g b6 ∧ Hid (Below W2.heap.size W2 wd))
      case first => as_aux_lemma =>
        go_region
        all_goals (go_wp2_with fail; go_meet)
        · refine ⟨W2.heap.size, W2.heap.size + 1, rfl, Md.start ?_ ?_ ?_ ?_ (by omega) (by omega) (by omega), ?_⟩
          · exact (Below.heap_alloc (W2.alloc _) _ _ (by simp)).trans (heap_alloc_new W2 _)
          · exact Three.same (Three.new 77 (by rw [World.size_alloc])) rfl
          · exact Three.same ((HR2.out.alloc _).alloc _) rfl
          · exact Below.drew (Hb2.out.trans ((below2 _ _ _).mono (by omega)))
          · exact Below.drew (below2 _ _ _)
        · refine ⟨W2.heap.size + 1, W2.heap.size, rfl, Md.start ?_ ?_ ?_ ?_ (by omega) (by omega) (by omega), ?_⟩
          · have h9 := heap_alloc_new (W2.alloc (.cells #[.int .i64 p.v, .int .i64 p.f, .slice (some ⟨W2.heap.size + 1, 0, none⟩) p.args.length p.args.length] 77)) (.cells (row3 p.args.length) 77)
            rw [World.size_alloc] at h9
            exact h9
          · exact Three.same ((Three.new 77 rfl).alloc _) rfl
          · exact Three.same ((HR2.out.alloc _).alloc _) rfl
          · exact Below.drew (Hb2.out.trans ((below2 _ _ _).mono (by omega)))
          · exact Below.drew (below2 _ _ _)
      case rest => as_aux_lemma =>
        obtain ⟨g, b6, rfl, hmd0, HBd⟩ := hcut
        have Hmd0 := hide hmd0
        obtain ⟨r0, r1, r2, r3, r4, r5⟩ := H52.out.below HBd.out
        obtain ⟨WD, hWD⟩ : ∃ WD, WD = wc := ⟨_, rfl⟩
        subst hWD
        clear hmd0 hmk s0 s1 s2 s3 s4 s5 HR2 H52 HBd
        go_wp2_with fail
        go_loopw [32] (fun i wr => ∃ (j : Nat), j ≤ p.args.length ∧ i = .int .i64 j ∧ Md w wr p.v p.f p.args.length L j g b6) (fun i _ => p.args.length - (intOf i).toNat)
        case atStart => exact ⟨0, Nat.zero_le _, rfl, Hmd0.out⟩
        case round =>
          obtain ⟨j, hj, rfl, hmd⟩ := hrel
          have Hmd := hide hmd
          have HUr := hide (HUw.out.below hmd.below)
          obtain ⟨d0, d1, d2, g0, g1, g2⟩ := hmd.res
          obtain ⟨p0, p1, p2, _, _, _⟩ := hmd.made
          have hgl := hmd.gl
          have hbl := hmd.made.lt
          have hgg := hmd.gg
          have Hnr := hide (NumsQ_below hmd.below Hnx.out)
          clear hmd r0 r1 r2 r3 r4 r5
          by_cases hlt : j < p.args.length
          · obtain ⟨nb, noff, rfl, _, hcell⟩ := NumsQ_at Hnr.out (show 0 < p.args.length by omega)
            have cj := hcell j hlt
            obtain ⟨cT, hcT, hrec⟩ := HLk.out j hlt
            have HLc := hide hcT
            have Hrec := hide hrec
            have Hcall := hide (Hmd.out.behind hlt)
            generalize p.args.getD j 0 = aj at *
            have hjI : (j : Int) < p.args.length := by omega
            have hj0 : (0 : Int) ≤ j := by omega
            have hj3 : j ≤ 100000 := by omega
            clear hcell hcT hrec
            go_wp2_with fail
            go_region_with (go_at_call 289; refine (Hih.out aj cT _ ?_ Hrec.out).mono ?_; (focus (first | with_reducible exact HUr.out | exact HUr.out.drew)); rintro e w2 ⟨a2, cap2, rfl, hin2, hb1⟩; have hb2 : Below wr.heap.size wr w2 := below_undrew hb1; clear hb1; obtain ⟨q2, ⟨v0, v1, v2, e0, e1, e2⟩, qf⟩ := Hcall.out w2 hb2; have q0 := qf (j * 3); have q1 := qf (j * 3 + 1); have q3 := qf (j * 3 + 2); clear qf)
            all_goals
              go_wp2_with fail
              go_roundw
              case rel => exact ⟨j + 1, by omega, by go_num, Hmd.out.step hLl HLc.out hb2 hin2⟩
              case measure => simp [intOf]; omega
          · have hk2 : j = p.args.length := by omega
            subst hk2
            have HF := hide (Hmd.out.fin hLl)
            have Hres := hide (Hmd.out.res.set (.int .i64 p.v) (.int .i64 p.f) (.slice (some ⟨g, 0, none⟩) p.args.length p.args.length))
            have Hbw := hide Hmd.out.below
            go_wp2_with fail
            obtain ⟨z0, z1, z2, _, _, _⟩ := Hres.out
            simp only [set3, Nat.zero_add] at z0 z1 z2
            exact bodyPost_ret (v := .agg #[.int .i64 p.v, .int .i64 p.f, .slice (some ⟨g, 0, none⟩) p.args.length p.args.length]) (by simp [results, Tryz.results289, go_sem, z0, z1, z2]) rfl ⟨some ⟨g, 0, none⟩, p.args.length, by rw [hLl], InP_imp (fun j hj => by omega) (InP_same (fun j hj _ => set3_block (b := w.heap.size) (off := 0) (show j ≠ _ by omega)) HF.out), below_set3 (b := w.heap.size) (off := 0) Hbw.out (by omega) _ _ _⟩

end Go.Proofs.YtbkedppkdhfpoabGreat

namespace Go.Proofs
open Go.Shelf
def Tryz.keysB_ren : Go.Shelf.Ren := ⟨fun | 7 => 306 | 10 => 315 | n => n, fun | 23 => 319 | 26 => 3 | 3 => 77 | 28 => 284 | 0 => 0 | 27 => 283 | 33 => 214 | 4 => 4 | n => n, fun | n => n⟩
theorem Tryz.keysB : Go.Proofs.SlLaysZI.n7 Tryz.prog Tryz.keysB_ren := {
  mixed := by kernel_rfl
  f7 := ⟨Tryz.f306.name, by decide, Tryz.func306.trans (congrArg some (by kernel_rfl))⟩
  f10 := ⟨Tryz.f315.name, by decide, Tryz.func315.trans (congrArg some (by kernel_rfl))⟩
  t0 := Tryz.underlying0
  a0 := Tryz.isAgg0
  z0 := Tryz.sizeOf0
  v0 := Tryz.zeroValue0
  t4 := Tryz.underlying4
  a4 := Tryz.isAgg4
  z4 := Tryz.sizeOf4
  v4 := Tryz.zeroValue4
  t23 := Tryz.underlying319
  a23 := Tryz.isAgg319
  z23 := Tryz.sizeOf319
  v23 := Tryz.zeroValue319
  t26 := Tryz.underlying3
  a26 := Tryz.isAgg3
  z26 := Tryz.sizeOf3
  v26 := Tryz.zeroValue3
  t27 := Tryz.underlying283
  a27 := Tryz.isAgg283
  z27 := Tryz.sizeOf283
  v27 := Tryz.zeroValue283
  t28 := Tryz.underlying284
  a28 := Tryz.isAgg284
  z28 := Tryz.sizeOf284
  v28 := Tryz.zeroValue284
  t33 := Tryz.underlying214
  a33 := Tryz.isAgg214
  z33 := Tryz.sizeOf214
  v33 := Tryz.zeroValue214 }
def Tryz.keysI_ren : Go.Shelf.Ren := ⟨fun | 7 => 288 | 10 => 307 | n => n, fun | 23 => 106 | 26 => 3 | 3 => 3 | 28 => 284 | 0 => 0 | 27 => 283 | 33 => 214 | 4 => 4 | n => n, fun | n => n⟩
theorem Tryz.keysI : Go.Proofs.SlLaysZI.n7 Tryz.prog Tryz.keysI_ren := {
  mixed := by kernel_rfl
  f7 := ⟨Tryz.f288.name, by decide, Tryz.func288.trans (congrArg some (by kernel_rfl))⟩
  f10 := ⟨Tryz.f307.name, by decide, Tryz.func307.trans (congrArg some (by kernel_rfl))⟩
  t0 := Tryz.underlying0
  a0 := Tryz.isAgg0
  z0 := Tryz.sizeOf0
  v0 := Tryz.zeroValue0
  t4 := Tryz.underlying4
  a4 := Tryz.isAgg4
  z4 := Tryz.sizeOf4
  v4 := Tryz.zeroValue4
  t23 := Tryz.underlying106
  a23 := Tryz.isAgg106
  z23 := Tryz.sizeOf106
  v23 := Tryz.zeroValue106
  t26 := Tryz.underlying3
  a26 := Tryz.isAgg3
  z26 := Tryz.sizeOf3
  v26 := Tryz.zeroValue3
  t27 := Tryz.underlying283
  a27 := Tryz.isAgg283
  z27 := Tryz.sizeOf283
  v27 := Tryz.zeroValue283
  t28 := Tryz.underlying284
  a28 := Tryz.isAgg284
  z28 := Tryz.sizeOf284
  v28 := Tryz.zeroValue284
  t33 := Tryz.underlying214
  a33 := Tryz.isAgg214
  z33 := Tryz.sizeOf214
  v33 := Tryz.zeroValue214 }
def Tryz.sortedB_ren : Go.Shelf.Ren := ⟨fun | 6 => 240 | 8 => 272 | 9 => 130 | 11 => 302 | 13 => 173 | 12 => 172 | 23 => 222 | 24 => 223 | 14 => 213 | 15 => 214 | 16 => 215 | 17 => 216 | 18 => 217 | 19 => 218 | 20 => 219 | 21 => 220 | 22 => 221 | 25 => 252 | 26 => 253 | 27 => 254 | 28 => 255 | 29 => 256 | 30 => 257 | 31 => 285 | n => n, fun | 26 => 3 | 28 => 284 | 24 => 22 | 0 => 0 | 3 => 3 | 37 => 218 | 48 => 267 | 50 => 269 | 4 => 4 | 40 => 260 | 39 => 259 | 45 => 264 | 5 => 5 | 9 => 9 | 51 => 290 | 55 => 294 | 57 => 321 | 58 => 322 | 33 => 214 | n => n, fun | n => n⟩
theorem Tryz.sortedB : Go.Proofs.SlLaysZI.n6 Tryz.prog Tryz.sortedB_ren := {
  mixed := by kernel_rfl
  f6 := ⟨Tryz.f240.name, by decide, Tryz.func240.trans (congrArg some (by kernel_rfl))⟩
  f8 := ⟨Tryz.f272.name, by decide, Tryz.func272.trans (congrArg some (by kernel_rfl))⟩
  f11 := ⟨Tryz.f302.name, by decide, Tryz.func302.trans (congrArg some (by kernel_rfl))⟩
  t0 := Tryz.underlying0
  a0 := Tryz.isAgg0
  z0 := Tryz.sizeOf0
  v0 := Tryz.zeroValue0
  t24 := Tryz.underlying22
  a24 := Tryz.isAgg22
  z24 := Tryz.sizeOf22
  v24 := Tryz.zeroValue22
  t26 := Tryz.underlying3
  a26 := Tryz.isAgg3
  z26 := Tryz.sizeOf3
  v26 := Tryz.zeroValue3
  t28 := Tryz.underlying284
  a28 := Tryz.isAgg284
  z28 := Tryz.sizeOf284
  v28 := Tryz.zeroValue284
  i26 := by kernel_rfl }
end Go.Proofs

namespace Go.Proofs.YtbkedppkdhfpoabGreat
open Go.RowKit Go.Maps Go.Sort Go.Shelf

theorem sorts_any (m : Nat) : AnyZI.SortsIn Tryz.prog Tryz.sortedB_ren Fence.wide m :=
  ⟨fun blk off cap ss W hH hblk hsz => callsIn_wide.2 (Go.Proofs.Tryz.slices_Sort_int blk off cap ss W hH hblk hsz),
   fun p cap W => callsIn_wide.2 (Go.Proofs.Tryz.slices_Sort_int_none p cap W)⟩

theorem keys_perm {w : World} {b n : Nat} {D : DataW Value} {f : Int → Option Value} (hD : w.ownsMap Tryz.prog 3 Rv b n D) (hf : ∀ k : Int, Maps.has D (.int .i64 k) = (f k).isSome ∧ ∀ v, f k = some v → ∀ z, D.atKey (.int .i64 k) z = .held v)
    {K : List Int} (hnd : K.Nodup) (hK : ∀ x, x ∈ K ↔ (f x).isSome = true) : K.Perm (intKeys D) :=
  CollectedI.perm (left := fun _ => false) ⟨hnd, fun x => by rw [hK x, (hf x).1]; simp⟩ hD Tryz.key3 Tryz.underlying3 (fun _ => rfl)

theorem keysI_any (mb : Option Nat) (w : World) : Calls Tryz.prog 288 #[.map mb] w fun e w' => e = .returned (.func (.func 307) #[] #[.pointer (some ⟨w.heap.size, 0, none⟩)]) ∧ w' = w.alloc (.cells #[.map mb] 106) :=
  (callsIn_wide (n := 5)).1 (AnyZI.keys_in Tryz.keysI Fence.wide 5 trivial rfl mb w)

/-- What slices.Sorted makes of an iterator over the keys K. -/
theorem sorted_of (g : Nat) (eg : ∀ args w, (callFunc g args).run Tryz.prog w = .ok (.enter g args) w) (Bm : Nat) (w : World) (K : List Int) (D : DataW Value) (N : Nat) (hN : N ≤ 100000) (hp : K.Perm (intKeys D))
    (hseq : SeqGives Fence.wide 2 Tryz.prog g #[.pointer (some ⟨Bm, 0, none⟩)] encZ (fun ss => ss.Perm (intKeys D)) N w) :
    Calls Tryz.prog 240 #[.func (.func g) #[] #[.pointer (some ⟨Bm, 0, none⟩)]] w fun e w' => ∃ v, e = .returned v ∧ OwnI w.heap.size w' v (K.mergeSort (fun x y => decide (x ≤ y))) ∧ Below w.heap.size w w' := by
  refine (callsIn_wide (n := 5)).1 ?_
  have cS := AnyZI.sorted_in Tryz.sortedB Fence.wide 5 trivial trivial trivial trivial rfl (by omega) (sorts_any _) (enters_of Tryz.func130 (by kernel_rfl) rfl) g #[.pointer (some ⟨Bm, 0, none⟩)] trivial eg _ N (by unfold maxLen; omega) (by omega) _ hseq
  change CallsIn _ _ Tryz.prog 240 _ _ _ at cS
  refine cS.mono ?_
  rintro e w' ⟨v, ss, rfl, hS, hrow, _, hb⟩
  have hpp : ss.Perm K := hS.trans hp.symm
  have e1 := mergeSort_of_perm_i hpp
  rw [show (fun x y : Int => decide (x ≤ y)) = leI from rfl, e1] at hrow
  have e2 : ss.length = (K.mergeSort leI).length := by rw [List.length_mergeSort, hpp.length_eq]
  rw [e2] at hrow
  exact ⟨v, rfl, hrow, hb⟩

theorem sortedI_any (b n : Nat) (f : Int → Option Value) (K : List Int) (hn : n ≤ 100000) (hnd : K.Nodup) (hK : ∀ x, x ∈ K ↔ (f x).isSome = true) (Bm : Nat) (w : World) (hM : MapAt w b n f) (hc : w.cell? ⟨Bm, 0, none⟩ = some (.map (some b))) :
    Calls Tryz.prog 240 #[.func (.func 307) #[] #[.pointer (some ⟨Bm, 0, none⟩)]] w fun e w' => ∃ v, e = .returned v ∧ OwnI w.heap.size w' v (K.mergeSort (fun x y => decide (x ≤ y))) ∧ Below w.heap.size w w' := by
  obtain ⟨D, hD, hf⟩ := hM
  have hsz := hD.size_le
  exact sorted_of 307 (enters_of Tryz.func307 (by kernel_rfl) rfl) Bm w K D (Maps.size D) (by omega) (keys_perm hD hf hnd hK)
    (AnyZI.keys_gives (ρ := Tryz.keysI_ren) { Tryz.keysI with } Fence.wide _ trivial rfl (by omega) Bm b n D w (lt_of_cell hc) hc hD)

end Go.Proofs.YtbkedppkdhfpoabGreat

namespace Go.Proofs.YtbkedppkdhfpoabGreat
open Go.RowKit Go.Maps

theorem Tryz.underlying106 : Tryz.prog.underlying 106 = some (.map 3 3) := by kernel_rfl
theorem Tryz.zero3 (w : World) : (zeroValue 3).run Tryz.prog w = .ok (.int .i64 0) w := by kernel_rfl

/-- The bindings of some variables, whose parts' numbers vn tells. -/
def outF (P : List Pt) (M : Nat) (vn : Int → Nat) : List Int → Option (List (Int × T))
  | [] => some []
  | v :: l => match headF P (P.length + 1) (vn v) with
    | none => none
    | some h => if h = vn v then outF P M vn l else match madeF P M (vn v) with
      | none => none
      | some t => match outF P M vn l with
        | none => none
        | some bs => some ((v, t) :: bs)
theorem outF_cons {P : List Pt} {M : Nat} {vn : Int → Nat} {v : Int} {l : List Int} {bs : List (Int × T)} (hm : outF P M vn (v :: l) = some bs) : ∃ h, headF P (P.length + 1) (vn v) = some h ∧
    ((h = vn v ∧ outF P M vn l = some bs) ∨ (h ≠ vn v ∧ ∃ t bs', madeF P M (vn v) = some t ∧ outF P M vn l = some bs' ∧ bs = (v, t) :: bs')) := by
  rw [outF] at hm
  split at hm
  · cases hm
  · rename_i h hh
    refine ⟨h, hh, ?_⟩
    split at hm
    · rename_i e; exact Or.inl ⟨e, hm⟩
    · rename_i e
      split at hm
      · cases hm
      · rename_i t ht
        split at hm
        · cases hm
        · rename_i bs' hbs
          exact Or.inr ⟨e, t, bs', ht, hbs, (Option.some.inj hm).symm⟩

set_option maxRecDepth 100000 in
set_option maxHeartbeats 2000000 in
theorem bindU_any (q : Nat → Prop) (u b c : Nat) (P : List Pt) (M mb n : Nat) (f : Int → Option Value) (K : List Int) (vn : Int → Nat) (bs : List (Int × T)) (w : World) (hU : UAt q w u b c P) (hmc : w.cell? ⟨u, 1, none⟩ = some (.map (some mb))) (hM : MapAt w mb n f) (hn : n ≤ 100000) (hnd : K.Nodup) (hK : ∀ x, x ∈ K ↔ (f x).isSome = true)
    (hf : ∀ x, x ∈ K → f x = some (.int .i64 (vn x : Nat)) ∧ 0 ≤ x ∧ x ≤ 100000) (hlK : K.length ≤ 100000) (ho : outF P M vn (K.mergeSort (fun x y => decide (x ≤ y))) = some bs) :
    Calls Tryz.prog 262 #[.pointer (some ⟨u, 0, none⟩)] w fun e w' => ∃ a cap, e = .returned (.slice a bs.length cap) ∧ Binds (fun k => w.heap.size ≤ k) w' bs a ∧ Below w.heap.size w w' := by
  obtain ⟨KS, hKS⟩ : ∃ KS, KS = K.mergeSort (fun x y => decide (x ≤ y)) := ⟨_, rfl⟩
  have hKl : KS.length = K.length := by rw [hKS, List.length_mergeSort]
  have HKm := hide (show ∀ x, x ∈ KS → x ∈ K from fun x hx => by rw [hKS, List.mem_mergeSort] at hx; exact hx)
  rw [← hKS] at ho
  have HKS := hide hKS
  have HU := hide hU
  have HM := hide hM
  have HK := hide hK
  have Hf := hide hf
  have Ho := hide ho
  have Hnd := hide hnd
  obtain ⟨ti, hi, hzz⟩ := Option.map_eq_some_iff.1 Tryz.info93
  simp only [Prod.mk.injEq] at hzz
  obtain ⟨hz0, hz1, hz2⟩ := hzz
  have hul := lt_of_cell hmc
  clear hU hM hK hf ho hnd hKS
  go_enter Tryz.func262, Tryz.ntmps262
  go_wp2_with (first
    | (go_at_call 288; refine (keysI_any _ _).mono ?_; rintro e w' ⟨rfl, rfl⟩)
    | (go_at_call 240; refine (sortedI_any mb n f K hn Hnd.out HK.out _ _ (HM.out.below (below1 _ _)) (by rw [cell_new 0 (by simp)]; rfl)).mono ?_; rintro e w1 ⟨v1, rfl, hown1, hb1⟩; rw [← HKS.out] at hown1; obtain ⟨va, vc, rfl, hints1, _⟩ := own_ints hown1))
  have hz1' : w.heap.size + 1 ≤ w1.heap.size := by have := hb1.size; simp at this; omega
  have Hbw1 : Hid (Below w.heap.size w w1) := (below1 _ _).trans (hb1.mono (by simp))
  have Hints := hide hints1
  have hmc1 : w1.cell? ⟨u, 1, none⟩ = some (.map (some mb)) := cell_below Hbw1.out hmc
  clear hb1 hown1 hints1 hmc
  go_loopw [3, 14] (fun l i wr => ∃ (k : Nat) (acc rest : List (Int × T)), k ≤ K.length ∧ i = .int .i64 k ∧ acc.length ≤ k ∧ Hid (outF P M vn (KS.drop k) = some rest) ∧ Hid (bs = acc ++ rest) ∧ OutsB (fun _ => False) w.heap.size wr l acc ∧ Grw w1 wr none l.ownBlock) (fun _ i _ => K.length - (intOf i).toNat)
  case atStart => exact ⟨0, [], bs, Nat.zero_le _, rfl, Nat.le_refl _, Ho, rfl, OutsB_nil, Grw.refl _ _⟩
  case round =>
    obtain ⟨k, acc, rest, hk, rfl, hacc, HL, Hbs, hout, hgrw⟩ := hrel
    have Hout := hide hout
    have Hgrw := hide hgrw
    have hzr := hgrw.gr.size
    have HbR1 : Hid (Below w1.heap.size w1 wr) := hgrw.below (Nat.le_refl _) (fun g hg => by cases hg)
    clear hout hgrw
    have HbR : Hid (Below w.heap.size w wr) := Hbw1.out.trans (HbR1.out.mono (by omega))
    by_cases hlt : k < K.length
    · have hlt2 : k < KS.length := by omega
      obtain ⟨v, hv⟩ : ∃ v, KS[k]? = some v := ⟨KS[k], List.getElem?_eq_getElem hlt2⟩
      obtain ⟨b1, off1, rfl, hc⟩ := Ints_some Hints.out (show 0 < KS.length by omega)
      have hcr : wr.cell? ⟨b1, off1 + k, none⟩ = some (.int .i64 v) := by
        have h1 := hc k hlt2
        rw [List.getD_eq_getElem?_getD, hv] at h1
        exact cell_below HbR1.out h1
      obtain ⟨hfv, hv0, hv1⟩ := Hf.out v (HKm.out v (List.mem_of_getElem? hv))
      have hlook := (HM.out.below HbR.out).look (t := 106) Tryz.underlying106 (Tryz.zero3 _) (k := v) (by omega) (by omega)
      rw [hfv] at hlook
      have hmcr : wr.cell? ⟨u, 1, none⟩ = some (.map (some mb)) := cell_below HbR1.out hmc1
      have hd : KS.drop k = v :: KS.drop (k + 1) := by
        rw [List.drop_eq_getElem_cons hlt2]
        have := (List.getElem?_eq_some_iff.1 hv).2
        rw [this]
      have hL := HL.out
      rw [hd] at hL
      obtain ⟨h, hh, hx⟩ := outF_cons hL
      have HUr := hide (HU.out.below HbR.out)
      have HH := hide (head_any q wr u b c P _ (vn v) h HUr.out hh)
      have Hx := hide hx
      have hkI : (k : Int) < K.length := by omega
      have hk0 : (0 : Int) ≤ k := by omega
      clear hv hc hfv hd hL HL hh hx
      go_wp2_with fail
      refine HH.out.mono ?_
      rintro e w' ⟨rfl, hw'⟩
      obtain rfl := hw'.symm
      clear hw' HH
      rcases Hx.out with ⟨e9, hrest⟩ | ⟨hne, t, bs', ht, hrest, hbs'⟩
      · have e0 : ((h : Int) != ((vn v : Nat) : Int)) = false := by simp [e9]
        have Hrest := hide hrest
        clear e9 hrest Hx
        go_wp2_with fail
        go_roundw
        case rel => exact ⟨k + 1, acc, rest, by omega, by go_num, by omega, Hrest, Hbs, Hout.out, Hgrw.out⟩
        case measure => simp [intOf]; omega
      · have e0 : ((h : Int) != ((vn v : Nat) : Int)) = true := by simp; omega
        have Hrest := hide hrest
        have Hbs2 : Hid (bs = (acc ++ [(v, t)]) ++ bs') := by show _ = _; rw [Hbs.out, hbs']; simp
        have HC := hide (made_any q u b c P M (vn v) t wr HUr.out ht)
        clear hne hrest hbs' ht Hx Hbs
        go_wp2_with (first
          | (go_at_call 289
             refine HC.out.mono ?_
             rintro e w2 ⟨a2, cap2, rfl, hin2, hb2⟩
             have hzw2 := hb2.size
             have Hout2 := hide (OutsB_below Hout.out hb2)
             obtain ⟨xs, hownL, hkids⟩ := Hout2.out
             have HO := hide (fun o1 => own_same hownL (w' := w2.alloc o1) (fun g hg => (below1 w2 o1).block g (own_lt hownL g hg).2))
             have HCi : Hid (InP (fun k' => (False ∨ w.heap.size ≤ k') ∧ u3.ownBlock ≠ some k') w2 t.args a2) := InP_imp (fun k' hk' => by
               have h8 : wr.heap.size ≤ k' := hk'
               refine ⟨Or.inr (by omega), fun e => ?_⟩
               obtain ⟨xs0, h0, _⟩ := Hout.out
               have := (own_lt h0 k' e).2
               omega) hin2
             have Hg2 := hide (Hgrw.out.trans (Grw.of_below _ hb2))
             clear hin2 hb2)
          | (at_builtin
             go_must (refine wpList_append_lies _ rfl (.tmp 29) (.tmp 35) 91 rfl w.heap.size 93 ti (.agg #[.int .i64 0, .int .i64 0, .int .i64 0, .slice none 0 0]) 4 48 Tryz.underlying91 hi hz0 hz1 hz2 rfl (by decide) u3 acc.length xs rfl (HO.out _) ⟨w2.heap.size, 0, none⟩ 1 1 [.int .i64 v, .int .i64 t.v, .int .i64 t.f, .slice a2 t.args.length cap2] rfl rfl (four_new (by first | rfl | simp)) (by simp [Value.oneCell']) (by decide) (by unfold maxLen; omega) (by omega) (by simp; omega) _ rfl ?_)
             intro g capg w3 hown3 hgr3 hat3 hlt3))
        have hO3 := OutsB_step (x := (v, t)) (KidsB_mono (fun k' hk' hlt' => ⟨hk', (below1 w2 _).block k' hlt'⟩) hkids) (InP_alloc _ HCi.out) hown3 hgr3 (hat3.imp id (fun h => by rw [h]))
        have hG3 : Grw w1 w3 none (Value.slice (some ⟨g, 0, none⟩) (acc.length + 1) capg).ownBlock := Hg2.out.trans ((Grw.of_below _ (below1 _ _)).trans ⟨hgr3, by
          rcases hat3 with h | h
          · exact Or.inl h.symm
          · exact Or.inr ⟨g, rfl, by rw [h]; simp⟩⟩)
        go_roundw
        case rel => exact ⟨k + 1, acc ++ [(v, t)], bs', by omega, by go_num, by simp; omega, Hrest, Hbs2, hO3, hG3⟩
        case measure => simp [intOf]; omega
    · have hk2 : k = KS.length := by omega
      have h9 := HL.out
      rw [hk2, List.drop_length, outF] at h9
      have hr0 : rest = [] := (Option.some.inj h9).symm
      have hbs : bs = acc := by rw [Hbs.out, hr0]; simp
      obtain ⟨la, lc, rfl, hinL⟩ := OutsB_end Hout.out
      have HinL := hide hinL
      have Hbs3 := hide hbs
      have hk3 : k = K.length := by omega
      subst hk3
      clear hinL Hout h9 hr0 hbs hk2 HL Hbs
      go_wp2_with fail
      go_ret
      rw [Hbs3.out]
      exact ⟨la, lc, rfl, Binds_imp (fun k' hk' => by rcases hk' with h | h; exact h.elim; exact h) HinL.out, HbR.out⟩

end Go.Proofs.YtbkedppkdhfpoabGreat

namespace Go.Proofs.YtbkedppkdhfpoabGreat

/-- No variable twice, and each one right. -/
def keysOk (vs : List (Int × Nat)) : Prop := (vs.map Prod.fst).Nodup ∧ ∀ x, x ∈ vs.map Prod.fst → 0 ≤ x ∧ x ≤ 1000
theorem lookN_isSome (vs : List (Int × Nat)) (v : Int) : v ∈ vs.map Prod.fst ↔ (lookN vs v).isSome = true := by
  induction vs with
  | nil => simp [lookN]
  | cons x vs ih =>
    rw [List.map_cons, List.mem_cons, ih, lookN]
    by_cases h : x.1 = v
    · rw [if_pos h]; simp [h]
    · rw [if_neg h]
      constructor
      · rintro (h' | h')
        · exact absurd h'.symm h
        · exact h'
      · exact Or.inr
theorem okP_var {ar : List Int} {t : T} (h : okP ar t) (hv : t.v ≠ 0) : t.args = [] := by
  have h1 := (okP_iff.1 h).1
  rw [partErr_var hv, varErr] at h1
  by_cases h2 : t.v < 1 ∨ 1000 < t.v
  · rw [if_pos h2] at h1; cases h1
  · rw [if_neg h2] at h1
    by_cases h3 : t.args.length ≠ 0 ∨ t.f ≠ 0
    · rw [if_pos h3] at h1; cases h1
    · exact List.length_eq_zero_iff.1 (by omega)
theorem add_keys {ar : List Int} : ∀ (n : Nat), (∀ (t : T) (s : List Pt × List (Int × Nat)), t.sz ≤ n → okP ar t → keysOk s.2 → keysOk (addT t s).2.2) ∧
    (∀ (ts : List T) (s : List Pt × List (Int × Nat)), T.sz.szL ts ≤ n → okP.okL ar ts → keysOk s.2 → keysOk (addT.addL ts s).2.2) := by
  intro n
  induction n with
  | zero =>
    refine ⟨fun t s h => by have := t.sz_pos; omega, fun ts s h _ hk => ?_⟩
    cases ts with
    | nil => exact hk
    | cons t ts => have := t.sz_pos; rw [T.szL_cons] at h; omega
  | succ n ih =>
    have h1 : ∀ (t : T) (s : List Pt × List (Int × Nat)), t.sz ≤ n + 1 → okP ar t → keysOk s.2 → keysOk (addT t s).2.2 := fun t s h hok hk => by
      have he := T.sz_eq t
      cases hlk : lookN s.2 t.v with
      | some m => rw [addT_known hlk]; exact hk
      | none =>
        rw [addT_new hlk]
        have h9 := ih.2 t.args s (by omega) (okP_iff.1 hok).2 hk
        show keysOk (if t.v = 0 then _ else _)
        by_cases hv : t.v = 0
        · rw [if_pos hv]; exact h9
        · rw [if_neg hv]
          have ha := okP_var hok hv
          rw [ha] at h9 ⊢
          have h8 : keysOk s.2 := h9
          have hb := okP_le hok
          refine ⟨?_, fun x hx => ?_⟩
          · rw [List.map_cons, List.nodup_cons]
            refine ⟨fun hm => ?_, h8.1⟩
            have h7 := (lookN_isSome s.2 t.v).1 hm
            rw [hlk] at h7; cases h7
          · rw [List.map_cons, List.mem_cons] at hx
            rcases hx with rfl | hx
            · exact hb
            · exact h8.2 x hx
    refine ⟨h1, fun ts => ?_⟩
    induction ts with
    | nil => intro s _ _ hk; exact hk
    | cons t ts iht =>
      intro s h hok hk
      rw [T.szL_cons] at h
      obtain ⟨o1, o2⟩ := okL_cons.1 hok
      exact iht (addT t s).2 (by omega) o2 (h1 t s (by omega) o1 hk)

/-- What Unify answers of terms that are right: bindings, whether there are some, an error; none: more than N steps. -/
def unifyF (N : Nat) (a b : T) : Option (List (Int × T) × Bool × Int) :=
  match joinF N (addT b (addT a ([], [])).2).2.1 (addT a ([], [])).1 (addT b (addT a ([], [])).2).1 with
  | none => none
  | some x => if x.1 = true then (match measF N x.2 (addT a ([], [])).1 with
    | none => none
    | some y => if y.1 = -1 then some ([], false, 0) else if 120 < y.1 then some ([], false, 2) else
      match outF y.2 N (fun v => (lookN (addT b (addT a ([], [])).2).2.2 v).getD 0) (((addT b (addT a ([], [])).2).2.2.map Prod.fst).mergeSort (fun x y => decide (x ≤ y))) with
      | none => none
      | some bs => some (bs, true, 0)) else some ([], false, 0)
theorem unifyF_some {N : Nat} {a b : T} {r : List (Int × T) × Bool × Int} (h : unifyF N a b = some r) : ∃ ok P2, joinF N (addT b (addT a ([], [])).2).2.1 (addT a ([], [])).1 (addT b (addT a ([], [])).2).1 = some (ok, P2) ∧
    ((ok = false ∧ r = ([], false, 0)) ∨ (ok = true ∧ ∃ m P3, measF N P2 (addT a ([], [])).1 = some (m, P3) ∧ ((m = -1 ∧ r = ([], false, 0)) ∨ (m ≠ -1 ∧ 120 < m ∧ r = ([], false, 2)) ∨
      (m ≠ -1 ∧ ¬ 120 < m ∧ ∃ bs, outF P3 N (fun v => (lookN (addT b (addT a ([], [])).2).2.2 v).getD 0) (((addT b (addT a ([], [])).2).2.2.map Prod.fst).mergeSort (fun x y => decide (x ≤ y))) = some bs ∧ r = (bs, true, 0))))) := by
  rw [unifyF] at h
  split at h
  · cases h
  · rename_i x hx
    obtain ⟨ok, P2⟩ := x
    refine ⟨ok, P2, hx, ?_⟩
    cases ok with
    | false => rw [if_neg (by simp)] at h; exact Or.inl ⟨rfl, (Option.some.inj h).symm⟩
    | true =>
      rw [if_pos rfl] at h
      refine Or.inr ⟨rfl, ?_⟩
      split at h
      · cases h
      · rename_i y hy
        obtain ⟨m, P3⟩ := y
        refine ⟨m, P3, hy, ?_⟩
        by_cases e1 : m = -1
        · rw [if_pos e1] at h; exact Or.inl ⟨e1, (Option.some.inj h).symm⟩
        · rw [if_neg e1] at h
          by_cases e2 : 120 < m
          · rw [if_pos e2] at h; exact Or.inr (Or.inl ⟨e1, e2, (Option.some.inj h).symm⟩)
          · rw [if_neg e2] at h
            split at h
            · cases h
            · rename_i bs hbs
              exact Or.inr (Or.inr ⟨e1, e2, bs, hbs, (Option.some.inj h).symm⟩)

end Go.Proofs.YtbkedppkdhfpoabGreat

namespace Go.Proofs.YtbkedppkdhfpoabGreat
open Go.RowKit Go.Maps

set_option maxRecDepth 100000 in
set_option maxHeartbeats 400000 in
theorem subCheck_any (ar : List Int) (ga : Option Addr) (gcap : Nat) (t : T) (a : Option Addr) (cap : Nat) (u : T) (a2 : Option Addr) (cap2 : Nat) (w : World) (hg : Ints w ar ga) (hin : InL w t.args a) (hin2 : InL w u.args a2) :
    Calls Tryz.prog 258 #[.agg #[.slice ga ar.length gcap], .agg #[.int .i64 t.v, .int .i64 t.f, .slice a t.args.length cap], .agg #[.int .i64 u.v, .int .i64 u.f, .slice a2 u.args.length cap2]] w fun e w' =>
      e = .returned (.int .i64 (allErr ar [t, u])) ∧ Below w.heap.size w w' := by
  have H1 := hide (fun o1 o2 o3 => Check_any ar ga gcap t a cap (((w.alloc o1).alloc o2).alloc o3) (Ints_alloc o3 (Ints_alloc o2 (Ints_alloc o1 hg))) (InP_alloc o3 (InP_alloc o2 (InP_alloc o1 hin))))
  have Hp := hide (allErr_pair ar t u)
  go_enter Tryz.func258, Tryz.ntmps258
  go_wp2_with fail
  refine (H1.out _ _ _).mono ?_
  rintro e w1 ⟨rfl, hb1⟩
  have hz1 : w.heap.size + 3 ≤ w1.heap.size := by have := hb1.size; simp at this; omega
  have hbw : Below w.heap.size w w1 := (((below1 _ _).alloc (by simp) _).alloc (by simp; omega) _).trans (hb1.mono (by simp; omega))
  have cg : w1.cell? ⟨w.heap.size, 0, none⟩ = some (.slice ga ar.length gcap) := by
    rw [hb1.cell (p := ⟨w.heap.size, 0, none⟩) (by simp; omega), cell_alloc_lt (by simp; omega), cell_alloc_lt (by simp), cell_new _ rfl]; rfl
  have h3u : Three w1 (w.heap.size + 1 + 1) (.int .i64 u.v) (.int .i64 u.f) (.slice a2 u.args.length cap2) := (Three.new _ (by simp)).below hb1
  obtain ⟨d0, d1, d2, _, _, _⟩ := h3u
  have H2 := hide (Check_any ar ga gcap u a2 cap2 w1 (Ints_below hbw hg) (InP_below hbw hin2))
  clear hb1
  by_cases h : allErr ar [t] = 0
  · have He : Hid (allErr ar [t, u] = allErr ar [u]) := by show _ = _; rw [Hp.out, if_pos h]
    rw [h]
    clear h
    go_wp2_with fail
    refine H2.out.mono ?_
    rintro e w2 ⟨rfl, hb2⟩
    go_wp2_with fail
    go_ret
    exact ⟨ret_int He.out.symm, hbw.trans (hb2.mono (by omega))⟩
  · have hb : (allErr ar [t] != 0) = true := by simpa using h
    have He : Hid (allErr ar [t, u] = allErr ar [t]) := by show _ = _; rw [Hp.out, if_neg h]
    clear h
    go_wp2_with fail
    go_ret
    exact ⟨ret_int He.out.symm, hbw⟩

end Go.Proofs.YtbkedppkdhfpoabGreat

namespace Go.Proofs.YtbkedppkdhfpoabGreat
open Go.RowKit Go.Maps

/-- The unifier as it begins. -/
theorem AX.begun (w1 : World) : AX (fun k => w1.heap.size + 1 + 1 ≤ k) (w1.heap.size + 1 + 1) (w1.heap.size + 1) w1.heap.size ((w1.alloc (.map #[] 0)).alloc (.cells #[.slice none 0 0, .map (some w1.heap.size)] 298)) (.slice none 0 0) ([], []) := by
  have hz : (w1.alloc (.map #[] 0)).heap.size = w1.heap.size + 1 := World.size_alloc _ _
  refine ⟨cell_new 0 hz.symm, cell_new 1 hz.symm, ⟨[], ⟨rfl, Or.inl ⟨rfl, rfl⟩⟩, rfl⟩, ?_, fun k => ?_, by omega, by omega, by omega⟩
  · exact ((MapAt.made w1).below (below1 _ _)).congr (fun k => rfl)
  · rw [← hz]; simp

/-- What is handed back. -/
def UniOut (w w' : World) (r : List (Int × T) × Bool × Int) (e : Ending) : Prop :=
  ∃ la lc, e = .returned (.tuple #[.slice la r.1.length lc, .bool r.2.1, .int .i64 r.2.2]) ∧ Binds (fun k => w.heap.size ≤ k) w' r.1 la ∧ Below w.heap.size w w'
theorem UniOut.no {w w' : World} {x : Bool} {e : Int} (hb : Below w.heap.size w w') : UniOut w w' ([], x, e) (.returned (.tuple #[.slice none 0 0, .bool x, .int .i64 e])) := ⟨none, 0, rfl, trivial, hb⟩

set_option maxRecDepth 100000 in
set_option maxHeartbeats 1000000 in
theorem Unify_any (ar : List Int) (ga : Option Addr) (gcap : Nat) (s : T) (sa : Option Addr) (sc : Nat) (t : T) (ta : Option Addr) (tc : Nat) (w : World) (hg : Ints w ar ga) (hin : InL w s.args sa) (hin2 : InL w t.args ta) (N : Nat) (r : List (Int × T) × Bool × Int) (hr : unifyF N s t = some r) (hok : allErr ar [s, t] = 0) :
    Calls Tryz.prog 225 #[.agg #[.slice ga ar.length gcap], .agg #[.int .i64 s.v, .int .i64 s.f, .slice sa s.args.length sc], .agg #[.int .i64 t.v, .int .i64 t.f, .slice ta t.args.length tc]] w fun e w' => UniOut w w' r e := by
  obtain ⟨k1, k2, k3, k4⟩ := ok_two hok
  have hmm := @run_makeMap Tryz.prog
  have H1 := hide (fun o1 o2 o3 => subCheck_any ar ga gcap s sa sc t ta tc (((w.alloc o1).alloc o2).alloc o3) (Ints_alloc o3 (Ints_alloc o2 (Ints_alloc o1 hg))) (InP_alloc o3 (InP_alloc o2 (InP_alloc o1 hin))) (InP_alloc o3 (InP_alloc o2 (InP_alloc o1 hin2))))
  rw [hok] at H1
  have Hin := hide hin
  have Hin2 := hide hin2
  have K := hide (And.intro k1 (And.intro k2 (And.intro k3 k4)))
  have Hr := hide (unifyF_some hr)
  clear hg hin hin2 hr hok k1 k2 k3 k4
  go_enter Tryz.func225, Tryz.ntmps225
  go_wp2_with fail
  refine (H1.out _ _ _).mono ?_
  rintro e w1 ⟨rfl, hb1⟩
  have hz1 : w.heap.size + 3 ≤ w1.heap.size := by have := hb1.size; simp at this; omega
  have hbw : Below w.heap.size w w1 := (((below1 _ _).alloc (by simp) _).alloc (by simp; omega) _).trans (hb1.mono (by simp; omega))
  have h3s : Three w1 (w.heap.size + 1) (.int .i64 s.v) (.int .i64 s.f) (.slice sa s.args.length sc) := ((Three.new _ (by simp)).alloc _).below hb1
  have h3t : Three w1 (w.heap.size + 1 + 1) (.int .i64 t.v) (.int .i64 t.f) (.slice ta t.args.length tc) := (Three.new _ (by simp)).below hb1
  have hA0 := AX.begun w1
  obtain ⟨WU, hWU⟩ : ∃ WU, WU = (w1.alloc (.map #[] 0)).alloc (.cells #[.slice none 0 0, .map (some w1.heap.size)] 298) := ⟨_, rfl⟩
  rw [← hWU] at hA0
  have hzU : WU.heap.size = w1.heap.size + 1 + 1 := by rw [hWU, World.size_alloc, World.size_alloc]
  have hbU : Below w1.heap.size w1 WU := by rw [hWU]; exact below2 _ _ _
  obtain ⟨c0, c1, c2, _, _, _⟩ := (h3s.alloc (.map #[] 0)).alloc (.cells #[.slice none 0 0, .map (some w1.heap.size)] 298)
  have hinS : InP (fun k => k < w1.heap.size) WU s.args sa := InP_imp (fun k h => by have h : True ∧ k < w.heap.size := h; omega) (InP_below (hbw.trans (hbU.mono (by omega))) (InP_lt Hin.out))
  have hinT : InP (fun k => k < w1.heap.size) WU t.args ta := InP_imp (fun k h => by have h : True ∧ k < w.heap.size := h; omega) (InP_below (hbw.trans (hbU.mono (by omega))) (InP_lt Hin2.out))
  have H2 := hide (add_any ar (w1.heap.size + 1 + 1) w1.heap.size (w1.heap.size + 1) w1.heap.size (by omega) (Nat.le_refl _) (s.sz + 1) s sa sc ([], []) (.slice none 0 0) (fun k => w1.heap.size + 1 + 1 ≤ k) WU (by omega) K.out.2.1 (by have := K.out.1; simp; omega) (by have := K.out.1; simp; omega) (by omega) (fun k h => h) (fun k h => by omega) hA0 hinS)
  have H3T := hide (h3t.below hbU)
  have HinT := hide hinT
  have HA0 := hide hA0
  have HbU := hide hbU
  have Hbw := hide hbw
  have HzU := hide hzU
  have HWU := hide hWU
  clear h3s h3t hA0 hbU hbw hzU hinS hinT hb1
  go_wp2_with fail
  rw [← HWU.out]
  refine H2.out.mono ?_
  rintro e wA ⟨lA, rfl, hAX, hAF⟩
  clear H2 H1 hmm c0 c1 c2
  have hbA : Below w1.heap.size WU wA := hAF.below (by have := HzU.out; omega) (by omega) (Nat.le_refl _) (fun g hg => by cases hg)
  have hsA := (add_size _).1 s ([], []) (Nat.le_refl _)
  have hkA := (add_keys (ar := ar) _).1 s ([], []) (Nat.le_refl _) K.out.2.1 ⟨List.nodup_nil, fun x hx => by cases hx⟩
  obtain ⟨c0, c1, c2, _, _, _⟩ := H3T.out.same (hbA.block _ (by omega))
  have hzA := hAF.size
  obtain ⟨iA, hiA⟩ : ∃ i, i = (addT s ([], [])).1 := ⟨_, rfl⟩
  obtain ⟨SA, hSA⟩ : ∃ S, S = (addT s ([], [])).2 := ⟨_, rfl⟩
  have Hr2 := Hr.out
  rw [← hiA] at Hr2 ⊢
  rw [← hSA] at hsA hkA hAX Hr2
  have hsA : SA.1.length ≤ 0 + s.sz ∧ SA.2.length ≤ 0 + s.sz := hsA
  have HkA := hide hkA
  have H2 := hide (add_any ar (w1.heap.size + 1 + 1) w1.heap.size (w1.heap.size + 1) w1.heap.size (by omega) (Nat.le_refl _) (t.sz + 1) t ta tc SA lA (fun k => w1.heap.size + 1 + 1 ≤ k) wA (by omega) K.out.2.2.2 (by have := K.out; omega) (by have := K.out; omega) (by have := HzU.out; omega) (fun k h => h) (fun k h => by have := HzU.out; omega) hAX (InP_same (fun k hk _ => hbA.block k hk) HinT.out))
  have HAX := hide hAX
  have HbA := hide hbA
  have Hr3 := hide Hr2
  clear hAX hAF hbA hkA hiA hSA Hr2 Hr
  go_wp2_with fail
  refine H2.out.mono ?_
  rintro e wB ⟨lB, rfl, hBX, hBF⟩
  clear H2 c0 c1 c2
  have hbB : Below w1.heap.size wA wB := hBF.below (by have := HzU.out; omega) (by omega) (Nat.le_refl _) (fun g hg => by have := (HAX.out.outs.row g hg).1; omega)
  have hsB := (add_size _).1 t SA (Nat.le_refl _)
  have hkB := (add_keys (ar := ar) _).1 t SA (Nat.le_refl _) K.out.2.2.2 HkA.out
  have hzB := hBF.size
  obtain ⟨iB, hiB⟩ : ∃ i, i = (addT t SA).1 := ⟨_, rfl⟩
  obtain ⟨SB, hSB⟩ : ∃ S, S = (addT t SA).2 := ⟨_, rfl⟩
  have Hr2 := Hr3.out
  rw [← hiB] at Hr2 ⊢
  rw [← hSB] at hsB hkB hBX Hr2
  obtain ⟨ok, P2, hj, hrest⟩ := Hr2
  have hlen : SB.1.length ≤ 1000 ∧ SB.2.length ≤ 1000 := by have := K.out; omega
  have hPB : 0 < SB.1.length := by obtain ⟨_, x, _, _, h, _⟩ := joinF_some hj; have := headF_lt h; omega
  obtain ⟨b, c, _, hbb, hU⟩ := OutsU_end (base := w1.heap.size + 1 + 1) hBX.outs hBX.list hBX.ub hBX.fru hPB (by omega)
  have HJ := hide (show Calls Tryz.prog 260 _ wB fun e w' => e = .returned (.bool ok) ∧ UAt (fun k => w1.heap.size + 1 + 1 ≤ k ∧ k ≠ b) w' (w1.heap.size + 1) b c P2 ∧ wB.grownBy w' (some b) from join_any _ _ b c N SB.1 iA iB (ok, P2) wB hU hj)
  have Hbb := hide hbb
  have HBX := hide hBX
  have HkB := hide hkB
  have Hrest := hide hrest
  have HB3 := hide (Hbw.out.trans ((HbU.out.trans (HbA.out.trans hbB)).mono (by omega)))
  clear hBX hBF hbB hkB hiB hSB Hr3 hj hrest hU hbb hPB hsA hsB HkA HAX
  go_wp2_with fail
  refine HJ.out.mono ?_
  rintro e wC ⟨rfl, hUC, hgC⟩
  have HBC := hide (HB3.out.grown hgC (by have := HzU.out; omega) (fun k hk => by cases hk; have := Hbb.out; omega))
  have hzC := hgC.size
  have HUC := hide hUC
  have HgC := hide hgC
  clear HJ hUC hgC
  cases ok with
  | false =>
    have Hr4 : Hid (r = ([], false, 0)) := by
      rcases Hrest.out with ⟨_, h⟩ | ⟨h, _⟩
      · exact h
      · cases h
    clear Hrest
    go_wp2_with fail
    go_ret3
    rw [Hr4.out]
    exact UniOut.no HBC.out
  | true =>
    obtain ⟨m, P3, hm, hrest⟩ : ∃ m P3, measF N P2 iA = some (m, P3) ∧ _ := by
      rcases Hrest.out with ⟨h, _⟩ | ⟨_, h⟩
      · cases h
      · exact h
    have HM := hide (show Calls Tryz.prog 261 _ wC fun e w' => e = .returned (.int .i64 m) ∧ UAt (fun k => w1.heap.size + 1 + 1 ≤ k ∧ k ≠ b) w' (w1.heap.size + 1) b c P3 ∧ Upon b wC w' from meas_any _ _ b c N P2 iA (m, P3) wC HUC.out hm)
    have Hrest2 := hide hrest
    clear hm hrest Hrest
    go_wp2_with fail
    refine HM.out.mono ?_
    rintro e wD ⟨rfl, hUD, hupD⟩
    have HBD := hide (HBC.out.trans (hupD.below (by have := Hbb.out; omega)))
    have hzD : wD.heap.size = wC.heap.size := hupD.size
    have HUD := hide hUD
    have HupD := hide hupD
    have HzD := hide hzD
    clear HM hUD hupD hzD
    by_cases e1 : m = -1
    · have Hr4 : Hid (r = ([], false, 0)) := by
        rcases Hrest2.out with ⟨_, h⟩ | ⟨h, _⟩ | ⟨h, _⟩
        · exact h
        · exact absurd e1 h
        · exact absurd e1 h
      subst e1
      clear Hrest2
      go_wp2_with fail
      go_ret3
      rw [Hr4.out]
      exact UniOut.no HBD.out
    · have f1 : (m == -1) = false := by simpa using e1
      by_cases e2 : 120 < m
      · have Hr4 : Hid (r = ([], false, 2)) := by
          rcases Hrest2.out with ⟨h, _⟩ | ⟨_, _, h⟩ | ⟨_, h, _⟩
          · exact absurd h e1
          · exact h
          · exact absurd e2 (by omega)
        clear e1 Hrest2
        go_wp2_with fail
        go_ret3
        rw [Hr4.out]
        exact UniOut.no HBD.out
      · obtain ⟨bs, hbs, hrr⟩ : ∃ bs, outF P3 N (fun v => (lookN SB.2 v).getD 0) ((SB.2.map Prod.fst).mergeSort (fun x y => decide (x ≤ y))) = some bs ∧ r = (bs, true, 0) := by
          rcases Hrest2.out with ⟨h, _⟩ | ⟨_, h, _⟩ | ⟨_, _, h⟩
          · exact absurd h e1
          · exact absurd h e2
          · exact h
        have hul : w1.heap.size + 1 < wB.heap.size := by have := HzU.out; omega
        have hmc : wD.cell? ⟨w1.heap.size + 1, 1, none⟩ = some (.map (some w1.heap.size)) := by
          rw [HupD.out.cell (by have := Hbb.out; omega), World.cell?_of_block (w := wB) (a := ⟨w1.heap.size + 1, 1, none⟩) (HgC.out.block (w1.heap.size + 1) hul (fun e => by have h9 := Hbb.out; have h8 : w1.heap.size + 1 = b := (by simpa using e); omega))]
          exact HBX.out.map
        have hMD : MapAt wD w1.heap.size SB.2.length (fun v => (lookN SB.2 v).map (fun n : Nat => Value.int .i64 (n : Int))) := HBX.out.mp.same (by
          rw [HupD.out.block _ (by have := Hbb.out; omega), HgC.out.block _ (by omega) (fun e => by have := Hbb.out; cases e; omega)])
        have H4 := hide (bindU_any _ _ b c P3 N w1.heap.size SB.2.length _ (SB.2.map Prod.fst) (fun v => (lookN SB.2 v).getD 0) bs wD HUD.out hmc hMD (by omega) HkB.out.1 (fun x => by rw [lookN_isSome]; cases lookN SB.2 x <;> rfl) (fun x hx => by
          have h1 := HkB.out.2 x hx
          rw [lookN_isSome] at hx
          refine ⟨?_, h1.1, by omega⟩
          cases hl : lookN SB.2 x with
          | none => rw [hl] at hx; cases hx
          | some n => rfl) (by rw [List.length_map]; omega) hbs)
        have Hrr := hide hrr
        clear e1 hbs hrr hmc hMD Hrest2 HBX
        go_wp2_with fail
        refine H4.out.mono ?_
        rintro e wE ⟨a3, cap3, rfl, hin3, hb3⟩
        have Hb3 := hide (HBD.out.trans (hb3.mono HBD.out.size))
        have Hin3 := hide (Binds_imp (q := fun k => w.heap.size ≤ k) (fun k hk => Nat.le_trans HBD.out.size hk) hin3)
        clear hb3 hin3
        go_wp2_with fail
        go_ret3
        rw [Hrr.out]
        exact ⟨a3, cap3, rfl, Hin3.out, Hb3.out⟩

end Go.Proofs.YtbkedppkdhfpoabGreat

namespace Go.Proofs.YtbkedppkdhfpoabGreat

/-- Heads, counted. -/
def isHd (P : List Pt) (k : Nat) : Bool := match P[k]? with
  | none => false
  | some p => p.like == k
def heads (P : List Pt) : Nat := (List.range P.length).countP (isHd P)

theorem countP_one {p q : Nat → Bool} {y : Nat} : ∀ {n : Nat}, y < n → (∀ k, k < n → k ≠ y → p k = q k) → p y = true → q y = false → (List.range n).countP q + 1 = (List.range n).countP p := by
  intro n
  induction n with
  | zero => intro h; omega
  | succ n ih =>
    intro h he hp hq
    rw [List.range_succ, List.countP_append, List.countP_append, List.countP_singleton, List.countP_singleton]
    by_cases e : y = n
    · subst e
      rw [hp, hq]
      have : (List.range y).countP q = (List.range y).countP p := List.countP_congr fun k hk => by
        have := List.mem_range.1 hk
        rw [he k (by omega) (by omega)]
      simp [this]
    · have := ih (by omega) (fun k hk hne => he k (by omega) hne) hp hq
      rw [he n (by omega) (by omega)]
      omega

/-- Parts that are as they should be. -/
structure WFp (P : List Pt) : Prop where
  args : ∀ (k : Nat) (p : Pt), P[k]? = some p → ∀ a, a ∈ p.args → a < k
  like : ∀ (k : Nat) (p : Pt), P[k]? = some p → p.like < P.length
  vle : ∀ (k : Nat) (p q : Pt), P[k]? = some p → P[p.like]? = some q → q.v ≤ p.v
  nn : ∀ (k : Nat) (p : Pt), P[k]? = some p → 0 ≤ p.v
  var : ∀ (k : Nat) (p : Pt), P[k]? = some p → p.v ≠ 0 → p.args = [] ∧ p.f = 0
  uniq : ∀ (j k : Nat) (p q : Pt), P[j]? = some p → P[k]? = some q → p.v = q.v → p.v ≠ 0 → j = k
  dep : ∃ d : Nat → Nat, (∀ (k : Nat) (p : Pt), P[k]? = some p → (p.like = k → d k = 0) ∧ (p.like ≠ k → d p.like < d k)) ∧ ∀ k, k < P.length → d k + heads P ≤ P.length

theorem headF_mono {P : List Pt} {r : Nat} : ∀ {n m k : Nat}, headF P n k = some r → n ≤ m → headF P m k = some r := by
  intro n
  induction n with
  | zero => intro m k h; cases h
  | succ n ih =>
    intro m k h hm
    obtain ⟨_, p, _, hp⟩ := headF_some h
    obtain ⟨m, rfl⟩ : ∃ j, m = j + 1 := ⟨m - 1, by omega⟩
    rw [headF_succ hp] at h ⊢
    by_cases e : p.like = k
    · rw [if_pos e] at h ⊢; exact h
    · rw [if_neg e] at h ⊢; exact ih h (by omega)
theorem headF_det {P : List Pt} {r s n m k : Nat} (h : headF P n k = some r) (h' : headF P m k = some s) : r = s := by
  have h1 := headF_mono h (Nat.le_max_left n m)
  have h2 := headF_mono h' (Nat.le_max_right n m)
  rw [h1] at h2; exact Option.some.inj h2
theorem headF_self {P : List Pt} {r : Nat} : ∀ {n k : Nat}, headF P n k = some r → ∃ p, P[r]? = some p ∧ p.like = r := by
  intro n
  induction n with
  | zero => intro k h; cases h
  | succ n ih =>
    intro k h
    obtain ⟨_, p, _, hp⟩ := headF_some h
    rw [headF_succ hp] at h
    by_cases e : p.like = k
    · rw [if_pos e] at h; cases h; exact ⟨p, hp, e⟩
    · rw [if_neg e] at h; exact ih h
theorem hd_some {P : List Pt} (h : WFp P) {k : Nat} (hk : k < P.length) : ∃ r, headF P (P.length + 1) k = some r := by
  obtain ⟨d, hd, hb⟩ := h.dep
  have key : ∀ n k, k < P.length → d k ≤ n → ∃ r, headF P (n + 1) k = some r := by
    intro n
    induction n with
    | zero =>
      intro k hk hdk
      have hp := List.getElem?_eq_getElem hk
      refine ⟨k, ?_⟩
      rw [headF_succ hp, if_pos]
      by_cases e : P[k].like = k
      · exact e
      · have := (hd k _ hp).2 e; omega
    | succ n ih =>
      intro k hk hdk
      have hp := List.getElem?_eq_getElem hk
      rw [headF_succ hp]
      by_cases e : P[k].like = k
      · exact ⟨k, by rw [if_pos e]⟩
      · rw [if_neg e]
        exact ih _ (h.like k _ hp) (by have := (hd k _ hp).2 e; omega)
  exact key P.length k hk (by have := hb k hk; omega)
/-- The head of a part. -/
def hd (P : List Pt) (k : Nat) : Nat := (headF P (P.length + 1) k).getD 0
theorem hd_eq {P : List Pt} (h : WFp P) {k : Nat} (hk : k < P.length) : headF P (P.length + 1) k = some (hd P k) := by
  obtain ⟨r, hr⟩ := hd_some h hk
  rw [hd, hr]; rfl
theorem hd_of {P : List Pt} {k n r : Nat} (h : WFp P) (hr : headF P n k = some r) : hd P k = r := by
  obtain ⟨_, p, _, hp⟩ := headF_some hr
  have hk := (List.getElem?_eq_some_iff.1 hp).1
  exact headF_det (hd_eq h hk) hr
theorem hd_lt {P : List Pt} (h : WFp P) {k : Nat} (hk : k < P.length) : hd P k < P.length := headF_lt (hd_eq h hk)
theorem hd_self {P : List Pt} (h : WFp P) {k : Nat} (hk : k < P.length) : ∃ p, P[hd P k]? = some p ∧ p.like = hd P k := headF_self (hd_eq h hk)
theorem hd_head {P : List Pt} (h : WFp P) {k : Nat} {p : Pt} (hp : P[k]? = some p) (e : p.like = k) : hd P k = k := hd_of (n := 1) h (by rw [headF_succ hp, if_pos e])
theorem hd_like {P : List Pt} (h : WFp P) {k : Nat} {p : Pt} (hp : P[k]? = some p) : hd P p.like = hd P k := by
  have hk := (List.getElem?_eq_some_iff.1 hp).1
  by_cases e : p.like = k
  · rw [e]
  · have h1 := hd_eq h (h.like k p hp)
    refine (hd_of (n := P.length + 1 + 1) h ?_).symm
    rw [headF_succ hp, if_neg e, h1]
theorem hd_hd {P : List Pt} (h : WFp P) {k : Nat} (hk : k < P.length) : hd P (hd P k) = hd P k := by
  obtain ⟨p, hp, e⟩ := hd_self h hk
  exact hd_head h hp e
/-- What holds of a part if it does of the one that it is like, holds of all if it does of heads. -/
theorem hd_ind {P : List Pt} (h : WFp P) (M : Nat → Prop) (h1 : ∀ (k : Nat) (p : Pt), P[k]? = some p → p.like = k → M k) (h2 : ∀ (k : Nat) (p : Pt), P[k]? = some p → p.like ≠ k → M p.like → M k) : ∀ k, k < P.length → M k := by
  obtain ⟨d, hd, _⟩ := h.dep
  have key : ∀ n k, k < P.length → d k ≤ n → M k := by
    intro n
    induction n with
    | zero =>
      intro k hk hdk
      have hp := List.getElem?_eq_getElem hk
      by_cases e : P[k].like = k
      · exact h1 k _ hp e
      · have := (hd k _ hp).2 e; omega
    | succ n ih =>
      intro k hk hdk
      have hp := List.getElem?_eq_getElem hk
      by_cases e : P[k].like = k
      · exact h1 k _ hp e
      · exact h2 k _ hp e (ih _ (h.like k _ hp) (by have := (hd k _ hp).2 e; omega))
  exact fun k hk => key _ k hk (Nat.le_refl _)
theorem hd_vle {P : List Pt} (h : WFp P) : ∀ (k : Nat), k < P.length → ∀ (p q : Pt), P[k]? = some p → P[hd P k]? = some q → q.v ≤ p.v := by
  refine hd_ind h _ (fun k p hp e p' q hp' hq => ?_) (fun k p hp e ih p' q hp' hq => ?_)
  · rw [hd_head h hp e] at hq
    rw [hp'] at hq; cases hq; omega
  · rw [hp] at hp'; cases hp'
    have hl := h.like k p hp
    have hr := List.getElem?_eq_getElem hl
    have h3 := h.vle k p _ hp hr
    have h4 := ih _ q hr (by rw [hd_like h hp]; exact hq)
    omega

/-- What is not a part's like. -/
def stJ (p : Pt) : Pt := { p with like := 0 }
def SameJ (P P' : List Pt) : Prop := P.map stJ = P'.map stJ
theorem SameJ.len {P P' : List Pt} (h : SameJ P P') : P'.length = P.length := by
  have := congrArg List.length h; simpa using this.symm
theorem SameJ.at {P P' : List Pt} (h : SameJ P P') {k : Nat} {p : Pt} (hp : P[k]? = some p) : ∃ p', P'[k]? = some p' ∧ p'.v = p.v ∧ p'.f = p.f ∧ p'.args = p.args ∧ p'.size = p.size := by
  have h1 : (P.map stJ)[k]? = (P'.map stJ)[k]? := by rw [h]
  rw [List.getElem?_map, List.getElem?_map, hp] at h1
  cases hp' : P'[k]? with
  | none => rw [hp'] at h1; cases h1
  | some p' =>
    rw [hp'] at h1
    simp only [Option.map_some, Option.some.injEq, stJ, Pt.mk.injEq] at h1
    exact ⟨p', rfl, h1.1.symm, h1.2.1.symm, h1.2.2.1.symm, h1.2.2.2.2.symm⟩
theorem SameJ.refl (P : List Pt) : SameJ P P := rfl
theorem SameJ.trans {P P' P'' : List Pt} (h : SameJ P P') (h' : SameJ P' P'') : SameJ P P'' := Eq.trans h h'
theorem SameJ.symm {P P' : List Pt} (h : SameJ P P') : SameJ P' P := Eq.symm h
theorem SameJ.set {P : List Pt} {y : Nat} {q : Pt} (hq : P[y]? = some q) (x : Nat) : SameJ P (P.set y { q with like := x }) := by
  refine List.ext_getElem? fun k => ?_
  rw [List.getElem?_map, List.getElem?_map]
  by_cases e : k = y
  · subst e
    have hk := (List.getElem?_eq_some_iff.1 hq).1
    rw [List.getElem?_set_self hk, hq]; rfl
  · rw [List.getElem?_set_ne (fun h => e h.symm)]

section
variable {P : List Pt} {x y : Nat} {p q : Pt}
/-- Head y is now like head x. -/
theorem link_head (hx : P[x]? = some p) (hy : P[y]? = some q) (ex : p.like = x) (ey : q.like = y) (ne : x ≠ y) : ∀ {n k r : Nat}, headF P n k = some r → headF (P.set y { q with like := x }) (n + 1) k = some (if r = y then x else r) := by
  have hyl := (List.getElem?_eq_some_iff.1 hy).1
  have h0 : ∀ n, headF (P.set y { q with like := x }) (n + 1) x = some x := fun n => by
    have : (P.set y { q with like := x })[x]? = some p := by rw [List.getElem?_set_ne (fun h => ne h.symm)]; exact hx
    rw [headF_succ this, if_pos ex]
  intro n
  induction n with
  | zero => intro k r h; cases h
  | succ n ih =>
    intro k r h
    obtain ⟨_, p', _, hp⟩ := headF_some h
    rw [headF_succ hp] at h
    by_cases e : k = y
    · subst e
      rw [hy] at hp; cases hp
      rw [if_pos ey] at h; cases h
      have h1 : (P.set k { q with like := x })[k]? = some { q with like := x } := List.getElem?_set_self hyl
      rw [headF_succ h1, if_neg (show ¬ x = k from ne), if_pos rfl]
      exact h0 n
    · have h1 : (P.set y { q with like := x })[k]? = some p' := by rw [List.getElem?_set_ne (fun h => e h.symm)]; exact hp
      rw [headF_succ h1]
      by_cases e2 : p'.like = k
      · rw [if_pos e2] at h ⊢; cases h; rw [if_neg e]
      · rw [if_neg e2] at h ⊢; exact ih h
theorem link_heads (hy : P[y]? = some q) (ey : q.like = y) (ne : x ≠ y) : heads (P.set y { q with like := x }) + 1 = heads P := by
  have hyl := (List.getElem?_eq_some_iff.1 hy).1
  rw [heads, heads, List.length_set]
  refine countP_one hyl (fun k hk hne => ?_) ?_ ?_
  · rw [isHd, isHd, List.getElem?_set_ne (fun h => hne h.symm)]
  · rw [isHd, hy]; simpa using ey
  · rw [isHd, List.getElem?_set_self hyl]; simpa using ne
theorem link_wf (h : WFp P) (hx : P[x]? = some p) (hy : P[y]? = some q) (ex : p.like = x) (ey : q.like = y) (ne : x ≠ y) (hv : p.v ≤ q.v) : WFp (P.set y { q with like := x }) := by
  have hs := SameJ.set hy x
  have hxl := (List.getElem?_eq_some_iff.1 hx).1
  have hyl := (List.getElem?_eq_some_iff.1 hy).1
  have hat : ∀ (k : Nat) (r : Pt), (P.set y { q with like := x })[k]? = some r → (k = y ∧ r = { q with like := x }) ∨ (k ≠ y ∧ P[k]? = some r) := fun k r hr => by
    by_cases e : k = y
    · subst e; rw [List.getElem?_set_self hyl] at hr; cases hr; exact Or.inl ⟨rfl, rfl⟩
    · rw [List.getElem?_set_ne (fun h => e h.symm)] at hr; exact Or.inr ⟨e, hr⟩
  refine ⟨fun k r hr a ha => ?_, fun k r hr => ?_, fun k r s hr hss => ?_, fun k r hr => ?_, fun k r hr => ?_, fun j k r s hr hss e1 e2 => ?_, ?_⟩
  · obtain ⟨r', h1, _, _, h2, _⟩ := hs.symm.at hr
    exact h.args k r' h1 a (by rw [h2]; exact ha)
  · rw [List.length_set]
    rcases hat k r hr with ⟨rfl, rfl⟩ | ⟨_, hr⟩
    · exact hxl
    · exact h.like k r hr
  · rcases hat k r hr with ⟨rfl, rfl⟩ | ⟨e, hr⟩
    · rw [List.getElem?_set_ne (fun h => ne h.symm), hx] at hss; cases hss; exact hv
    · obtain ⟨s', h1, h2, _⟩ := hs.symm.at hss
      rw [← h2]; exact h.vle k r s' hr h1
  · obtain ⟨r', h1, h2, _⟩ := hs.symm.at hr
    rw [← h2]; exact h.nn k r' h1
  · obtain ⟨r', h1, h2, h3, h4, _⟩ := hs.symm.at hr
    rw [← h2, ← h3, ← h4]; exact h.var k r' h1
  · obtain ⟨r', h1, h2, _⟩ := hs.symm.at hr
    obtain ⟨s', h3, h4, _⟩ := hs.symm.at hss
    exact h.uniq j k r' s' h1 h3 (by rw [h2, h4]; exact e1) (by rw [h2]; exact e2)
  · obtain ⟨d, hd1, hd2⟩ := h.dep
    refine ⟨fun k => if hd P k = y then d k + 1 else d k, fun k r hr => ?_, fun k hk => ?_⟩
    · rcases hat k r hr with ⟨rfl, rfl⟩ | ⟨e, hr⟩
      · refine ⟨fun e => absurd e ne, fun _ => ?_⟩
        show (if hd P x = k then d x + 1 else d x) < (if hd P k = k then d k + 1 else d k)
        rw [hd_head h hx ex, if_neg ne, hd_head h hy ey, if_pos rfl, (hd1 x p hx).1 ex]; omega
      · refine ⟨fun e2 => ?_, fun e2 => ?_⟩
        · show (if hd P k = y then d k + 1 else d k) = 0
          rw [hd_head h hr e2, if_neg e]; exact (hd1 k r hr).1 e2
        · show (if hd P r.like = y then d r.like + 1 else d r.like) < (if hd P k = y then d k + 1 else d k)
          rw [hd_like h hr]
          have := (hd1 k r hr).2 e2
          split <;> omega
    · rw [List.length_set] at hk ⊢
      have h1 := link_heads hy ey ne
      have h2 := hd2 k hk
      show (if hd P k = y then d k + 1 else d k) + _ ≤ _
      split <;> omega
theorem link_hd (h : WFp P) (hx : P[x]? = some p) (hy : P[y]? = some q) (ex : p.like = x) (ey : q.like = y) (ne : x ≠ y) (hv : p.v ≤ q.v) {k : Nat} (hk : k < P.length) : hd (P.set y { q with like := x }) k = if hd P k = y then x else hd P k :=
  hd_of (link_wf h hx hy ex ey ne hv) (link_head hx hy ex ey ne (hd_eq h hk))
end
end Go.Proofs.YtbkedppkdhfpoabGreat
