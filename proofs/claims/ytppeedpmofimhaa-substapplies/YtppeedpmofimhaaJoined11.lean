/- The document's own putting in. The program's own putting in: by a map. The program's own check of bindings. The program's Apply: what it answers. The statement's own look at a term and an error; what At and Put answer, case by case. -/
import Derived.Deep.DeepCutAuto
import Derived.Deep.RegionHeld3
import Derived.Test.YtppeedpmofimhaaJoined10
namespace Go.Proofs.Ytppeedpmofimhaa
open Go.RowKit

/-- What the document makes of a term that is no variable: its number of a variable is not kept. -/
theorem applyT_doc {bs : List (Int × T)} {t : T} (h : ¬ 0 < t.v) (h0 : 0 ≤ t.v) : applyT bs t = ⟨0, t.f, t.args.map (applyT bs)⟩ := applyT_fn (by omega)
theorem okP_v {ar : List Int} {t : T} (h : okP ar t) : 0 ≤ t.v := by
  have h1 := (okP_iff.1 h).1
  rw [partErr] at h1
  by_cases hv : t.v = 0
  · omega
  · rw [if_pos hv] at h1
    by_cases h2 : t.v < 1 ∨ 1000 < t.v
    · rw [if_pos h2] at h1; cases h1
    · omega

attribute [local go_sem ↓] Go.wp_at_zero Go.wp_at_succ
set_option maxRecDepth 100000 in
set_option maxHeartbeats 2000000 in
theorem applyOf_any (ar : List Int) (q : Nat → Prop) (bs : List (Int × T)) (ba : Option Addr) (bc : Nat) (hl : bs.length ≤ 9223372036854775807) (N : Nat) : ∀ (t : T) (a : Option Addr) (cap : Nat) (w : World), t.sz < N → (∀ k, q k → k < w.heap.size) → Binds q w bs ba → okP ar t → t.sz ≤ 1000 → InP q w t.args a →
    Calls Try.prog 33 #[.slice ba bs.length bc, .agg #[.int .i64 t.v, .int .i64 t.f, .slice a t.args.length cap]] w fun e w' =>
      ∃ a' cap', e = .returned (.agg #[.int .i64 (applyT bs t).v, .int .i64 (applyT bs t).f, .slice a' (applyT bs t).args.length cap']) ∧ InP (fun k => q k ∨ w.heap.size ≤ k) w' (applyT bs t).args a' ∧ Below w.heap.size w w' := by
  induction N with
  | zero => intro t a cap w hN; omega
  | succ N ih =>
    intro t a cap w hN hq hbs hok ht hin
    have Hih := hide ih
    have Hq := hide hq
    have hv0 := okP_v hok
    have hte := T.sz_eq t
    have HB := hide (fun o1 o2 => boundTo_any bs ba bc t.v ((w.alloc o1).alloc o2) q hl (Binds_below (below2 _ _ _) hbs))
    clear ih hq
    by_cases hv : 0 < t.v
    · cases hlk : lookB bs t.v with
      | none =>
        have hgoal : applyT bs t = t := by
          have hvv := ok_var hok (by omega)
          rw [applyT_none (by rw [putIn, if_pos hv, hlk]), hvv.2]
          cases t; simp_all
        rw [hgoal]
        rw [idxB_none hlk] at HB
        clear hlk hgoal
        go_enter Try.func33, Try.ntmps33
        go_wp2_with (go_at_call 70; refine (HB.out _ _).mono ?_; rintro e w' ⟨rfl, hw'⟩; obtain rfl := hw'.symm; clear hw')
        exact bodyPost_ret (v := .agg #[.int .i64 t.v, .int .i64 t.f, .slice a t.args.length cap]) (by simp [results, Try.results33, go_sem]) rfl ⟨a, cap, rfl, InP_imp (fun k h => Or.inl h) (InP_below (w := w) (below2 _ _ _) hin), below2 _ _ _⟩
      | some u =>
        obtain ⟨m, hm1, hm2, hm3⟩ := idxB_some (n := 0) hlk
        rw [Nat.zero_add] at hm1
        have hgoal : applyT bs t = u := applyT_some (by rw [putIn, if_pos hv, hlk])
        rw [hgoal]
        rw [hm1] at HB
        obtain ⟨b, off, rfl⟩ := Binds_some hbs (by omega)
        obtain ⟨a6, cap6, _, d0, d1, d2, d3, hin6⟩ := Binds_at hbs hm3
        have hmI : (m : Int) < bs.length := by omega
        have hm0 : (0 : Int) ≤ m := by omega
        have hbl := lt_of_cell d0
        have e1 : off + m * 4 + 1 + 1 = off + m * 4 + 2 := by omega
        have e2 : off + m * 4 + 1 + 2 = off + m * 4 + 3 := by omega
        rw [← e1] at d2
        rw [← e2] at d3
        have Hin6 := hide hin6
        clear hlk hgoal hm3 hin6 hm1 e1 e2 d0
        go_enter Try.func33, Try.ntmps33
        go_wp2_with (go_at_call 70; refine (HB.out _ _).mono ?_; rintro e w' ⟨rfl, hw'⟩; obtain rfl := hw'.symm; clear hw')
        exact bodyPost_ret (v := .agg #[.int .i64 u.v, .int .i64 u.f, .slice a6 u.args.length cap6]) (by simp [results, Try.results33, go_sem]) rfl ⟨a6, cap6, rfl, InP_imp (fun k h => Or.inl h) (InP_below (w := w) (below2 _ _ _) Hin6.out), below2 _ _ _⟩
    · have hgoal : applyT bs t = ⟨0, t.f, t.args.map (applyT bs)⟩ := applyT_fn (by omega)
      obtain ⟨L, hL⟩ : ∃ L, L = t.args.map (applyT bs) := ⟨_, rfl⟩
      have hLl : L.length = t.args.length := by rw [hL]; simp
      have hLk : ∀ (k : Nat) (x : T), t.args[k]? = some x → L[k]? = some (applyT bs x) := fun k x hx => by
        rw [hL]; simp [hx]
      have HLk := hide hLk
      rw [hgoal, ← hL]
      show Calls _ _ _ _ fun e w' => ∃ a' cap', e = .returned (.agg #[.int .i64 0, .int .i64 t.f, .slice a' L.length cap']) ∧ InP (fun k => q k ∨ w.heap.size ≤ k) w' L a' ∧ Below w.heap.size w w'
      have htl : t.args.length ≤ 1000 := by have := T.length_le t.args; omega
      have Hin := hide hin
      have Hbs := hide hbs
      clear hL hgoal hLk hin hbs HB
      obtain ⟨W3, hW3⟩ : ∃ W3, W3 = ((w.alloc (.cells #[.int .i64 t.v, .int .i64 t.f, .slice a t.args.length cap] 27)).alloc (.cells #[.int .i64 0, .int .i64 0, .slice none 0 0] 27)) := ⟨_, rfl⟩
      have hT3 : Hid (Three W3 w.heap.size (.int .i64 t.v) (.int .i64 t.f) (.slice a t.args.length cap)) := by rw [hW3]; exact (Three.new 27 rfl).alloc _
      have hWb : Hid (Below w.heap.size w W3) := by rw [hW3]; exact below2 _ _ _
      have HW3 := hide hW3
      clear hW3
      obtain ⟨ti, hi, hzz⟩ := Option.map_eq_some_iff.1 Try.info27
      simp only [Prod.mk.injEq] at hzz
      obtain ⟨hz0, hz1, hz2⟩ := hzz
      go_enter Try.func33, Try.ntmps33
      go_wp2_with fail
      go_loopw [7] (fun j wr => ∃ (k : Nat) (l : Value), k ≤ t.args.length ∧ j = .int .i64 k ∧ Below (w.heap.size + 1 + 1) W3 wr ∧
          Three wr (w.heap.size + 1 + 1) (.int .i64 0) (.int .i64 t.f) l ∧ Outs q (w.heap.size + 1 + 1 + 1) wr l (L.take k)) (fun j _ => t.args.length - (intOf j).toNat)
      case atStart =>
        refine ⟨0, .slice none 0 0, Nat.zero_le _, rfl, ?_, ?_, by rw [List.take_zero]; exact Outs_nil⟩
        · rw [HW3.out]
          exact (Below.refl _ _).alloc (by simp) _
        · exact Three.new 27 (by simp)
      case round =>
        obtain ⟨k, l, hk, rfl, hbr, h3o, hout⟩ := hrel
        have hzr := h3o.lt
        have HT := hide (hT3.out.same (hbr.block _ (by omega)))
        obtain ⟨c0, c1, c2, _, _, _⟩ := HT.out
        have H3o := hide h3o
        have Hbr := hide hbr
        have Hout := hide hout
        clear hout hbr
        by_cases hlt : k < t.args.length
        · obtain ⟨b1, off1, rfl⟩ := InP_some Hin.out (by omega)
          obtain ⟨x, hx⟩ : ∃ x, t.args[k]? = some x := ⟨t.args[k], List.getElem?_eq_getElem hlt⟩
          obtain ⟨a3, cap3, _, k0, k1, k2, hinx⟩ := InP_at Hin.out hx
          have hb1 := lt_of_cell k0
          have hxm := T.szL_mem (List.mem_of_getElem? hx)
          have Hxo := hide (okArg hok (List.mem_of_getElem? hx))
          have Hx3 := hide hinx
          have HT1 := hide (show L.take (k + 1) = L.take k ++ [applyT bs x] by rw [List.take_add_one, HLk.out k x hx]; rfl)
          have Htk : Hid ((L.take k).length = k) := by show (L.take k).length = k; simp; omega
          have HbW : Hid (Below w.heap.size w wr) := hWb.out.trans (Hbr.out.mono (by omega))
          have kk0 := cell_below HbW.out k0
          have kk1 := cell_below HbW.out k1
          have kk2 := cell_below HbW.out k2
          obtain ⟨q0, q1, q2, r0, r1, r2⟩ := H3o.out
          have hltI : (k : Int) < t.args.length := by omega
          have hk0 : (0 : Int) ≤ k := by omega
          obtain ⟨xs0, hown0, _⟩ := Hout.out
          have Hou0 := hide hown0
          clear k0 k1 k2 hinx hx q0 q1 r0 r1 hown0
          go_wp2_with fail
          go_region_law ((first
            | (refine step_append_lies _ rfl (.tmp 34) (.tmp 42) 25 rfl (w.heap.size + 1 + 1 + 1) 27 ti (.agg #[.int .i64 0, .int .i64 0, .slice none 0 0]) 3 40 Try.underlying25 hi hz0 hz1 hz2 rfl (by decide) l (L.take k).length xs rfl (HO.out _) ⟨w5.heap.size, 0, none⟩ 1 1 [.int .i64 (applyT bs x).v, .int .i64 (applyT bs x).f, .slice a5 (applyT bs x).args.length cap5] rfl rfl (three_new (by first | rfl | simp)) (by simp [Value.oneCell']) (by decide) (by have := Htk.out; unfold maxLen; omega) (by have := Htk.out; omega) (by simp; omega) _ rfl ?_
               intro g capg w6 hown6 hgr6 hat6 hlt6
               have HF := hide (app_facts (c := applyT bs x) (Hb.out.alloc (show w.heap.size + 1 + 1 ≤ w5.heap.size by omega) _) (H3.out.alloc _) (HO.out _) (Kids_mono (fun k' hk' hlt' => ⟨hk', (below1 _ _).block k' hlt'⟩) hkids) (fun k' hk' => by have := Hq.out k' hk'; omega) (InP_alloc _ HC.out) hown6 hgr6 hat6)
               obtain ⟨_, _, y2, _, _, y5⟩ := HF.out.1
               have hz6 := hgr6.size
               clear hown6 hgr6 hat6)
            | (go_simp
               go_at_call 33
               refine (Hih.out x a3 cap3 _ ?_ ?_ ?_ Hxo.out ?_ ?_).mono ?_
               · omega
               · exact fun k' hk' => Nat.lt_trans (Hq.out k' hk') (show w.heap.size < wr.heap.size by omega)
               · exact Binds_below (w := w) HbW.out.drew Hbs.out
               · omega
               · exact InP_below (w := w) HbW.out.drew Hx3.out
               rintro e w5 ⟨a5, cap5, rfl, hin5, hb5⟩
               have hb5' : Below wr.heap.size wr w5 := below_undrew hb5
               have hz5 := hb5'.size
               have hz5' : w.heap.size + 1 + 1 < w5.heap.size := by omega
               have Hb := hide (Hbr.out.trans (hb5'.mono (by omega)))
               have H3 := hide (H3o.out.below hb5')
               have Hou := hide (Outs_below Hout.out hb5')
               obtain ⟨xs, hown, hkids⟩ := Hou.out
               have HO := hide (fun o1 => own_same hown (w' := w5.alloc o1) (fun g hg => (below1 w5 o1).block g (own_lt hown g hg).2))
               have HC : Hid (InP (fun k' => (q k' ∨ w.heap.size + 1 + 1 + 1 ≤ k') ∧ l.ownBlock ≠ some k') w5 (applyT bs x).args a5) := InP_imp (fun k' hk' => by
                 refine ⟨hk'.imp id (fun h => by have h : wr.heap.size ≤ k' := h; omega), fun e => ?_⟩
                 have h9 := own_lt Hou0.out k' e
                 rcases hk' with h | h
                 · have := Hq.out k' h; omega
                 · have h : wr.heap.size ≤ k' := h
                   omega) hin5
               obtain ⟨_, _, s2, _, _, g2⟩ := H3.out
               clear hin5 hb5 hb5' hown)))
          all_goals
            go_wp2_with fail
            go_roundw
            case rel => exact ⟨k + 1, _, by omega, by go_num, HF.out.2.1 _, HF.out.2.2.1 _, by have h9 := HF.out.2.2.2 (.slice (some ⟨g, 0, none⟩) (k + 1) capg); rw [Htk.out] at h9; rw [HT1.out]; exact h9⟩
            case measure => simp [intOf]; omega
        · have hk2 : k = L.length := by omega
          subst hk2
          rw [List.take_length] at Hout
          obtain ⟨la, lc, rfl, hinL⟩ := Outs_end Hout.out
          obtain ⟨q0, q1, q2, r0, r1, r2⟩ := H3o.out
          have hbT : Hid (Three wr (w.heap.size + 1) (.int .i64 0) (.int .i64 0) (.slice none 0 0)) := by
            refine Three.same ?_ (Hbr.out.block _ (by omega))
            rw [HW3.out]; exact Three.new 27 (by simp)
          obtain ⟨m0, m1, m2, n0, n1, n2⟩ := hbT.out
          have HinL := hide hinL
          clear hinL
          go_wp2_with fail
          obtain ⟨z0, z1, z2, _, _, _⟩ := hbT.out.set (.int .i64 0) (.int .i64 t.f) (.slice la t.args.length lc)
          simp only [set3, Nat.zero_add] at z0 z1 z2
          refine bodyPost_ret (v := .agg #[.int .i64 0, .int .i64 t.f, .slice la t.args.length lc]) (by simp [results, Try.results33, go_sem, z0, z1, z2]) rfl ⟨la, lc, by rw [hLl], InP_imp (fun k' hk' => hk'.imp id (fun h => by omega)) (InP_same (fun k' hk' _ => set3_block (b := w.heap.size + 1) (off := 0) ?_) HinL.out), below_set3 (b := w.heap.size + 1) (off := 0) (hWb.out.trans (Hbr.out.mono (by omega))) (by omega) _ _ _⟩
          rcases hk' with h | h
          · have := Hq.out k' h; omega
          · omega

end Go.Proofs.Ytppeedpmofimhaa

namespace Go.Proofs.Ytppeedpmofimhaa
open Go.RowKit Go.Maps

theorem Try.zero27 (w : World) : (zeroValue 27).run Try.prog w = .ok (.agg #[.int .i64 0, .int .i64 0, .slice none 0 0]) w := by kernel_rfl

theorem Kids_length {p : Nat → Prop} {w : World} {ts : List T} : ∀ {cs : List Value}, Kids p w ts cs → cs.length = ts.length * 3 := by
  induction ts with
  | nil => intro cs h; rw [show cs = [] from h]; rfl
  | cons t ts ih =>
    intro cs h
    obtain ⟨a, cap, rest, rfl, _, h⟩ := h
    have := ih h
    simp only [List.length_cons]; omega

/-- A term that is being made: k of its arguments are there. -/
structure Mk (w wr : World) (v f : Int) (n : Nat) (L : List T) (k g b7 : Nat) : Prop where
  kids : ∃ cs, Kids (fun x => w.heap.size + 1 < x ∧ x ≠ g) wr (L.take k) cs ∧ ∀ j u, cs[j]? = some u → wr.cell? ⟨g, j, none⟩ = some u
  cells : ∀ j, j < n * 3 → ∃ u, wr.cell? ⟨g, j, none⟩ = some u
  fr : ∀ j, wr.frozen? ⟨g, j, none⟩ = false
  made : Three wr b7 (.int .i64 v) (.int .i64 f) (.slice (some ⟨g, 0, none⟩) n n)
  res : Three wr (w.heap.size + 1) (.int .i64 0) (.int .i64 0) (.slice none 0 0)
  below : Below w.heap.size w wr
  gg : w.heap.size + 1 < g
  gl : g < wr.heap.size
  bb : w.heap.size + 1 < b7
  ne : b7 ≠ g
theorem Mk.step {w wr w2 : World} {v f : Int} {n k g b7 : Nat} {L : List T} {c : T} {a2 : Option Addr} {cap2 : Nat} {o : Obj} (h : Mk w wr v f n L k g b7) (hL : L.length = n) (hc : L[k]? = some c) (hb : Below (wr.alloc o).heap.size (wr.alloc o) w2) (hi : InP (fun x => (wr.alloc o).heap.size ≤ x) w2 c.args a2) :
    Mk w (set3 w2 g (k * 3) (.int .i64 c.v) (.int .i64 c.f) (.slice a2 c.args.length cap2)) v f n L (k + 1) g b7 := by
  have hk : k < n := by
    rcases Nat.lt_or_ge k L.length with h | h
    · omega
    · rw [List.getElem?_eq_none h] at hc; cases hc
  have hgl := h.gl
  have hgg := h.gg
  have hwb := h.below.size
  have hb' : Below wr.heap.size wr w2 := (below1 _ _).trans (hb.mono (by simp))
  have hs2 := hb'.size
  obtain ⟨cs, hk1, hk2⟩ := h.kids
  have hcl := Kids_length hk1
  rw [List.length_take_of_le (by omega)] at hcl
  have hcells : ∀ j, j < n * 3 → ∃ u, w2.cell? ⟨g, j, none⟩ = some u := fun j hj => by
    rw [hb'.cell (p := ⟨g, j, none⟩) hgl]; exact h.cells j hj
  have hsame := set3_same (w := w2) (b := g) (off := k * 3) (u0 := .int .i64 c.v) (u1 := .int .i64 c.f) (u2 := .slice a2 c.args.length cap2) (fun j _ hj2 => hcells j (by omega))
  refine ⟨⟨cs ++ [.int .i64 c.v, .int .i64 c.f, .slice a2 c.args.length cap2], ?_, ?_⟩, ?_, ?_, (h.made.below hb').same (set3_block h.ne), (h.res.below hb').same (set3_block (by have := h.gg; omega)), below_set3 (h.below.trans (hb'.mono hwb)) (by have := h.gg; omega) _ _ _, h.gg, by rw [set3_size]; omega, h.bb, h.ne⟩
  · rw [List.take_add_one, hc]
    refine Kids_append (Kids_mono (fun x hx hxl => ⟨hx, by rw [set3_block hx.2]; exact hb'.block x hxl⟩) hk1) ⟨a2, cap2, [], rfl, ?_, rfl⟩
    refine InP_mono (fun b o v hp hv => ?_) _ _ _ (Nat.le_refl _) hi
    have hp : wr.heap.size + 1 ≤ b := by simpa using hp
    exact ⟨⟨by omega, by omega⟩, by rw [World.cell?_of_block (w := w2) (a := ⟨b, o, none⟩) (set3_block (show b ≠ g by omega))]; exact hv⟩
  · intro j u hu
    rcases Nat.lt_or_ge j cs.length with hj | hj
    · rw [List.getElem?_append_left hj] at hu
      rw [set3_cell (by omega), hb'.cell (p := ⟨g, j, none⟩) hgl]; exact hk2 j u hu
    · rw [List.getElem?_append_right hj, hcl] at hu
      have hj3 : j - k * 3 = 0 ∨ j - k * 3 = 1 ∨ j - k * 3 = 2 := by
        rcases Nat.lt_or_ge (j - k * 3) 3 with h9 | h9
        · omega
        · rw [List.getElem?_eq_none (by simpa using h9)] at hu; cases hu
      rcases hj3 with e | e | e
      · rw [e] at hu
        obtain rfl : Value.int .i64 c.v = u := by simpa using hu
        rw [show j = k * 3 by omega]; exact hsame.1
      · rw [e] at hu
        obtain rfl : Value.int .i64 c.f = u := by simpa using hu
        rw [show j = k * 3 + 1 by omega]; exact hsame.2.1
      · rw [e] at hu
        obtain rfl : Value.slice a2 c.args.length cap2 = u := by simpa using hu
        rw [show j = k * 3 + 2 by omega]; exact hsame.2.2
  · intro j hj
    by_cases h3 : j < k * 3 ∨ k * 3 + 2 < j
    · rw [set3_cell h3]; exact hcells j hj
    · have : j = k * 3 ∨ j = k * 3 + 1 ∨ j = k * 3 + 2 := by omega
      rcases this with rfl | rfl | rfl
      · exact ⟨_, hsame.1⟩
      · exact ⟨_, hsame.2.1⟩
      · exact ⟨_, hsame.2.2⟩
  · intro j
    rw [set3_frozen, hb'.frozen (p := ⟨g, j, none⟩) hgl]; exact h.fr j
theorem Mk.fin {w wr : World} {v f : Int} {n g b7 : Nat} {L : List T} (h : Mk w wr v f n L n g b7) (hL : L.length = n) : InP (fun x => w.heap.size + 1 < x) wr L (some ⟨g, 0, none⟩) := by
  obtain ⟨cs, h1, h2⟩ := h.kids
  rw [← hL, List.take_length] at h1
  exact Kids_in h.gg (Kids_mono (fun x hx _ => ⟨hx.1, rfl⟩) h1) (fun j u hu => by rw [Nat.zero_add]; exact h2 j u hu)

theorem Mk.start {w wr : World} {v f : Int} {n g b7 : Nat} {L : List T} (hg : wr.heap[g]? = some (.cells (row3 n) 27)) (h7 : Three wr b7 (.int .i64 v) (.int .i64 f) (.slice (some ⟨g, 0, none⟩) n n)) (hr : Three wr (w.heap.size + 1) (.int .i64 0) (.int .i64 0) (.slice none 0 0)) (hb : Below w.heap.size w wr) (h1 : w.heap.size + 1 < g) (h2 : w.heap.size + 1 < b7) (h3 : b7 ≠ g) : Mk w wr v f n L 0 g b7 := by
  refine ⟨⟨[], rfl, fun j u hu => by simp at hu⟩, fun j hj => ?_, fun j => frozen_of_heap hg j, h7, hr, hb, h1, (Array.getElem?_eq_some_iff.1 hg).1, h2, h3⟩
  have hs : j < (row3 n).size := by rw [size_row3]; exact hj
  refine ⟨(row3 n)[j], ?_⟩
  unfold World.cell?
  rw [hg]
  simp [hs]
theorem Mk.behind {w wr : World} {v f : Int} {n k g b7 : Nat} {L : List T} (h : Mk w wr v f n L k g b7) (hk : k < n) : ∀ (o : Obj) (w2 : World), Below (wr.alloc o).heap.size (wr.alloc o) w2 → (w2.cell? ⟨b7, 2, none⟩ = some (.slice (some ⟨g, 0, none⟩) n n)) ∧
      (∃ v0 v1 v2, w2.cell? ⟨g, k * 3, none⟩ = some v0 ∧ w2.cell? ⟨g, k * 3 + 1, none⟩ = some v1 ∧ w2.cell? ⟨g, k * 3 + 2, none⟩ = some v2) ∧ (∀ j, w2.frozen? ⟨g, j, none⟩ = false) := by
  intro o w2 hb
  have hb' : Below wr.heap.size wr w2 := (below1 _ _).trans (hb.mono (by simp))
  have hgl := h.gl
  obtain ⟨v0, e0⟩ := h.cells (k * 3) (by omega)
  obtain ⟨v1, e1⟩ := h.cells (k * 3 + 1) (by omega)
  obtain ⟨v2, e2⟩ := h.cells (k * 3 + 2) (by omega)
  exact ⟨(h.made.below hb').c2, ⟨v0, v1, v2, cell_below hb' e0, cell_below hb' e1, cell_below hb' e2⟩, fun j => by rw [hb'.frozen (p := ⟨g, j, none⟩) hgl]; exact h.fr j⟩

set_option maxRecDepth 100000 in
set_option maxHeartbeats 2000000 in
theorem applyP_any (ar : List Int) (q : Nat → Prop) (bs : List (Int × T)) (b n : Nat) (f : Int → Option Value) (hpos : ∀ v, v ≤ 0 → lookB bs v = none) (hus : ∀ v u, (v, u) ∈ bs → u.sz ≤ 1000) (N : Nat) : ∀ (t : T) (a : Option Addr) (cap : Nat) (w : World), t.sz < N → t.sz ≤ 1000 → MapAt w b n f → BMap q w bs f → okP ar t → InL w t.args a →
    Calls Try.prog 69 #[.map (some b), .agg #[.int .i64 t.v, .int .i64 t.f, .slice a t.args.length cap]] w fun e w' =>
      ∃ a' cap', e = .returned (.agg #[.int .i64 (applyT bs t).v, .int .i64 (applyT bs t).f, .slice a' (applyT bs t).args.length cap']) ∧ InP (fun k => w.heap.size ≤ k) w' (applyT bs t).args a' ∧ Below w.heap.size w w' := by
  induction N with
  | zero => intro t a cap w hN; omega
  | succ N ih =>
    intro t a cap w hN ht hM hB hok hin
    have Hih := hide ih
    have hv0 := okP_v hok
    have hv1 : t.v ≤ 1000 := by
      have h1 := (okP_iff.1 hok).1
      rw [partErr] at h1
      by_cases hv : t.v = 0
      · omega
      · rw [if_pos hv] at h1
        by_cases h2 : t.v < 1 ∨ 1000 < t.v
        · rw [if_pos h2] at h1; cases h1
        · omega
    have hte := T.sz_eq t
    have hlook := fun o1 o2 => (hM.below (below2 w o1 o2)).look_ok (t := 92) Try.underlying92 (Try.zero27 _) (k := t.v) (by omega) (by omega)
    have HM := hide hM
    have HB := hide hB
    have Hok := hide hok
    clear ih hM hB hok
    cases hlk : lookB bs t.v with
    | some u =>
      have hp : putIn bs t.v = some u := by
        rw [putIn, if_pos ?_, hlk]
        rcases Int.lt_or_le 0 t.v with h | h
        · exact h
        · rw [hpos _ h] at hlk; cases hlk
      obtain ⟨a1, cap1, hf, hin1⟩ := (HB.out t.v).2 u hlk
      rw [applyT_some hp]
      rw [hf] at hlook
      have husz := hus _ _ (lookB_mem hlk)
      have Hin1 := hide (InP_imp (q := fun _ => True) (fun _ _ => trivial) hin1)
      clear hlk hp hf hin1
      go_enter Try.func69, Try.ntmps69
      go_wp2_with fail
      refine (copyOf_any (u.sz + 1) u a1 cap1 _ (by omega) husz (InP_below (w := w) (below3 _ _ _ _) Hin1.out)).mono ?_
      rintro e w3 ⟨s, Bc, rfl, hown, _, hrg, hb3⟩
      obtain ⟨a2, cap2, rfl, hin2⟩ := In_iff.1 (Own_inP hown)
      have hz3 := hb3.size
      simp at hz3
      have HR : Hid (Three w3 (w.heap.size + 1) (.int .i64 0) (.int .i64 0) (.slice none 0 0)) := Three.below ((Three.new 27 (by simp)).alloc _) hb3
      obtain ⟨m0, m1, m2, n0, n1, n2⟩ := HR.out
      have Hin2 : Hid (InP (fun k => w.heap.size ≤ k ∧ k ≠ w.heap.size + 1) w3 u.args a2) := InP_imp (fun k hk => by have := (hrg k hk).1; simp at this; omega) hin2
      have Hb3 : Hid (Below w.heap.size w w3) := (below3 _ _ _ _).trans (hb3.mono (by simp; omega))
      clear hown hrg hb3 hin2
      go_wp2_with fail
      obtain ⟨z0, z1, z2, _, _, _⟩ := HR.out.set (.int .i64 u.v) (.int .i64 u.f) (.slice a2 u.args.length cap2)
      simp only [set3, Nat.zero_add] at z0 z1 z2
      exact bodyPost_ret (v := .agg #[.int .i64 u.v, .int .i64 u.f, .slice a2 u.args.length cap2]) (by simp [results, Try.results69, go_sem, z0, z1, z2]) rfl ⟨a2, cap2, rfl, InP_imp (fun k hk => hk.1) (InP_same (fun k hk _ => set3_block (b := w.heap.size + 1) (off := 0) hk.2) Hin2.out), below_set3 (b := w.heap.size + 1) (off := 0) Hb3.out (by omega) _ _ _⟩
    | none =>
      have hp : putIn bs t.v = none := by
        rw [putIn, hlk]; split <;> rfl
      have hf := (HB.out t.v).1 hlk
      rw [applyT_none hp]
      rw [hf] at hlook
      obtain ⟨L, hL⟩ : ∃ L, L = t.args.map (applyT bs) := ⟨_, rfl⟩
      have hLl : L.length = t.args.length := by rw [hL]; simp
      have HLk := hide (show ∀ (k : Nat) (x : T), t.args[k]? = some x → L[k]? = some (applyT bs x) from fun k x hx => by rw [hL]; simp [hx])
      rw [← hL]
      show Calls _ _ _ _ fun e w' => ∃ a' cap', e = .returned (.agg #[.int .i64 t.v, .int .i64 t.f, .slice a' L.length cap']) ∧ InP (fun k => w.heap.size ≤ k) w' L a' ∧ Below w.heap.size w w'
      have htl : t.args.length ≤ 1000 := by have := T.length_le t.args; omega
      have Hin := hide hin
      have hmk := run_make3 t.args.length (by omega)
      clear hlk hp hf hL hin
      obtain ⟨W3, hW3⟩ : ∃ W3, W3 = (((w.alloc (.cells #[.int .i64 t.v, .int .i64 t.f, .slice a t.args.length cap] 27)).alloc (.cells #[.int .i64 0, .int .i64 0, .slice none 0 0] 27)).alloc (.cells #[.int .i64 0, .int .i64 0, .slice none 0 0] 27)) := ⟨_, rfl⟩
      have hT3 : Hid (Three W3 w.heap.size (.int .i64 t.v) (.int .i64 t.f) (.slice a t.args.length cap)) := by rw [hW3]; exact ((Three.new 27 rfl).alloc _).alloc _
      have hR3 : Hid (Three W3 (w.heap.size + 1) (.int .i64 0) (.int .i64 0) (.slice none 0 0)) := by rw [hW3]; exact (Three.new 27 (by simp)).alloc _
      have hWb : Hid (Below w.heap.size w W3) := by rw [hW3]; exact below3 _ _ _ _
      have hzW : W3.heap.size = w.heap.size + 3 := by rw [hW3]; simp
      have HW3 := hide hW3
      clear hW3
      go_enter Try.func69, Try.ntmps69
      go_upto_region 4 with fail
      rw [← HW3.out]
      obtain ⟨t0, t1, t2, _, _, _⟩ := hT3.out
      go_cut [7] (fun v7 wc => ∃ g b7, v7 = .pointer (some ⟨b7, 0, none⟩) ∧ Mk w wc t.v t.f t.args.length L 0 g b7 ∧ Hid (Below W3.heap.size W3 wc))
      case first =>
        go_region
        all_goals (go_wp2_with fail; go_meet)
        · refine ⟨w.heap.size + 3, w.heap.size + 3 + 1, rfl, Mk.start ?_ ?_ ?_ ?_ (by omega) (by omega) (by omega), ?_⟩
          · rw [← hzW]; exact (Below.heap_alloc (W3.alloc _) _ _ (by simp)).trans (heap_alloc_new W3 _)
          · exact Three.same (Three.new 27 (by rw [World.size_alloc, hzW])) rfl
          · exact Three.same ((hR3.out.alloc _).alloc _) rfl
          · exact Below.drew (hWb.out.trans ((below2 _ _ _).mono (by omega)))
          · exact Below.drew (below2 _ _ _)
        · refine ⟨w.heap.size + 3 + 1, w.heap.size + 3, rfl, Mk.start ?_ ?_ ?_ ?_ (by omega) (by omega) (by omega), ?_⟩
          · have h9 := heap_alloc_new (W3.alloc (.cells #[.int .i64 t.v, .int .i64 t.f, .slice (some ⟨w.heap.size + 3 + 1, 0, none⟩) t.args.length t.args.length] 27)) (.cells (row3 t.args.length) 27)
            rw [World.size_alloc, hzW] at h9
            exact h9
          · exact Three.same ((Three.new 27 hzW.symm).alloc _) rfl
          · exact Three.same ((hR3.out.alloc _).alloc _) rfl
          · exact Below.drew (hWb.out.trans ((below2 _ _ _).mono (by omega)))
          · exact Below.drew (below2 _ _ _)
      case rest =>
        obtain ⟨g, b7, rfl, hmk0, HBc⟩ := hcut
        have Hmk0 := hide hmk0
        obtain ⟨t0, t1, t2, _, _, _⟩ := hT3.out.below HBc.out
        clear hmk0 hmk hT3 hR3 hWb HW3 hzW
        go_wp2_with fail
        go_loopw [32] (fun i wr => ∃ (k : Nat), k ≤ t.args.length ∧ i = .int .i64 k ∧ Mk w wr t.v t.f t.args.length L k g b7) (fun i _ => t.args.length - (intOf i).toNat)
        case atStart => exact ⟨0, Nat.zero_le _, rfl, Hmk0.out⟩
        case round =>
          obtain ⟨k, hk, rfl, hmk⟩ := hrel
          have Hmk := hide hmk
          have Hinr := hide (InP_below hmk.below Hin.out)
          obtain ⟨d0, d1, d2, g0, g1, g2⟩ := hmk.res
          obtain ⟨p0, p1, p2, _, _, _⟩ := hmk.made
          have hgl := hmk.gl
          have hbl := hmk.made.lt
          have hgg := hmk.gg
          clear hmk
          by_cases hlt : k < t.args.length
          · obtain ⟨b', off, rfl⟩ := InP_some Hinr.out (by omega)
            obtain ⟨c, hc⟩ : ∃ c, t.args[k]? = some c := ⟨t.args[k], List.getElem?_eq_getElem hlt⟩
            obtain ⟨a1, cap1, _, k0, k1, k2, hin1⟩ := InP_at Hinr.out hc
            have hcsz : c.sz < N ∧ c.sz ≤ 1000 := by
              have := T.szL_mem (List.mem_of_getElem? hc)
              omega
            have HLc := hide (HLk.out k c hc)
            have Hco := hide (okArg Hok.out (List.mem_of_getElem? hc))
            have Hcall := hide (Hmk.out.behind hlt)
            have Hbw := hide Hmk.out.below
            have Hin1 := hide hin1
            clear hc hin1
            have HMr := hide (HM.out.below Hbw.out)
            have HBr := hide (HB.out.mono (fun j _ hj => Hbw.out.block j hj))
            have HMo := hide (fun o => (HMr.out.below (below1 wr o)).same (w' := (wr.alloc o).drew) rfl)
            have HBo := hide (fun o => HBr.out.mono (w' := (wr.alloc o).drew) (fun j _ hj => (below1 wr o).block j hj))
            have HIo := hide (fun o => InP_heap (w := wr.alloc o) (w' := (wr.alloc o).drew) rfl (InP_alloc o Hin1.out))
            have hz1 : w.heap.size + 1 < wr.heap.size := by omega
            go_wp2_with fail
            go_region_with (go_at_call 69; refine (Hih.out c a1 cap1 _ hcsz.1 hcsz.2 (HMo.out _) (HBo.out _) Hco.out (HIo.out _)).mono ?_; rintro e w2 ⟨a2, cap2, rfl, hin2, hb1⟩; have hb2 := below_undrew hb1; clear hb1; obtain ⟨q2, ⟨v0, v1, v2, e0, e1, e2⟩, qf⟩ := Hcall.out _ w2 hb2; have q0 := qf (k * 3); have q1 := qf (k * 3 + 1); have q3 := qf (k * 3 + 2); clear qf)
            all_goals
              go_wp2_with fail
              go_roundw
              case rel => exact ⟨k + 1, by omega, by go_num, Hmk.out.step hLl HLc.out hb2 hin2⟩
              case measure => simp [intOf]; omega
          · have hk2 : k = t.args.length := by omega
            subst hk2
            have HF := hide (Hmk.out.fin hLl)
            have Hres := hide (Hmk.out.res.set (.int .i64 t.v) (.int .i64 t.f) (.slice (some ⟨g, 0, none⟩) t.args.length t.args.length))
            have Hbw := hide Hmk.out.below
            go_wp2_with fail
            obtain ⟨z0, z1, z2, _, _, _⟩ := Hres.out
            simp only [set3, Nat.zero_add] at z0 z1 z2
            exact bodyPost_ret (v := .agg #[.int .i64 t.v, .int .i64 t.f, .slice (some ⟨g, 0, none⟩) t.args.length t.args.length]) (by simp [results, Try.results69, go_sem, z0, z1, z2]) rfl ⟨some ⟨g, 0, none⟩, t.args.length, by rw [hLl], InP_imp (fun j hj => by omega) (InP_same (fun j hj _ => set3_block (b := w.heap.size + 1) (off := 0) (show j ≠ _ by omega)) HF.out), below_set3 (b := w.heap.size + 1) (off := 0) Hbw.out (by omega) _ _ _⟩

end Go.Proofs.Ytppeedpmofimhaa

namespace Go.Proofs.Ytppeedpmofimhaa
open Go.RowKit

theorem all_one {ar : List Int} (h : sigErr ar = 0) (t : T) : allErr ar [t] = termErr ar t := by
  rw [allErr, if_pos h, termsErr]
  by_cases h1 : termErr ar t = 0
  · rw [if_pos h1, h1]; rfl
  · rw [if_neg h1]

set_option maxRecDepth 100000 in
set_option maxHeartbeats 1000000 in
theorem checkBindings_any (ar : List Int) (ga : Option Addr) (gcap : Nat) (bs : List (Int × T)) (a : Option Addr) (cap : Nat) (w : World) (p : Nat → Prop) (hl : bs.length ≤ 9223372036854775807) (hg : Ints w ar ga) (hin : Binds p w bs a) :
    Calls Try.prog 67 #[.agg #[.slice ga ar.length gcap], .slice a bs.length cap] w fun e w' => e = .returned (.int .i64 (bindsErr ar bs)) ∧ Below w.heap.size w w' := by
  go_enter Try.func67, Try.ntmps67
  go_wp2_with fail
  refine (signature_any ar ga gcap _ (Ints_alloc _ hg)).mono ?_
  rintro e w1 ⟨rfl, hb1⟩
  have hz1 : w.heap.size < w1.heap.size := by have := hb1.size; simp at this; omega
  have hbw : Below w.heap.size w w1 := (below1 _ _).trans (hb1.mono (by simp))
  have cg : w1.cell? ⟨w.heap.size, 0, none⟩ = some (.slice ga ar.length gcap) := by
    rw [hb1.cell (p := ⟨w.heap.size, 0, none⟩) (by simp), cell_new _ rfl]; rfl
  clear hb1
  by_cases hs : sigErr ar = 0
  · have hfin : bindsErr ar bs = bindErr ar 0 bs := by rw [bindsErr, if_pos hs]
    have Hfin := hide hfin
    have Hone := hide (all_one hs)
    rw [hs]
    clear hfin hs
    go_wp2_with fail
    go_loopw [6, 17] (fun l i wr => ∃ (k : Nat), k ≤ bs.length ∧ i = .int .i64 k ∧ l = .int .i64 (lastB bs k) ∧ Hid (bindErr ar 0 bs = bindErr ar (lastB bs k) (bs.drop k)) ∧ Below w1.heap.size w1 wr) (fun _ i _ => bs.length - (intOf i).toNat)
    case atStart => exact ⟨0, Nat.zero_le _, rfl, rfl, rfl, Below.refl _ _⟩
    case round =>
      obtain ⟨k, hk, rfl, rfl, HL, hb⟩ := hrel
      have hzr := hb.size
      have hbR : Below w.heap.size w wr := hbw.trans (hb.mono (by omega))
      by_cases hlt : k < bs.length
      · have hin' := Binds_below hb (Binds_below hbw hin)
        have Hg' := hide (Ints_below hb (Ints_below hbw hg))
        obtain ⟨b, off, rfl⟩ := Binds_some hin (by omega)
        obtain ⟨x, hx⟩ : ∃ x, bs[k]? = some x := ⟨bs[k], List.getElem?_eq_getElem hlt⟩
        obtain ⟨a1, cap1, _, c0, c1, c2, c3, hin1⟩ := Binds_at hin' hx
        have Hst := hide (HL.out.trans (bindErr_step hx))
        have Hls := hide (lastB_succ hx)
        have cg' : wr.cell? ⟨w.heap.size, 0, none⟩ = some (.slice ga ar.length gcap) := cell_below hb cg
        have hgw : w.heap.size < wr.heap.size := by omega
        have hkI : (k : Int) < bs.length := by omega
        have hk0 : (0 : Int) ≤ k := by omega
        have HC := hide (fun o => Check_any ar ga gcap x.2 a1 cap1 (wr.alloc o) (Ints_alloc o Hg'.out) (InP_alloc o (InP_imp (q := fun _ => True) (fun _ _ => trivial) hin1)))
        have HbA := hide (fun o => hbR.alloc (show w.heap.size ≤ wr.heap.size by omega) o)
        have HbB := hide (fun o => hb.alloc hzr o)
        have hbb := lt_of_cell c0
        clear hx HL hin hin' hin1
        by_cases h1 : x.1 < 1
        · rw [if_pos (Or.inl h1)] at Hst
          go_wp2_with fail
          go_ret
          exact ⟨ret_int (by rw [Hfin.out, Hst.out]), HbA.out _⟩
        · by_cases h2 : 1000 < x.1
          · rw [if_pos (Or.inr h2)] at Hst
            go_wp2_with fail
            go_ret
            exact ⟨ret_int (by rw [Hfin.out, Hst.out]), HbA.out _⟩
          · rw [if_neg (by omega)] at Hst
            by_cases h3 : x.1 ≤ lastB bs k
            · rw [if_pos h3] at Hst
              go_wp2_with fail
              go_ret
              exact ⟨ret_int (by rw [Hfin.out, Hst.out]), HbA.out _⟩
            · rw [if_neg h3] at Hst
              go_wp2_with fail
              refine (HC.out _).mono ?_
              rintro e w2 ⟨rfl, hb2⟩
              rw [Hone.out]
              have hz2 := hb2.size
              rw [World.size_alloc] at hz2
              have Hb2 := hide ((HbB.out _).trans (hb2.mono (by rw [World.size_alloc]; omega)))
              have Hb3 := hide ((HbA.out _).trans (hb2.mono (by rw [World.size_alloc]; omega)))
              have d0 : w2.cell? ⟨wr.heap.size, 0, none⟩ = some (.int .i64 x.1) := cell_below hb2 (by rw [cell_new 0 rfl]; rfl)
              clear HC HbA HbB hb2
              by_cases h4 : termErr ar x.2 = 0
              · rw [if_pos h4] at Hst
                rw [h4]
                clear h4
                go_wp2_with fail
                go_roundw
                case rel => exact ⟨k + 1, by omega, by go_num, by rw [Hls.out], by rw [Hls.out]; exact Hst.out, Hb2.out⟩
                case measure => simp [intOf]; omega
              · rw [if_neg h4] at Hst
                have h4' : (termErr ar x.2 != 0) = true := by simpa using h4
                clear h4
                go_wp2_with fail
                go_ret
                exact ⟨ret_int (by rw [Hfin.out, Hst.out]), Hb3.out⟩
      · have hk2 : k = bs.length := by omega
        subst hk2
        have Hek : Hid (bindErr ar 0 bs = 0) := by show _ = _; rw [HL.out, List.drop_length]; rfl
        clear HL
        go_wp2_with fail
        go_ret
        exact ⟨ret_int (by rw [Hfin.out, Hek.out]), hbR⟩
  · have hfin : bindsErr ar bs = sigErr ar := by rw [bindsErr, if_neg hs]
    have Hfin := hide hfin
    have hs1 : (sigErr ar != 0) = true := by simpa using hs
    clear hfin hs
    generalize sigErr ar = sg at *
    go_wp2_with fail
    go_ret
    exact ⟨ret_int Hfin.out.symm, hbw⟩

end Go.Proofs.Ytppeedpmofimhaa

namespace Go.Proofs.Ytppeedpmofimhaa
open Go.RowKit Go.Maps

/-- Bindings that are right rise. -/
theorem bindErr_rise {ar : List Int} : ∀ {bs : List (Int × T)} {last : Int}, bindErr ar last bs = 0 → bs.Pairwise (fun x y => x.1 < y.1) ∧ (∀ x, x ∈ bs → last < x.1) ∧ (0 ≤ last → last ≤ 1000 → last + bs.length ≤ 1000) := by
  intro bs
  induction bs with
  | nil => intro last _; exact ⟨List.Pairwise.nil, fun x h => (by cases h), fun _ h => by simpa using h⟩
  | cons x bs ih =>
    intro last h
    rw [bindErr] at h
    by_cases h1 : x.1 < 1 ∨ 1000 < x.1
    · rw [if_pos h1] at h; cases h
    · rw [if_neg h1] at h
      by_cases h2 : x.1 ≤ last
      · rw [if_pos h2] at h; cases h
      · rw [if_neg h2] at h
        by_cases h3 : termErr ar x.2 = 0
        · rw [if_pos h3] at h
          obtain ⟨g1, g2, g3⟩ := ih h
          refine ⟨List.Pairwise.cons g2 g1, fun y hy => ?_, fun _ _ => ?_⟩
          · rcases List.mem_cons.1 hy with rfl | hy
            · omega
            · have := g2 y hy; omega
          · have := g3 (by omega) (by omega)
            rw [List.length_cons]; omega
        · rw [if_neg h3] at h; exact absurd h h3
theorem once_of_rise {bs : List (Int × T)} (h : bs.Pairwise (fun x y => x.1 < y.1)) : Once bs := by
  intro i j x y hx hy e
  rw [List.pairwise_iff_getElem] at h
  obtain ⟨hi, rfl⟩ := List.getElem?_eq_some_iff.1 hx
  obtain ⟨hj, rfl⟩ := List.getElem?_eq_some_iff.1 hy
  rcases Nat.lt_trichotomy i j with h1 | h1 | h1
  · have := h i j hi hj h1; omega
  · exact h1
  · have := h j i hj hi h1; omega

/-- What Apply answers. -/
def applySpec (ar : List Int) (bs : List (Int × T)) (t : T) : T × Int :=
  if bindsErr ar bs = 0 then (if termErr ar t = 0 then (if 120 < (applyT bs t).sz then (zeroT, 2) else (applyT bs t, 0)) else (zeroT, termErr ar t)) else (zeroT, bindsErr ar bs)

theorem bindsErr_sig {ar : List Int} {bs : List (Int × T)} (h : bindsErr ar bs = 0) : sigErr ar = 0 ∧ bindErr ar 0 bs = 0 := by
  rw [bindsErr] at h
  by_cases h1 : sigErr ar = 0
  · rw [if_pos h1] at h; exact ⟨h1, h⟩
  · rw [if_neg h1] at h; exact absurd h h1
theorem termErr_apply {ar : List Int} {bs : List (Int × T)} {t : T} (hb : bindErr ar 0 bs = 0) (ht : okP ar t) : termErr ar (applyT bs t) = if 120 < (applyT bs t).sz then 2 else 0 := by
  have ho := okP_apply (fun v u h => (bindErr_ok hb v u h).2.2.2) ht
  by_cases h : 120 < (applyT bs t).sz
  · rw [if_pos h, termErr, if_pos h]
  · rw [if_neg h]; exact termErr_iff.2 ⟨by omega, ho⟩

attribute [local go_sem ↓] Go.wp_at_zero Go.wp_at_succ
set_option maxRecDepth 100000 in
set_option maxHeartbeats 2000000 in
theorem Apply_any (ar : List Int) (ga : Option Addr) (gcap : Nat) (bs : List (Int × T)) (ba : Option Addr) (bc : Nat) (t : T) (a : Option Addr) (cap : Nat) (w : World) (hg : Ints w ar ga) (hl : bs.length ≤ 9223372036854775807) (hbs : Binds (fun _ => True) w bs ba) (hin : InL w t.args a) :
    Calls Try.prog 29 #[.agg #[.slice ga ar.length gcap], .slice ba bs.length bc, .agg #[.int .i64 t.v, .int .i64 t.f, .slice a t.args.length cap]] w fun e w' => Gives (applySpec ar bs t) e w' ∧ Below w.heap.size w w' := by
  obtain ⟨W3, hW3⟩ : ∃ W3, W3 = (((w.alloc (.cells #[.slice ga ar.length gcap] 24)).alloc (.cells #[.int .i64 t.v, .int .i64 t.f, .slice a t.args.length cap] 27)).alloc (.cells #[.int .i64 0, .int .i64 0, .slice none 0 0] 27)) := ⟨_, rfl⟩
  have hT3 : Hid (Three W3 (w.heap.size + 1) (.int .i64 t.v) (.int .i64 t.f) (.slice a t.args.length cap)) := by rw [hW3]; exact (Three.new 27 (by simp)).alloc _
  have hR3 : Hid (Three W3 (w.heap.size + 1 + 1) (.int .i64 0) (.int .i64 0) (.slice none 0 0)) := by rw [hW3]; exact Three.new 27 (by simp)
  have hG3 : Hid (W3.cell? ⟨w.heap.size, 0, none⟩ = some (.slice ga ar.length gcap)) := by
    show _ = _
    rw [hW3, cell_alloc_lt (by simp; omega), cell_alloc_lt (by simp), cell_new _ rfl]; rfl
  have hWb : Hid (Below w.heap.size w W3) := by rw [hW3]; exact below3 _ _ _ _
  have hz3 : w.heap.size + 3 ≤ W3.heap.size := by rw [hW3]; simp
  have HW3 := hide hW3
  have Hg := hide hg
  have Hbs := hide hbs
  have Hin := hide hin
  clear hW3 hg hbs hin
  go_enter Try.func29, Try.ntmps29
  go_wp2_with fail
  rw [← HW3.out]
  refine (checkBindings_any ar ga gcap bs ba bc _ _ hl (Ints_below hWb.out Hg.out) (Binds_below hWb.out Hbs.out)).mono ?_
  rintro e w1 ⟨rfl, hb1⟩
  have Hb1 := hide (hWb.out.trans (hb1.mono (by omega)))
  have hz1 := hb1.size
  obtain ⟨d0, d1, d2, f0, f1, f2⟩ := hR3.out.below hb1
  obtain ⟨c0, c1, c2, _, _, _⟩ := hT3.out.below hb1
  have cg := cell_below hb1 hG3.out
  have HR1 := hide (hR3.out.below hb1)
  have hz1' : w.heap.size + 1 + 1 < w1.heap.size := by omega
  clear hb1 hR3 hT3 hG3 hWb HW3
  by_cases hs : bindsErr ar bs = 0
  · obtain ⟨hsg, hbe⟩ := bindsErr_sig hs
    have Hspec : Hid (applySpec ar bs t = if termErr ar t = 0 then (if 120 < (applyT bs t).sz then (zeroT, 2) else (applyT bs t, 0)) else (zeroT, termErr ar t)) := by show _ = _; rw [applySpec, if_pos hs]
    have Hbe := hide hbe
    have Hone := hide (all_one hsg)
    rw [hs]
    clear hs hbe hsg
    go_wp2_with fail
    refine (Check_any ar ga gcap t a cap _ (Ints_below Hb1.out Hg.out) (InP_below Hb1.out Hin.out)).mono ?_
    rintro e w2 ⟨rfl, hb2⟩
    rw [Hone.out]
    have Hb2 := hide (Hb1.out.trans (hb2.mono (by omega)))
    have hz2 := hb2.size
    have HR2 := hide (HR1.out.below hb2)
    have cg2 := cell_below hb2 cg
    have c02 := cell_below hb2 c0
    have c12 := cell_below hb2 c1
    have c22 := cell_below hb2 c2
    have hz2' : w.heap.size + 1 + 1 < w2.heap.size := by omega
    clear hb2 d0 d1 d2 f0 f1 f2 c0 c1 c2 cg HR1
    by_cases ht : termErr ar t = 0
    · have Hspec2 : Hid (applySpec ar bs t = if 120 < (applyT bs t).sz then (zeroT, 2) else (applyT bs t, 0)) := by show _ = _; rw [Hspec.out, if_pos ht]
      have Hok := hide (termErr_iff.1 ht)
      rw [ht]
      clear ht Hspec
      go_upto_region 7 with fail
      go_cut [10] (fun v10 wc => ∃ b10 a1 cap1, v10 = .pointer (some ⟨b10, 0, none⟩) ∧ Three wc b10 (.int .i64 (applyT bs t).v) (.int .i64 (applyT bs t).f) (.slice a1 (applyT bs t).args.length cap1) ∧ InP (fun k => w2.heap.size ≤ k) wc (applyT bs t).args a1 ∧ Hid (Below w2.heap.size w2 wc))
      case first =>
        obtain ⟨hrise, _, hlen⟩ := bindErr_rise Hbe.out
        have Honce := hide (once_of_rise hrise)
        have hlen' : bs.length ≤ 1000 := by have := hlen (by omega) (by omega); omega
        have Hran := hide (show ∀ x, x ∈ bs → 1 ≤ x.1 ∧ x.1 ≤ 1000 from fun x hx => ⟨(bindErr_ok Hbe.out x.1 x.2 hx).1, (bindErr_ok Hbe.out x.1 x.2 hx).2.1⟩)
        have Hpos := hide (show ∀ v : Int, v ≤ 0 → lookB bs v = none from fun v hv => lookB_none (fun x hx e => by have := Hran.out x hx; omega))
        have Hus := hide (show ∀ v u, (v, u) ∈ bs → u.sz ≤ 1000 from fun v u h => by have := (bindErr_ok Hbe.out v u h).2.2.1; omega)
        have HbsQ := hide (fun (w' : World) (hb : Below w2.heap.size w2 w') => Binds_imp (q := fun k => k < w2.heap.size) (fun k hk => hk.2) (Binds_mono (p := fun k => True ∧ k < w2.heap.size) (q := fun k => True ∧ k < w2.heap.size) (fun _ _ _ hp hv => ⟨hp, cell_below hb hv⟩) (Binds_lt (Binds_below Hb2.out Hbs.out))))
        have HinQ := hide (fun (w' : World) (hb : Below w2.heap.size w2 w') => InP_below hb (InP_below Hb2.out Hin.out))
        have hS := hide (fun (w' : World) (hb : Below w2.heap.size w2 w') => (show w'.cell? ⟨w.heap.size + 1, 0, none⟩ = some (.int .i64 t.v) ∧ w'.cell? ⟨w.heap.size + 1, 1, none⟩ = some (.int .i64 t.f) ∧ w'.cell? ⟨w.heap.size + 1, 2, none⟩ = some (.slice a t.args.length cap) from ⟨cell_below hb c02, cell_below hb c12, cell_below hb c22⟩))
        have ht120 := Hok.out.1
        clear hrise hlen Hbe Hbs Hin Hg Hone cg2 HR2 Hb2 Hb1 Hspec2
        go_region_held3 (fun w' => w'.cell? ⟨w.heap.size + 1, 0, none⟩ = some (.int .i64 t.v) ∧ w'.cell? ⟨w.heap.size + 1, 1, none⟩ = some (.int .i64 t.f) ∧ w'.cell? ⟨w.heap.size + 1, 2, none⟩ = some (.slice a t.args.length cap)) ((first | (refine hS.out _ ?_; (repeat' (first | with_reducible exact Hid.out ‹Hid (Below _ _ _)› | with_reducible exact Below.refl _ _ | (with_reducible refine Below.drew ?_) | (refine Below.alloc ?_ ?_ _; rotate_left; focus (first | omega | (simp; omega) | (simp; done))) | (with_reducible refine Below.setCell ?_ ?_ _; rotate_left; focus (first | exact Nat.le_refl _ | exact hsxA | (show w2.heap.size ≤ _; omega) | (simp; omega))))); done) | go_keep)) ((first
          | (go_at_call 68
             with_reducible refine (boundBy_any bs ba bc _ (fun k => k < w2.heap.size) ?_ hlen' Honce.out Hran.out ?_).mono ?_
             · intro k hk
               first | exact hk | (simp; omega)
             · exact HbsQ.out _ (by (repeat' (first | with_reducible exact Hid.out ‹Hid (Below _ _ _)› | with_reducible exact Below.refl _ _ | (with_reducible refine Below.drew ?_) | (refine Below.alloc ?_ ?_ _; rotate_left; focus (first | omega | (simp; omega) | (simp; done))))))
             rintro e xA ⟨bA, fA, rfl, hbA0, hMA, hBA, hbA⟩
             have HxA : Hid (Below w2.heap.size w2 xA) := by
               refine Below.trans (b := _) ?_ (hbA.mono ?_)
               · (repeat' (first | with_reducible exact Hid.out ‹Hid (Below _ _ _)› | with_reducible exact Below.refl _ _ | (with_reducible refine Below.drew ?_) | (refine Below.alloc ?_ ?_ _; rotate_left; focus (first | omega | (simp; omega) | (simp; done)))))
               · first | omega | (simp; omega) | (simp; done)
             have hsxA := HxA.out.size
             have hslA := hbA.size
             try (simp at hslA)
             have HMA := hide (fun (w' : World) (hb : Below xA.heap.size xA w') => hMA.below hb)
             have HBA := hide (fun (w' : World) (hb : Below xA.heap.size xA w') => hBA.mono (fun j _ hj => hb.block j hj))
             try (have H3A : Hid (Three xA w2.heap.size (.int .i64 0) (.int .i64 0) (.slice none 0 0)) := Three.below (by first | exact Three.new 27 rfl | exact Three.same (Three.new 27 rfl) rfl) hbA)
             clear hMA hBA)
          | (go_at_call 69
             with_reducible refine (applyP_any ar (fun k => k < w2.heap.size) bs bA bs.length fA Hpos.out Hus.out (t.sz + 1) t a cap _ (by omega) (by omega) ?_ ?_ Hok.out.2 ?_).mono ?_
             · exact HMA.out _ (by (repeat' (first | with_reducible exact Hid.out ‹Hid (Below _ _ _)› | with_reducible exact Below.refl _ _ | (with_reducible refine Below.drew ?_) | (refine Below.alloc ?_ ?_ _; rotate_left; focus (first | omega | (simp; omega) | (simp; done))))))
             · exact HBA.out _ (by (repeat' (first | with_reducible exact Hid.out ‹Hid (Below _ _ _)› | with_reducible exact Below.refl _ _ | (with_reducible refine Below.drew ?_) | (refine Below.alloc ?_ ?_ _; rotate_left; focus (first | omega | (simp; omega) | (simp; done))))))
             · exact HinQ.out _ (by (repeat' (first | with_reducible exact Hid.out ‹Hid (Below _ _ _)› | with_reducible exact Below.refl _ _ | (with_reducible refine Below.drew ?_) | (refine Below.alloc ?_ ?_ _; rotate_left; focus (first | omega | (simp; omega) | (simp; done))))))
             rintro e xB ⟨aB, capB, rfl, hinB, hbB⟩
             have HxB : Hid (Below w2.heap.size w2 xB) := by
               refine Below.trans (b := _) ?_ (hbB.mono ?_)
               · (repeat' (first | with_reducible exact Hid.out ‹Hid (Below _ _ _)› | with_reducible exact Below.refl _ _ | (with_reducible refine Below.drew ?_) | (refine Below.alloc ?_ ?_ _; rotate_left; focus (first | omega | (simp; omega) | (simp; done)))))
               · first | omega | (simp; omega) | (simp; done)
             have hsxB := HxB.out.size
             have hslB := hbB.size
             try (simp at hslB)
             have HinB := hide hinB
             try (have H3B : Hid (Three xB xA.heap.size (.int .i64 0) (.int .i64 0) (.slice none 0 0)) := Three.below (by first | exact Three.new 27 rfl | exact Three.same (Three.new 27 rfl) rfl) hbB; obtain ⟨y0, y1, y2, y3, y4, y5⟩ := H3B.out)
             try (have H3C : Hid (Three xB w2.heap.size (.int .i64 0) (.int .i64 0) (.slice none 0 0)) := Three.below (by first | exact H3A.out | exact Three.same H3A.out rfl) hbB; obtain ⟨x0, x1, x2, x3, x4, x5⟩ := H3C.out)
             clear hinB)))
        all_goals (go_wp2_with fail; go_meet)
        · refine ⟨xB.heap.size, aB, capB, rfl, Three.new 27 rfl, InP_alloc _ (InP_imp (fun k hk => ?_) HinB.out), HxB.out.alloc hsxB _⟩
          have hk : xA.heap.size ≤ k := hk
          omega
        · refine ⟨xA.heap.size, aB, capB, rfl, ?_, InP_imp (p := fun k => xA.heap.size + 1 ≤ k) (fun k hk => by omega) (InP_same (fun k hk _ => set3_block (b := xA.heap.size) (off := 0) (show k ≠ _ by omega)) (InP_imp (fun k hk => ?_) HinB.out)), below_set3 (b := xA.heap.size) (off := 0) HxB.out hsxA _ _ _⟩
          · have h9 := H3B.out.set (.int .i64 (applyT bs t).v) (.int .i64 (applyT bs t).f) (.slice aB (applyT bs t).args.length capB)
            exact h9
          · simpa using hk
        · refine ⟨w2.heap.size, aB, capB, rfl, ?_, InP_imp (p := fun k => w2.heap.size + 1 ≤ k) (fun k hk => by omega) (InP_same (fun k hk _ => set3_block (b := w2.heap.size) (off := 0) (show k ≠ _ by omega)) (InP_imp (fun k hk => ?_) HinB.out)), below_set3 (b := w2.heap.size) (off := 0) HxB.out (Nat.le_refl _) _ _ _⟩
          · have h9 := H3C.out.set (.int .i64 (applyT bs t).v) (.int .i64 (applyT bs t).f) (.slice aB (applyT bs t).args.length capB)
            exact h9
          · have hk : xA.heap.size ≤ k := hk
            omega
      case rest =>
        obtain ⟨b10, a1, cap1, rfl, h10, hinc, HBc⟩ := hcut
        have hzc := HBc.out.size
        have cgc := cell_below HBc.out cg2
        obtain ⟨p0, p1, p2, _, _, _⟩ := h10
        have Hinc := hide hinc
        have hzc' : w.heap.size + 1 + 1 < wc.heap.size := by omega
        have HRc := hide (HR2.out.below HBc.out)
        have Hbc := hide (Hb2.out.trans (HBc.out.mono (by omega)))
        clear hinc cg2 c02 c12 c22
        go_wp2_with fail
        refine (Check_any ar ga gcap (applyT bs t) a1 cap1 _ (Ints_below Hbc.out Hg.out) (InP_imp (q := fun _ => True) (fun _ _ => trivial) Hinc.out)).mono ?_
        rintro e w4 ⟨rfl, hb4⟩
        rw [Hone.out, termErr_apply Hbe.out Hok.out.2]
        have Hb4 := hide (Hbc.out.trans (hb4.mono (by omega)))
        have HR4 := hide (HRc.out.below hb4)
        have Hin4 := hide (InP_below hb4 Hinc.out)
        obtain ⟨r0, r1, r2, g0, g1, g2⟩ := HR4.out
        have s0 := cell_below hb4 p0
        have s1 := cell_below hb4 p1
        have s2 := cell_below hb4 p2
        have hz4 := hb4.size
        have hz4' : w.heap.size + 1 + 1 < w4.heap.size := by omega
        clear hb4 p0 p1 p2 cgc
        by_cases hbig : 120 < (applyT bs t).sz
        · rw [if_pos hbig]
          have Hsp : Hid (applySpec ar bs t = (zeroT, 2)) := by show _ = _; rw [Hspec2.out, if_pos hbig]
          clear hbig Hspec2
          go_wp2_with fail
          exact bodyPost_ret (v := .tuple #[.agg #[.int .i64 0, .int .i64 0, .slice none 0 0], .int .i64 2]) (by simp [results, Try.results29, go_sem, r0, r1, r2]) rfl
            ⟨by rw [Hsp.out]; exact gives_zero 2 _, below_set3 Hb4.out (by omega) _ _ _⟩
        · rw [if_neg hbig]
          have Hsp : Hid (applySpec ar bs t = (applyT bs t, 0)) := by show _ = _; rw [Hspec2.out, if_neg hbig]
          clear hbig Hspec2
          go_wp2_with fail
          exact bodyPost_ret (v := .tuple #[.agg #[.int .i64 (applyT bs t).v, .int .i64 (applyT bs t).f, .slice a1 (applyT bs t).args.length cap1], .int .i64 0]) (by simp [results, Try.results29, go_sem, r0, r1, r2]) rfl
            ⟨by rw [Hsp.out]; exact ⟨a1, cap1, rfl, InP_imp (fun _ _ => trivial) (InP_same (fun k hk _ => set3_block (by omega)) Hin4.out)⟩, below_set3 Hb4.out (by omega) _ _ _⟩
    · have hs1 : (termErr ar t != 0) = true := by simpa using ht
      have Hsp : Hid (applySpec ar bs t = (zeroT, termErr ar t)) := by show _ = _; rw [Hspec.out, if_neg ht]
      clear ht Hspec
      obtain ⟨d0, d1, d2, f0, f1, f2⟩ := HR2.out
      generalize termErr ar t = err at *
      go_wp2_with fail
      exact bodyPost_ret (v := .tuple #[.agg #[.int .i64 0, .int .i64 0, .slice none 0 0], .int .i64 err]) (by simp [results, Try.results29, go_sem, d0, d1, d2]) rfl
        ⟨by rw [Hsp.out]; exact gives_zero err _, below_set3 Hb2.out (by omega) _ _ _⟩
  · have hs1 : (bindsErr ar bs != 0) = true := by simpa using hs
    have Hsp : Hid (applySpec ar bs t = (zeroT, bindsErr ar bs)) := by show _ = _; rw [applySpec, if_neg hs]
    clear hs
    generalize bindsErr ar bs = err at *
    go_wp2_with fail
    exact bodyPost_ret (v := .tuple #[.agg #[.int .i64 0, .int .i64 0, .slice none 0 0], .int .i64 err]) (by simp [results, Try.results29, go_sem, d0, d1, d2]) rfl
      ⟨by rw [Hsp.out]; exact gives_zero err _, below_set3 Hb1.out (by omega) _ _ _⟩

end Go.Proofs.Ytppeedpmofimhaa

namespace Go.Proofs.Ytppeedpmofimhaa
open Go.RowKit

set_option maxRecDepth 100000 in
set_option maxHeartbeats 1000000 in
theorem termIs_any (x want : T) (k : Int) (a : Option Addr) (cap : Nat) (a2 : Option Addr) (cap2 : Nat) (w : World) (hsz : x.sz ≤ 1000) (hin : InL w x.args a) (hin2 : InL w want.args a2) (h0 : k = 0 → sameT x want = true) (h1 : k ≠ 0 → x = zeroT) :
    Calls Try.prog 27 #[.agg #[.int .i64 x.v, .int .i64 x.f, .slice a x.args.length cap], .int .i64 k, .int .i64 k, .agg #[.int .i64 want.v, .int .i64 want.f, .slice a2 want.args.length cap2]] w fun e w' =>
      e = .returned (.bool true) ∧ Below w.heap.size w w' := by
  by_cases hk : k = 0
  · subst hk
    have hs := h0 rfl
    have HS := hide (fun o1 o2 => sameTerm_any (x.sz + 1) x want a cap a2 cap2 ((w.alloc o1).alloc o2) (by omega) hsz (InP_alloc o2 (InP_alloc o1 hin)) (InP_alloc o2 (InP_alloc o1 hin2)))
    rw [hs] at HS
    clear h0 h1 hs
    go_enter Try.func27, Try.ntmps27
    go_wp2_with fail
    refine (HS.out _ _).mono ?_
    rintro e w1 ⟨rfl, hb1⟩
    have Hb := hide ((below2 w _ _).trans (hb1.mono (by simp; omega)))
    clear hb1
    go_wp2_with fail
    go_ret
    exact ⟨rfl, Hb.out⟩
  · have hx := h1 hk
    subst hx
    have hk1 : (k != 0) = true := by simpa using hk
    have hk2 : (k == k) = true := by simp
    have hs : sameT zeroT zeroT = true := sameT_refl _
    have HS := hide (fun o1 o2 => sameTerm_any 2 zeroT zeroT a cap none 0 ((w.alloc o1).alloc o2) (by decide) (by decide) InP_nil InP_nil)
    rw [hs] at HS
    clear h0 h1 hs
    go_enter Try.func27, Try.ntmps27
    go_wp2_with fail
    refine (HS.out _ _).mono ?_
    rintro e w1 ⟨rfl, hb1⟩
    have Hb := hide ((below2 w _ _).trans (hb1.mono (by simp; omega)))
    clear hb1
    go_wp2_with fail
    go_ret
    exact ⟨rfl, Hb.out⟩

/-- What is wrong with the first is wrong with both. -/
theorem allErr_two {ar : List Int} {t u : T} (h : allErr ar [t] ≠ 0) : allErr ar [t, u] ≠ 0 := by
  intro h2
  apply h
  have := allErr_iff.1 h2
  exact allErr_iff.2 ⟨this.1, fun x hx => this.2 x (by simp at hx; simp [hx])⟩
theorem allErr_one {ar : List Int} {t u : T} (h : allErr ar [t, u] = 0) : allErr ar [t] = 0 := by
  rcases Classical.em (allErr ar [t] = 0) with h1 | h1
  · exact h1
  · exact absurd h (allErr_two h1)
theorem at_zero {ar : List Int} {t : T} {place : List Int} (h : (atSpec ar t place).2 ≠ 0) : (atSpec ar t place).1 = zeroT := by
  rw [atSpec] at h ⊢
  split
  · cases hat : atT t place with
    | none => rfl
    | some c => rw [if_pos (by assumption), hat] at h; exact absurd rfl h
  · rfl
theorem put_zero {ar : List Int} {t u : T} {place : List Int} (h : (putSpec ar t place u).2 ≠ 0) : (putSpec ar t place u).1 = zeroT := by
  rw [putSpec] at h ⊢
  by_cases h1 : allErr ar [t, u] = 0
  · rw [if_pos h1] at h ⊢
    cases hat : atT t place with
    | none => rfl
    | some c =>
      rw [hat] at h
      by_cases h2 : 120 < (t.sz : Int) - c.sz + u.sz
      · simp only [if_pos h2]
      · simp only [if_neg h2] at h; exact absurd rfl h
  · rw [if_neg h1]
theorem at_bad {ar : List Int} {t : T} {place : List Int} (h : allErr ar [t] ≠ 0) : (atSpec ar t place).2 = allErr ar [t] := by rw [atSpec, if_neg h]
theorem at_none {ar : List Int} {t : T} {place : List Int} (h : allErr ar [t] = 0) (hn : atT t place = none) : (atSpec ar t place).2 = 5 := by rw [atSpec, if_pos h, hn]
theorem at_some {ar : List Int} {t c : T} {place : List Int} (h : allErr ar [t] = 0) (hn : atT t place = some c) : atSpec ar t place = (c, 0) := by rw [atSpec, if_pos h, hn]
theorem put_bad {ar : List Int} {t u : T} {place : List Int} (h : allErr ar [t, u] ≠ 0) : (putSpec ar t place u).2 = allErr ar [t, u] := by rw [putSpec, if_neg h]
theorem put_none {ar : List Int} {t u : T} {place : List Int} (h : allErr ar [t, u] = 0) (hn : atT t place = none) : (putSpec ar t place u).2 = 5 := by rw [putSpec, if_pos h, hn]
theorem put_some {ar : List Int} {t u c : T} {place : List Int} (h : allErr ar [t, u] = 0) (hn : atT t place = some c) :
    putR u t place = putT u t place ∧ (putR u t place).sz ≤ 240 ∧ (120 < (putR u t place).sz → (putSpec ar t place u).2 = 2) ∧ ((putR u t place).sz ≤ 120 → putSpec ar t place u = (putR u t place, 0)) := by
  have hx := allErr_iff.1 h
  have ht := hx.2 t (by simp)
  have hu := hx.2 u (by simp)
  have e := putR_putT (u := u) hn ht.2
  have hsz := putT_sz (u := u) hn
  have hc := atT_sz hn
  rw [e]
  refine ⟨rfl, by omega, fun h1 => ?_, fun h1 => ?_⟩
  · rw [putSpec, if_pos h, hn]
    simp only [if_pos (show 120 < (t.sz : Int) - c.sz + u.sz by omega)]
  · rw [putSpec, if_pos h, hn]
    simp only [if_neg (show ¬ 120 < (t.sz : Int) - c.sz + u.sz by omega)]
theorem at_sz {ar : List Int} {t : T} {place : List Int} : (atSpec ar t place).1.sz ≤ 120 := by
  rw [atSpec]
  split
  · rename_i h
    cases hat : atT t place with
    | none => exact (by decide : zeroT.sz ≤ 120)
    | some c =>
      have := atT_sz hat
      have := sz_of_ok h (t := t) (by simp)
      show c.sz ≤ 120
      omega
  · exact (by decide : zeroT.sz ≤ 120)
theorem put_sz {ar : List Int} {t u : T} {place : List Int} : (putSpec ar t place u).1.sz ≤ 240 := by
  rcases Classical.em ((putSpec ar t place u).2 = 0) with h | h
  · rcases Classical.em (allErr ar [t, u] = 0) with h1 | h1
    · cases hat : atT t place with
      | none => rw [put_none h1 hat] at h; cases h
      | some c =>
        obtain ⟨e, h2, h3, h4⟩ := put_some h1 hat
        rcases Nat.lt_or_ge 120 (putR u t place).sz with h5 | h5
        · rw [h3 h5] at h; cases h
        · rw [h4 h5]; exact h2
    · rw [put_bad h1] at h; exact absurd h h1
  · rw [put_zero h]; decide

end Go.Proofs.Ytppeedpmofimhaa
