/- The program's own putting in: by a map. The program's own matching: by a map that grows. The contracts of the library for keys of maps, sorted, laid at this program in plain words. The keys of a map, sorted. A list of bindings of the call's own. The bindings of a map, rising. The program's Match: what it answers. -/
import Derived.Deep.AppendLies
import Derived.Deep.DeepCutAuto
import Derived.Ground.GgzProg
import Derived.Shelf.SlIterI.Nil
import Derived.Test.YtbkedppkdhfpoabProg
import Derived.Test.YtbkedppkdhfpoabJoined7
namespace Go.Proofs.Ytbkedppkdhfpoab
open Go.RowKit Go.Maps

theorem Try.zero28 (w : World) : (zeroValue 28).run Try.prog w = .ok (.agg #[.int .i64 0, .int .i64 0, .slice none 0 0]) w := by kernel_rfl

theorem Kids_length {p : Nat → Prop} {w : World} {ts : List T} : ∀ {cs : List Value}, Kids p w ts cs → cs.length = ts.length * 3 := by
  induction ts with
  | nil => intro cs h; rw [show cs = [] from h]; rfl
  | cons t ts ih =>
    intro cs h
    obtain ⟨a, cap, rest, rfl, _, h⟩ := h
    have := ih h
    simp only [List.length_cons]; omega

/-- A term that is being made: k of its arguments are there. -/
structure Mk (w wr : World) (v f : Int) (n : Nat) (L : List T) (k g b7 : Nat) : Prop where
  kids : ∃ cs, Kids (fun x => w.heap.size + 1 < x ∧ x ≠ g) wr (L.take k) cs ∧ ∀ j u, cs[j]? = some u → wr.cell? ⟨g, j, none⟩ = some u
  cells : ∀ j, j < n * 3 → ∃ u, wr.cell? ⟨g, j, none⟩ = some u
  fr : ∀ j, wr.frozen? ⟨g, j, none⟩ = false
  made : Three wr b7 (.int .i64 v) (.int .i64 f) (.slice (some ⟨g, 0, none⟩) n n)
  res : Three wr (w.heap.size + 1) (.int .i64 0) (.int .i64 0) (.slice none 0 0)
  below : Below w.heap.size w wr
  gg : w.heap.size + 1 < g
  gl : g < wr.heap.size
  bb : w.heap.size + 1 < b7
  ne : b7 ≠ g
theorem Mk.step {w wr w2 : World} {v f : Int} {n k g b7 : Nat} {L : List T} {c : T} {a2 : Option Addr} {cap2 : Nat} {o : Obj} (h : Mk w wr v f n L k g b7) (hL : L.length = n) (hc : L[k]? = some c) (hb : Below (wr.alloc o).heap.size (wr.alloc o) w2) (hi : InP (fun x => (wr.alloc o).heap.size ≤ x) w2 c.args a2) :
    Mk w (set3 w2 g (k * 3) (.int .i64 c.v) (.int .i64 c.f) (.slice a2 c.args.length cap2)) v f n L (k + 1) g b7 := by
  have hk : k < n := by
    rcases Nat.lt_or_ge k L.length with h | h
    · omega
    · rw [List.getElem?_eq_none h] at hc; cases hc
  have hgl := h.gl
  have hgg := h.gg
  have hwb := h.below.size
  have hb' : Below wr.heap.size wr w2 := (below1 _ _).trans (hb.mono (by simp))
  have hs2 := hb'.size
  obtain ⟨cs, hk1, hk2⟩ := h.kids
  have hcl := Kids_length hk1
  rw [List.length_take_of_le (by omega)] at hcl
  have hcells : ∀ j, j < n * 3 → ∃ u, w2.cell? ⟨g, j, none⟩ = some u := fun j hj => by
    rw [hb'.cell (p := ⟨g, j, none⟩) hgl]; exact h.cells j hj
  have hsame := set3_same (w := w2) (b := g) (off := k * 3) (u0 := .int .i64 c.v) (u1 := .int .i64 c.f) (u2 := .slice a2 c.args.length cap2) (fun j _ hj2 => hcells j (by omega))
  refine ⟨⟨cs ++ [.int .i64 c.v, .int .i64 c.f, .slice a2 c.args.length cap2], ?_, ?_⟩, ?_, ?_, (h.made.below hb').same (set3_block h.ne), (h.res.below hb').same (set3_block (by have := h.gg; omega)), below_set3 (h.below.trans (hb'.mono hwb)) (by have := h.gg; omega) _ _ _, h.gg, by rw [set3_size]; omega, h.bb, h.ne⟩
  · rw [List.take_add_one, hc]
    refine Kids_append (Kids_mono (fun x hx hxl => ⟨hx, by rw [set3_block hx.2]; exact hb'.block x hxl⟩) hk1) ⟨a2, cap2, [], rfl, ?_, rfl⟩
    refine InP_mono (fun b o v hp hv => ?_) _ _ _ (Nat.le_refl _) hi
    have hp : wr.heap.size + 1 ≤ b := by simpa using hp
    exact ⟨⟨by omega, by omega⟩, by rw [World.cell?_of_block (w := w2) (a := ⟨b, o, none⟩) (set3_block (show b ≠ g by omega))]; exact hv⟩
  · intro j u hu
    rcases Nat.lt_or_ge j cs.length with hj | hj
    · rw [List.getElem?_append_left hj] at hu
      rw [set3_cell (by omega), hb'.cell (p := ⟨g, j, none⟩) hgl]; exact hk2 j u hu
    · rw [List.getElem?_append_right hj, hcl] at hu
      have hj3 : j - k * 3 = 0 ∨ j - k * 3 = 1 ∨ j - k * 3 = 2 := by
        rcases Nat.lt_or_ge (j - k * 3) 3 with h9 | h9
        · omega
        · rw [List.getElem?_eq_none (by simpa using h9)] at hu; cases hu
      rcases hj3 with e | e | e
      · rw [e] at hu
        obtain rfl : Value.int .i64 c.v = u := by simpa using hu
        rw [show j = k * 3 by omega]; exact hsame.1
      · rw [e] at hu
        obtain rfl : Value.int .i64 c.f = u := by simpa using hu
        rw [show j = k * 3 + 1 by omega]; exact hsame.2.1
      · rw [e] at hu
        obtain rfl : Value.slice a2 c.args.length cap2 = u := by simpa using hu
        rw [show j = k * 3 + 2 by omega]; exact hsame.2.2
  · intro j hj
    by_cases h3 : j < k * 3 ∨ k * 3 + 2 < j
    · rw [set3_cell h3]; exact hcells j hj
    · have : j = k * 3 ∨ j = k * 3 + 1 ∨ j = k * 3 + 2 := by omega
      rcases this with rfl | rfl | rfl
      · exact ⟨_, hsame.1⟩
      · exact ⟨_, hsame.2.1⟩
      · exact ⟨_, hsame.2.2⟩
  · intro j
    rw [set3_frozen, hb'.frozen (p := ⟨g, j, none⟩) hgl]; exact h.fr j
theorem Mk.fin {w wr : World} {v f : Int} {n g b7 : Nat} {L : List T} (h : Mk w wr v f n L n g b7) (hL : L.length = n) : InP (fun x => w.heap.size + 1 < x) wr L (some ⟨g, 0, none⟩) := by
  obtain ⟨cs, h1, h2⟩ := h.kids
  rw [← hL, List.take_length] at h1
  exact Kids_in h.gg (Kids_mono (fun x hx _ => ⟨hx.1, rfl⟩) h1) (fun j u hu => by rw [Nat.zero_add]; exact h2 j u hu)

theorem Mk.start {w wr : World} {v f : Int} {n g b7 : Nat} {L : List T} (hg : wr.heap[g]? = some (.cells (row3 n) 28)) (h7 : Three wr b7 (.int .i64 v) (.int .i64 f) (.slice (some ⟨g, 0, none⟩) n n)) (hr : Three wr (w.heap.size + 1) (.int .i64 0) (.int .i64 0) (.slice none 0 0)) (hb : Below w.heap.size w wr) (h1 : w.heap.size + 1 < g) (h2 : w.heap.size + 1 < b7) (h3 : b7 ≠ g) : Mk w wr v f n L 0 g b7 := by
  refine ⟨⟨[], rfl, fun j u hu => by simp at hu⟩, fun j hj => ?_, fun j => frozen_of_heap hg j, h7, hr, hb, h1, (Array.getElem?_eq_some_iff.1 hg).1, h2, h3⟩
  have hs : j < (row3 n).size := by rw [size_row3]; exact hj
  refine ⟨(row3 n)[j], ?_⟩
  unfold World.cell?
  rw [hg]
  simp [hs]
theorem Mk.behind {w wr : World} {v f : Int} {n k g b7 : Nat} {L : List T} (h : Mk w wr v f n L k g b7) (hk : k < n) : ∀ (o : Obj) (w2 : World), Below (wr.alloc o).heap.size (wr.alloc o) w2 → (w2.cell? ⟨b7, 2, none⟩ = some (.slice (some ⟨g, 0, none⟩) n n)) ∧
      (∃ v0 v1 v2, w2.cell? ⟨g, k * 3, none⟩ = some v0 ∧ w2.cell? ⟨g, k * 3 + 1, none⟩ = some v1 ∧ w2.cell? ⟨g, k * 3 + 2, none⟩ = some v2) ∧ (∀ j, w2.frozen? ⟨g, j, none⟩ = false) := by
  intro o w2 hb
  have hb' : Below wr.heap.size wr w2 := (below1 _ _).trans (hb.mono (by simp))
  have hgl := h.gl
  obtain ⟨v0, e0⟩ := h.cells (k * 3) (by omega)
  obtain ⟨v1, e1⟩ := h.cells (k * 3 + 1) (by omega)
  obtain ⟨v2, e2⟩ := h.cells (k * 3 + 2) (by omega)
  exact ⟨(h.made.below hb').c2, ⟨v0, v1, v2, cell_below hb' e0, cell_below hb' e1, cell_below hb' e2⟩, fun j => by rw [hb'.frozen (p := ⟨g, j, none⟩) hgl]; exact h.fr j⟩

set_option maxRecDepth 100000 in
set_option maxHeartbeats 2000000 in
theorem applyP_any (ar : List Int) (q : Nat → Prop) (bs : List (Int × T)) (b n : Nat) (f : Int → Option Value) (hpos : ∀ v, v ≤ 0 → lookB bs v = none) (hus : ∀ v u, (v, u) ∈ bs → u.sz ≤ 1000) (N : Nat) : ∀ (t : T) (a : Option Addr) (cap : Nat) (w : World), t.sz < N → t.sz ≤ 1000 → MapAt w b n f → BMap q w bs f → okP ar t → InL w t.args a →
    Calls Try.prog 104 #[.map (some b), .agg #[.int .i64 t.v, .int .i64 t.f, .slice a t.args.length cap]] w fun e w' =>
      ∃ a' cap', e = .returned (.agg #[.int .i64 (applyT bs t).v, .int .i64 (applyT bs t).f, .slice a' (applyT bs t).args.length cap']) ∧ InP (fun k => w.heap.size ≤ k) w' (applyT bs t).args a' ∧ Below w.heap.size w w' := by
  induction N with
  | zero => intro t a cap w hN; omega
  | succ N ih =>
    intro t a cap w hN ht hM hB hok hin
    have Hih := hide ih
    have hv0 := okP_v hok
    have hv1 : t.v ≤ 1000 := by
      have h1 := (okP_iff.1 hok).1
      rw [partErr] at h1
      by_cases hv : t.v = 0
      · omega
      · rw [if_pos hv] at h1
        by_cases h2 : t.v < 1 ∨ 1000 < t.v
        · rw [if_pos h2] at h1; cases h1
        · omega
    have hte := T.sz_eq t
    have hlook := fun o1 o2 => (hM.below (below2 w o1 o2)).look_ok (t := 142) Try.underlying142 (Try.zero28 _) (k := t.v) (by omega) (by omega)
    have HM := hide hM
    have HB := hide hB
    have Hok := hide hok
    clear ih hM hB hok
    cases hlk : lookB bs t.v with
    | some u =>
      have hp : putIn bs t.v = some u := by
        rw [putIn, if_pos ?_, hlk]
        rcases Int.lt_or_le 0 t.v with h | h
        · exact h
        · rw [hpos _ h] at hlk; cases hlk
      obtain ⟨a1, cap1, hf, hin1⟩ := (HB.out t.v).2 u hlk
      rw [applyT_some hp]
      rw [hf] at hlook
      have husz := hus _ _ (lookB_mem hlk)
      have Hin1 := hide (InP_imp (q := fun _ => True) (fun _ _ => trivial) hin1)
      clear hlk hp hf hin1
      go_enter Try.func104, Try.ntmps104
      go_wp2_with fail
      refine (copyOf_any (u.sz + 1) u a1 cap1 _ (by omega) husz (InP_below (w := w) (below3 _ _ _ _) Hin1.out)).mono ?_
      rintro e w3 ⟨s, Bc, rfl, hown, _, hrg, hb3⟩
      obtain ⟨a2, cap2, rfl, hin2⟩ := In_iff.1 (Own_inP hown)
      have hz3 := hb3.size
      simp at hz3
      have HR : Hid (Three w3 (w.heap.size + 1) (.int .i64 0) (.int .i64 0) (.slice none 0 0)) := Three.below ((Three.new 28 (by simp)).alloc _) hb3
      obtain ⟨m0, m1, m2, n0, n1, n2⟩ := HR.out
      have Hin2 : Hid (InP (fun k => w.heap.size ≤ k ∧ k ≠ w.heap.size + 1) w3 u.args a2) := InP_imp (fun k hk => by have := (hrg k hk).1; simp at this; omega) hin2
      have Hb3 : Hid (Below w.heap.size w w3) := (below3 _ _ _ _).trans (hb3.mono (by simp; omega))
      clear hown hrg hb3 hin2
      go_wp2_with fail
      obtain ⟨z0, z1, z2, _, _, _⟩ := HR.out.set (.int .i64 u.v) (.int .i64 u.f) (.slice a2 u.args.length cap2)
      simp only [set3, Nat.zero_add] at z0 z1 z2
      exact bodyPost_ret (v := .agg #[.int .i64 u.v, .int .i64 u.f, .slice a2 u.args.length cap2]) (by simp [results, Try.results104, go_sem, z0, z1, z2]) rfl ⟨a2, cap2, rfl, InP_imp (fun k hk => hk.1) (InP_same (fun k hk _ => set3_block (b := w.heap.size + 1) (off := 0) hk.2) Hin2.out), below_set3 (b := w.heap.size + 1) (off := 0) Hb3.out (by omega) _ _ _⟩
    | none =>
      have hp : putIn bs t.v = none := by
        rw [putIn, hlk]; split <;> rfl
      have hf := (HB.out t.v).1 hlk
      rw [applyT_none hp]
      rw [hf] at hlook
      obtain ⟨L, hL⟩ : ∃ L, L = t.args.map (applyT bs) := ⟨_, rfl⟩
      have hLl : L.length = t.args.length := by rw [hL]; simp
      have HLk := hide (show ∀ (k : Nat) (x : T), t.args[k]? = some x → L[k]? = some (applyT bs x) from fun k x hx => by rw [hL]; simp [hx])
      rw [← hL]
      show Calls _ _ _ _ fun e w' => ∃ a' cap', e = .returned (.agg #[.int .i64 t.v, .int .i64 t.f, .slice a' L.length cap']) ∧ InP (fun k => w.heap.size ≤ k) w' L a' ∧ Below w.heap.size w w'
      have htl : t.args.length ≤ 1000 := by have := T.length_le t.args; omega
      have Hin := hide hin
      have hmk := run_make3 t.args.length (by omega)
      clear hlk hp hf hL hin
      obtain ⟨W3, hW3⟩ : ∃ W3, W3 = (((w.alloc (.cells #[.int .i64 t.v, .int .i64 t.f, .slice a t.args.length cap] 28)).alloc (.cells #[.int .i64 0, .int .i64 0, .slice none 0 0] 28)).alloc (.cells #[.int .i64 0, .int .i64 0, .slice none 0 0] 28)) := ⟨_, rfl⟩
      have hT3 : Hid (Three W3 w.heap.size (.int .i64 t.v) (.int .i64 t.f) (.slice a t.args.length cap)) := by rw [hW3]; exact ((Three.new 28 rfl).alloc _).alloc _
      have hR3 : Hid (Three W3 (w.heap.size + 1) (.int .i64 0) (.int .i64 0) (.slice none 0 0)) := by rw [hW3]; exact (Three.new 28 (by simp)).alloc _
      have hWb : Hid (Below w.heap.size w W3) := by rw [hW3]; exact below3 _ _ _ _
      have hzW : W3.heap.size = w.heap.size + 3 := by rw [hW3]; simp
      have HW3 := hide hW3
      clear hW3
      go_enter Try.func104, Try.ntmps104
      go_upto_region 4 with fail
      rw [← HW3.out]
      obtain ⟨t0, t1, t2, _, _, _⟩ := hT3.out
      go_cut [7] (fun v7 wc => ∃ g b7, v7 = .pointer (some ⟨b7, 0, none⟩) ∧ Mk w wc t.v t.f t.args.length L 0 g b7 ∧ Hid (Below W3.heap.size W3 wc))
      case first =>
        go_region
        all_goals (go_wp2_with fail; go_meet)
        · refine ⟨w.heap.size + 3, w.heap.size + 3 + 1, rfl, Mk.start ?_ ?_ ?_ ?_ (by omega) (by omega) (by omega), ?_⟩
          · rw [← hzW]; exact (Below.heap_alloc (W3.alloc _) _ _ (by simp)).trans (heap_alloc_new W3 _)
          · exact Three.same (Three.new 28 (by rw [World.size_alloc, hzW])) rfl
          · exact Three.same ((hR3.out.alloc _).alloc _) rfl
          · exact Below.drew (hWb.out.trans ((below2 _ _ _).mono (by omega)))
          · exact Below.drew (below2 _ _ _)
        · refine ⟨w.heap.size + 3 + 1, w.heap.size + 3, rfl, Mk.start ?_ ?_ ?_ ?_ (by omega) (by omega) (by omega), ?_⟩
          · have h9 := heap_alloc_new (W3.alloc (.cells #[.int .i64 t.v, .int .i64 t.f, .slice (some ⟨w.heap.size + 3 + 1, 0, none⟩) t.args.length t.args.length] 28)) (.cells (row3 t.args.length) 28)
            rw [World.size_alloc, hzW] at h9
            exact h9
          · exact Three.same ((Three.new 28 hzW.symm).alloc _) rfl
          · exact Three.same ((hR3.out.alloc _).alloc _) rfl
          · exact Below.drew (hWb.out.trans ((below2 _ _ _).mono (by omega)))
          · exact Below.drew (below2 _ _ _)
      case rest =>
        obtain ⟨g, b7, rfl, hmk0, HBc⟩ := hcut
        have Hmk0 := hide hmk0
        obtain ⟨t0, t1, t2, _, _, _⟩ := hT3.out.below HBc.out
        clear hmk0 hmk hT3 hR3 hWb HW3 hzW
        go_wp2_with fail
        go_loopw [32] (fun i wr => ∃ (k : Nat), k ≤ t.args.length ∧ i = .int .i64 k ∧ Mk w wr t.v t.f t.args.length L k g b7) (fun i _ => t.args.length - (intOf i).toNat)
        case atStart => exact ⟨0, Nat.zero_le _, rfl, Hmk0.out⟩
        case round =>
          obtain ⟨k, hk, rfl, hmk⟩ := hrel
          have Hmk := hide hmk
          have Hinr := hide (InP_below hmk.below Hin.out)
          obtain ⟨d0, d1, d2, g0, g1, g2⟩ := hmk.res
          obtain ⟨p0, p1, p2, _, _, _⟩ := hmk.made
          have hgl := hmk.gl
          have hbl := hmk.made.lt
          have hgg := hmk.gg
          clear hmk
          by_cases hlt : k < t.args.length
          · obtain ⟨b', off, rfl⟩ := InP_some Hinr.out (by omega)
            obtain ⟨c, hc⟩ : ∃ c, t.args[k]? = some c := ⟨t.args[k], List.getElem?_eq_getElem hlt⟩
            obtain ⟨a1, cap1, _, k0, k1, k2, hin1⟩ := InP_at Hinr.out hc
            have hcsz : c.sz < N ∧ c.sz ≤ 1000 := by
              have := T.szL_mem (List.mem_of_getElem? hc)
              omega
            have HLc := hide (HLk.out k c hc)
            have Hco := hide (okArg Hok.out (List.mem_of_getElem? hc))
            have Hcall := hide (Hmk.out.behind hlt)
            have Hbw := hide Hmk.out.below
            have Hin1 := hide hin1
            clear hc hin1
            have HMr := hide (HM.out.below Hbw.out)
            have HBr := hide (HB.out.mono (fun j _ hj => Hbw.out.block j hj))
            have HMo := hide (fun o => (HMr.out.below (below1 wr o)).same (w' := (wr.alloc o).drew) rfl)
            have HBo := hide (fun o => HBr.out.mono (w' := (wr.alloc o).drew) (fun j _ hj => (below1 wr o).block j hj))
            have HIo := hide (fun o => InP_heap (w := wr.alloc o) (w' := (wr.alloc o).drew) rfl (InP_alloc o Hin1.out))
            have hz1 : w.heap.size + 1 < wr.heap.size := by omega
            go_wp2_with fail
            go_region_with (go_at_call 104; refine (Hih.out c a1 cap1 _ hcsz.1 hcsz.2 (HMo.out _) (HBo.out _) Hco.out (HIo.out _)).mono ?_; rintro e w2 ⟨a2, cap2, rfl, hin2, hb1⟩; have hb2 := below_undrew hb1; clear hb1; obtain ⟨q2, ⟨v0, v1, v2, e0, e1, e2⟩, qf⟩ := Hcall.out _ w2 hb2; have q0 := qf (k * 3); have q1 := qf (k * 3 + 1); have q3 := qf (k * 3 + 2); clear qf)
            all_goals
              go_wp2_with fail
              go_roundw
              case rel => exact ⟨k + 1, by omega, by go_num, Hmk.out.step hLl HLc.out hb2 hin2⟩
              case measure => simp [intOf]; omega
          · have hk2 : k = t.args.length := by omega
            subst hk2
            have HF := hide (Hmk.out.fin hLl)
            have Hres := hide (Hmk.out.res.set (.int .i64 t.v) (.int .i64 t.f) (.slice (some ⟨g, 0, none⟩) t.args.length t.args.length))
            have Hbw := hide Hmk.out.below
            go_wp2_with fail
            obtain ⟨z0, z1, z2, _, _, _⟩ := Hres.out
            simp only [set3, Nat.zero_add] at z0 z1 z2
            exact bodyPost_ret (v := .agg #[.int .i64 t.v, .int .i64 t.f, .slice (some ⟨g, 0, none⟩) t.args.length t.args.length]) (by simp [results, Try.results104, go_sem, z0, z1, z2]) rfl ⟨some ⟨g, 0, none⟩, t.args.length, by rw [hLl], InP_imp (fun j hj => by omega) (InP_same (fun j hj _ => set3_block (b := w.heap.size + 1) (off := 0) (show j ≠ _ by omega)) HF.out), below_set3 (b := w.heap.size + 1) (off := 0) Hbw.out (by omega) _ _ _⟩

end Go.Proofs.Ytbkedppkdhfpoab

namespace Go.Proofs.Ytbkedppkdhfpoab
open Go.RowKit Go.Maps

/-- Block b is a map that holds these bindings, whose terms lie in blocks of which q holds. -/
def MB (q : Nat → Prop) (b : Nat) (bs : List (Int × T)) (w : World) : Prop := (∃ f, MapAt w b bs.length f ∧ BMap q w bs f) ∧ ∀ v u, (v, u) ∈ bs → u.sz ≤ 1000
theorem MB.lt {q : Nat → Prop} {b : Nat} {bs : List (Int × T)} {w : World} (h : MB q b bs w) : b < w.heap.size := by obtain ⟨⟨f, hM, _⟩, _⟩ := h; exact hM.lt
theorem MB.below {q : Nat → Prop} {b : Nat} {bs : List (Int × T)} {w w' : World} (h : MB q b bs w) (hb : Below w.heap.size w w') : MB q b bs w' := by
  obtain ⟨⟨f, hM, hB⟩, hs⟩ := h
  exact ⟨⟨f, hM.below hb, hB.mono (fun j _ hj => hb.block j hj)⟩, hs⟩
/-- What lies in cells lies in no map's block. -/
theorem InP_notmap {p : Nat → Prop} {w : World} {b n : Nat} {f : Int → Option Value} {ts : List T} {a : Option Addr} (hM : MapAt w b n f) (h : InP p w ts a) : InP (fun k => p k ∧ k ≠ b) w ts a :=
  InP_mono (fun b' o v hp hv => ⟨⟨hp, fun e => by
    obtain ⟨D, ⟨es, clock, h1, _⟩, _⟩ := hM
    subst e
    unfold World.cell? at hv
    rw [h1] at hv
    cases hv⟩, hv⟩) _ _ _ (Nat.le_refl _) h
theorem InP_grown {p : Nat → Prop} {w w' : World} {b : Nat} {ts : List T} {a : Option Addr} (hg : w.grownBy w' (some b)) (h : InP (fun k => p k ∧ k ≠ b) w ts a) : InP (fun k => p k ∧ k ≠ b) w' ts a :=
  InP_same (fun k hk hl => hg.block k hl (fun e => hk.2 (by cases e; rfl))) h
theorem MB.notmap {q : Nat → Prop} {b : Nat} {bs : List (Int × T)} {w : World} {p : Nat → Prop} {ts : List T} {a : Option Addr} (hM : MB q b bs w) (h : InP p w ts a) : InP (fun k => p k ∧ k ≠ b) w ts a := by
  obtain ⟨⟨f, hM, _⟩, _⟩ := hM; exact InP_notmap hM h
theorem eg100 (args : Array Value) (w : World) : (callFunc 100 args).run Try.prog w = .ok (.enter 100 args) w := by kernel_rfl

set_option maxRecDepth 100000 in
set_option maxHeartbeats 1000000 in
theorem equalMatch_any (q : Nat → Prop) (b n : Nat) (ar : List Int)
    (hc : ∀ (p t : T) (pa : Option Addr) (pc : Nat) (ta : Option Addr) (tc : Nat) (bs : List (Int × T)) (w : World), p.sz ≤ n → bs.length + p.sz ≤ 100000 → okP ar p → t.sz ≤ 1000 → MB q b bs w → InL w p.args pa → InP q w t.args ta →
      Calls Try.prog 100 #[.map (some b), .agg #[.int .i64 p.v, .int .i64 p.f, .slice pa p.args.length pc], .agg #[.int .i64 t.v, .int .i64 t.f, .slice ta t.args.length tc]] w fun e w' => e = .returned (.bool (growT p t bs).isSome) ∧ w.grownBy w' (some b) ∧ ∀ b2, growT p t bs = some b2 → MB q b b2 w')
    (ps ts : List T) (pa : Option Addr) (pc : Nat) (ta : Option Addr) (tc : Nat) (bs : List (Int × T)) (w : World) (hn : T.sz.szL ps ≤ n) (h1000 : bs.length + T.sz.szL ps ≤ 100000) (hok : okP.okL ar ps) (hts : T.sz.szL ts ≤ 1000) (hM : MB q b bs w) (hin : InL w ps pa) (hin2 : InP q w ts ta) :
    Calls Try.prog 109 #[.slice pa ps.length pc, .slice ta ts.length tc, .func (.func 100) #[.map (some b)] #[]] w fun e w' => e = .returned (.bool (growT.growL ps ts bs).isSome) ∧ w.grownBy w' (some b) ∧ ∀ b2, growT.growL ps ts bs = some b2 → MB q b b2 w' := by
  have Hc := hide hc
  have Hin := hide (hM.notmap hin)
  have Hin2 := hide (hM.notmap hin2)
  have HM := hide hM
  have Hok := hide hok
  have e72 := eg100
  have hpl := T.length_le ps
  clear hc hin hin2 hM hok
  by_cases h3 : ps.length = ts.length
  · have e3 : ((ps.length : Int) != ts.length) = false := by simp; omega
    have H3 := hide h3
    clear h3
    go_enter Try.func109, Try.ntmps109
    go_wp2_with fail
    go_loopw [17] (fun i wr => ∃ (k : Nat) (bk : List (Int × T)), k ≤ ps.length ∧ i = .int .i64 k ∧ Hid (growT.growL (ps.take k) (ts.take k) bs = some bk) ∧ MB q b bk wr ∧ w.grownBy wr (some b)) (fun i _ => ps.length - (intOf i).toNat)
    case atStart => exact ⟨0, bs, Nat.zero_le _, rfl, rfl, HM.out, ⟨rfl, rfl, rfl, Nat.le_refl _, fun _ _ _ => rfl⟩⟩
    case round =>
      obtain ⟨k, bk, hk, rfl, HL, hMr, hgr⟩ := hrel
      have HMr := hide hMr
      have Hgr := hide hgr
      have hzr := hgr.size
      clear hMr hgr
      by_cases hlt : k < ps.length
      · have hlt2 : k < ts.length := by have := H3.out; omega
        have hinr := InP_grown Hgr.out Hin.out
        have hinr2 := InP_grown Hgr.out Hin2.out
        obtain ⟨b1, off1, rfl⟩ := InP_some hinr (by omega)
        obtain ⟨b2, off2, rfl⟩ := InP_some hinr2 (by omega)
        obtain ⟨x, hx⟩ : ∃ x, ps[k]? = some x := ⟨ps[k], List.getElem?_eq_getElem hlt⟩
        obtain ⟨y, hy⟩ : ∃ y, ts[k]? = some y := ⟨ts[k], List.getElem?_eq_getElem hlt2⟩
        obtain ⟨a3, cap3, _, k0, k1, k2, hinx⟩ := InP_at hinr hx
        obtain ⟨a4, cap4, _, m0, m1, m2, hiny⟩ := InP_at hinr2 hy
        obtain ⟨hs1, hs2⟩ := szL_take hx
        have hxe := T.sz_eq x
        have hyt := T.szL_mem (List.mem_of_getElem? hy)
        have hbk := (grow_size _).2 _ _ _ _ (Nat.le_refl _) HL.out
        have Hst := hide (growL_step H3.out hx hy HL.out)
        have Hxo := hide (okL_mem.1 Hok.out x (List.mem_of_getElem? hx))
        have hkI : (k : Int) < ps.length := by omega
        have hkJ : (k : Int) < ts.length := by omega
        have hk0 : (0 : Int) ≤ k := by omega
        have hk3 : k ≤ 100000 := by omega
        have hb1 := lt_of_cell k0
        have hb2 := lt_of_cell m0
        have Hx := hide (fun o1 o2 => Hc.out x y a3 cap3 a4 cap4 bk ((wr.alloc o1).alloc o2) (by omega) (by omega) Hxo.out (by omega) (HMr.out.below (below2 wr o1 o2)) (InP_imp (q := fun _ => True) (fun _ _ => trivial) (InP_alloc o2 (InP_alloc o1 hinx))) (InP_imp (fun _ h => h.1) (InP_alloc o2 (InP_alloc o1 hiny))))
        have HgA := hide (fun o1 o2 => Hgr.out.trans (show wr.grownBy ((wr.alloc o1).alloc o2) (some b) from ⟨rfl, rfl, rfl, by simp; omega, fun i hi _ => (below2 wr o1 o2).block i hi⟩))
        clear hx hy hinx hiny hinr hinr2 HL
        go_wp2_with fail
        refine (Hx.out _ _).mono ?_
        rintro e w3 ⟨rfl, hg3, hM3⟩
        have Hg3 := hide ((HgA.out _ _).trans hg3)
        have HM3 := hide hM3
        clear hg3 hM3 HgA Hx
        cases hgt : growT x y bk with
        | some bk2 =>
          have Hgo := hide (Hst.out.1 bk2 hgt)
          have HMk := hide (HM3.out bk2 hgt)
          clear Hst HM3 hgt
          simp only [Option.isSome_some]
          go_wp2_with fail
          go_roundw
          case rel => exact ⟨k + 1, bk2, by omega, by go_num, Hgo.out, HMk.out, Hg3.out⟩
          case measure => simp [intOf]; omega
        | none =>
          have Hfin := hide (Hst.out.2 hgt)
          clear Hst HM3 hgt
          simp only [Option.isSome_none]
          go_wp2_with fail
          go_ret
          exact ⟨ret_bool (by rw [Hfin.out]; rfl), Hg3.out, fun b2 h => by rw [Hfin.out] at h; cases h⟩
      · have hk2 : k = ps.length := by omega
        subst hk2
        have Hfin : Hid (growT.growL ps ts bs = some bk) := by
          have h5 := HL.out
          rw [List.take_length, show ps.length = ts.length from H3.out, List.take_length] at h5
          exact h5
        clear HL
        go_wp2_with fail
        go_ret
        exact ⟨ret_bool (by rw [Hfin.out]; rfl), Hgr.out, fun b2 h => by rw [Hfin.out] at h; cases h; exact HMr.out⟩
  · have hfin : growT.growL ps ts bs = none := growL_length h3
    have e3 : ((ps.length : Int) != ts.length) = true := by simp; omega
    have Hfin := hide hfin
    clear hfin h3
    go_enter Try.func109, Try.ntmps109
    go_wp2_with fail
    go_ret
    exact ⟨ret_bool (by rw [Hfin.out]; rfl), ⟨rfl, rfl, rfl, Nat.le_refl _, fun _ _ _ => rfl⟩, fun b2 h => by rw [Hfin.out] at h; cases h⟩

theorem grown_allocs2 (w : World) (b : Nat) (o1 o2 : Obj) : w.grownBy ((w.alloc o1).alloc o2) (some b) := ⟨rfl, rfl, rfl, by simp; omega, fun i hi _ => (below2 w o1 o2).block i hi⟩
theorem grown_of_below {w w' : World} (b : Nat) (h : Below w.heap.size w w') : w.grownBy w' (some b) := ⟨h.os, h.tape, h.output, h.size, fun i hi _ => h.block i hi⟩

set_option maxRecDepth 100000 in
set_option maxHeartbeats 1000000 in
theorem match_any (ar : List Int) (q : Nat → Prop) (b : Nat) (hqb : ¬ q b) (N : Nat) : ∀ (p t : T) (pa : Option Addr) (pc : Nat) (ta : Option Addr) (tc : Nat) (bs : List (Int × T)) (w : World), p.sz ≤ N → bs.length + p.sz ≤ 100000 → okP ar p → t.sz ≤ 1000 → MB q b bs w → InL w p.args pa → InP q w t.args ta →
      Calls Try.prog 100 #[.map (some b), .agg #[.int .i64 p.v, .int .i64 p.f, .slice pa p.args.length pc], .agg #[.int .i64 t.v, .int .i64 t.f, .slice ta t.args.length tc]] w fun e w' => e = .returned (.bool (growT p t bs).isSome) ∧ w.grownBy w' (some b) ∧ ∀ b2, growT p t bs = some b2 → MB q b b2 w' := by
  induction N with
  | zero => intro p t pa pc ta tc bs w hN; have := p.sz_pos; omega
  | succ N ih =>
    intro p t pa pc ta tc bs w hN h1000 hok ht hM hin hin2
    have hpe := T.sz_eq p
    have hte := T.sz_eq t
    have hbl := hM.lt
    have HM := hide hM
    by_cases hv : p.v = 0
    · have e0 : (p.v == 0) = true := by simpa using hv
      by_cases h1 : t.v = 0
      · have e1 : (t.v == 0) = true := by simpa using h1
        by_cases h2 : p.f = t.f
        · have e2 : (p.f == t.f) = true := by simpa using h2
          have Hfin : Hid (growT p t bs = growT.growL p.args t.args bs) := by show _ = _; rw [growT_eq, if_neg (by simp [hv]), if_neg (by simp [h1, h2])]
          have HE := hide (fun o1 o2 => equalMatch_any q b N ar (fun p' t' pa' pc' ta' tc' bs' w' hn' hl' ho' ht' hM' hi' hi2' => ih p' t' pa' pc' ta' tc' bs' w' hn' hl' ho' ht' hM' hi' hi2') p.args t.args pa pc ta tc bs ((w.alloc o1).alloc o2) (by omega) (by omega) (okP_iff.1 hok).2 (by omega) (hM.below (below2 w o1 o2)) (InP_alloc o2 (InP_alloc o1 hin)) (InP_alloc o2 (InP_alloc o1 hin2)))
          clear hv h1 h2 ih hM hok
          rw [Hfin.out]
          go_enter Try.func100, Try.ntmps100
          go_wp2_with fail
          refine (HE.out _ _).mono ?_
          rintro e w1 ⟨rfl, hg1, hM1⟩
          have Hg1 := hide ((grown_allocs2 w b _ _).trans hg1)
          have HM1 := hide hM1
          clear hg1 hM1
          go_wp2_with fail
          go_ret
          exact ⟨rfl, Hg1.out, HM1.out⟩
        · have e2 : (p.f == t.f) = false := by simpa using h2
          have Hfin : Hid (growT p t bs = none) := by show _ = _; rw [growT_eq, if_neg (by simp [hv]), if_pos (Or.inr h2)]
          clear hv h1 h2 ih hM hok
          rw [Hfin.out]
          go_enter Try.func100, Try.ntmps100
          go_wp2_with fail
          go_ret
          exact ⟨rfl, grown_allocs2 w b _ _, fun b2 h => by cases h⟩
      · have e1 : (t.v == 0) = false := by simpa using h1
        have Hfin : Hid (growT p t bs = none) := by show _ = _; rw [growT_eq, if_neg (by simp [hv]), if_pos (Or.inl h1)]
        clear hv h1 ih hM hok
        rw [Hfin.out]
        go_enter Try.func100, Try.ntmps100
        go_wp2_with fail
        go_ret
        exact ⟨rfl, grown_allocs2 w b _ _, fun b2 h => by cases h⟩
    · have e0 : (p.v == 0) = false := by simpa using hv
      have hv1 : 1 ≤ p.v ∧ p.v ≤ 1000 := by
        have h1 := (okP_iff.1 hok).1
        rw [partErr, if_pos hv] at h1
        by_cases h2 : p.v < 1 ∨ 1000 < p.v
        · rw [if_pos h2] at h1; cases h1
        · omega
      obtain ⟨⟨f, hMf, hBf⟩, hsz⟩ := HM.out
      have hlook := fun o1 o2 => (hMf.below (below2 w o1 o2)).look_ok (t := 142) Try.underlying142 (Try.zero28 _) (k := p.v) (by omega) (by omega)
      cases hlk : lookB bs p.v with
      | some u =>
        obtain ⟨a1, cap1, hf, hin1⟩ := (hBf p.v).2 u hlk
        have husz := hsz _ _ (lookB_mem hlk)
        have Hfin : Hid (growT p t bs = if sameT u t then some bs else none) := by show _ = _; rw [growT_eq, if_pos hv, hlk]
        rw [hf] at hlook
        have HS := hide (fun o1 o2 o3 => treeSame_any 1000 u t a1 cap1 ta tc (((w.alloc o1).alloc o2).alloc o3) husz husz (InP_imp (q := fun _ => True) (fun _ _ => trivial) (InP_below (below3 w o1 o2 o3) hin1)) (InP_imp (q := fun _ => True) (fun _ _ => trivial) (InP_below (below3 w o1 o2 o3) hin2)))
        clear hlk hf hin1 hv ih hM hok hMf hBf hsz
        go_enter Try.func100, Try.ntmps100
        go_wp2_with fail
        refine (HS.out _ _ _).mono ?_
        rintro e w1 ⟨rfl, hb1⟩
        have Hb1 := hide ((below3 w _ _ _).trans (hb1.mono (by simp; omega)))
        clear hb1 hlook
        go_wp2_with fail
        go_ret
        refine ⟨ret_bool (by rw [Hfin.out]; cases sameT u t <;> rfl), grown_of_below b Hb1.out, fun b2 h => ?_⟩
        rw [Hfin.out] at h
        cases hs : sameT u t with
        | true => rw [hs] at h; simp at h; rw [← h]; exact HM.out.below Hb1.out
        | false => rw [hs] at h; simp at h
      | none =>
        have hf := (hBf p.v).1 hlk
        have Hfin : Hid (growT p t bs = some (bs ++ [(p.v, t)])) := by show _ = _; rw [growT_eq, if_pos hv, hlk]
        have Hlk := hide hlk
        have Hin2 := hide (HM.out.notmap hin2)
        have HBf := hide hBf
        have Hsz := hide hsz
        rw [hf] at hlook
        clear hlk hf hv ih hM hok hBf hsz
        go_enter Try.func100, Try.ntmps100
        go_wp2_with (at_mapUpdate; refine wpList_store_map _ rfl _ _ _ 142 rfl 28 Try.underlying142 b bs.length f rfl (hMf.below (below3 _ _ _ _)) (by unfold maxLen; omega) p.v (.agg #[.int .i64 t.v, .int .i64 t.f, .slice ta t.args.length tc]) (by first | rfl | simp [go_sem]) (by first | rfl | simp [go_sem]) (by omega) (by omega) ?_; intro w2 hM2 hg2)
        go_ret
        have hgw : w.grownBy w2 (some b) := (grown_of_below b (below3 w _ _ _)).trans hg2
        refine ⟨ret_bool (by rw [Hfin.out]; rfl), hgw, fun b2 h => ?_⟩
        rw [Hfin.out] at h
        simp only [Option.some.injEq] at h
        subst h
        have hkeep : ∀ j, q j → j < w.heap.size → w2.heap[j]? = w.heap[j]? := fun j hj hl => hgw.block j hl (fun e => by cases e; exact hqb hj)
        refine ⟨⟨_, by rw [List.length_append]; exact hM2, fun v => ?_⟩, fun v u hm => ?_⟩
        · rw [lookB_snoc]
          by_cases ev : v = p.v
          · subst ev
            rw [Hlk.out]
            simp only [if_true]
            refine ⟨fun h => (by cases h), fun u hu => ?_⟩
            obtain rfl : t = u := by simpa using hu
            exact ⟨ta, tc, rfl, InP_same hkeep hin2⟩
          · simp only [if_neg ev]
            have ev2 : ¬ p.v = v := fun e => ev e.symm
            cases hl : lookB bs v with
            | none => simp only [if_neg ev2]; exact ⟨fun _ => (HBf.out v).1 hl, fun u hu => by cases hu⟩
            | some u =>
              refine ⟨fun h => (by cases h), fun u' hu' => ?_⟩
              obtain rfl : u = u' := by simpa using hu'
              obtain ⟨a5, c5, g1, g2⟩ := (HBf.out v).2 u hl
              exact ⟨a5, c5, g1, InP_same hkeep g2⟩
        · rcases List.mem_append.1 hm with hm | hm
          · exact Hsz.out v u hm
          · simp at hm; rw [hm.2]; exact ht

end Go.Proofs.Ytbkedppkdhfpoab

namespace Go.Proofs
open Go.Shelf
def Try.keysB_ren : Go.Shelf.Ren := ⟨fun | 7 => 120 | 10 => 142 | n => n, fun | 23 => 142 | 26 => 3 | 3 => 28 | 28 => 164 | 0 => 0 | 27 => 163 | 33 => 139 | 4 => 4 | n => n, fun | n => n⟩
theorem Try.keysB : Go.Proofs.SlLaysZI.n7 Try.prog Try.keysB_ren := {
  mixed := by kernel_rfl
  f7 := ⟨Try.f120.name, by decide, Try.func120.trans (congrArg some (by kernel_rfl))⟩
  f10 := ⟨Try.f142.name, by decide, Try.func142.trans (congrArg some (by kernel_rfl))⟩
  t0 := Try.underlying0
  a0 := Try.isAgg0
  z0 := Try.sizeOf0
  v0 := Try.zeroValue0
  t4 := Try.underlying4
  a4 := Try.isAgg4
  z4 := Try.sizeOf4
  v4 := Try.zeroValue4
  t23 := Try.underlying142
  a23 := Try.isAgg142
  z23 := Try.sizeOf142
  v23 := Try.zeroValue142
  t26 := Try.underlying3
  a26 := Try.isAgg3
  z26 := Try.sizeOf3
  v26 := Try.zeroValue3
  t27 := Try.underlying163
  a27 := Try.isAgg163
  z27 := Try.sizeOf163
  v27 := Try.zeroValue163
  t28 := Try.underlying164
  a28 := Try.isAgg164
  z28 := Try.sizeOf164
  v28 := Try.zeroValue164
  t33 := Try.underlying139
  a33 := Try.isAgg139
  z33 := Try.sizeOf139
  v33 := Try.zeroValue139 }
def Try.sortedB_ren : Go.Shelf.Ren := ⟨fun | 6 => 119 | 8 => 141 | 9 => 93 | 11 => 153 | 13 => 117 | 12 => 116 | 23 => 139 | 24 => 140 | 14 => 130 | 15 => 131 | 16 => 132 | 17 => 133 | 18 => 134 | 19 => 135 | 20 => 136 | 21 => 137 | 22 => 138 | 25 => 147 | 26 => 148 | 27 => 149 | 28 => 150 | 29 => 151 | 30 => 152 | 31 => 155 | n => n, fun | 26 => 3 | 28 => 164 | 24 => 22 | 0 => 0 | 3 => 3 | 37 => 160 | 48 => 183 | 50 => 185 | 4 => 4 | 40 => 175 | 39 => 174 | 45 => 180 | 5 => 5 | 9 => 9 | 51 => 189 | 55 => 193 | 57 => 197 | 58 => 198 | 33 => 139 | n => n, fun | n => n⟩
theorem Try.sortedB : Go.Proofs.SlLaysZI.n6 Try.prog Try.sortedB_ren := {
  mixed := by kernel_rfl
  f6 := ⟨Try.f119.name, by decide, Try.func119.trans (congrArg some (by kernel_rfl))⟩
  f8 := ⟨Try.f141.name, by decide, Try.func141.trans (congrArg some (by kernel_rfl))⟩
  f11 := ⟨Try.f153.name, by decide, Try.func153.trans (congrArg some (by kernel_rfl))⟩
  t0 := Try.underlying0
  a0 := Try.isAgg0
  z0 := Try.sizeOf0
  v0 := Try.zeroValue0
  t24 := Try.underlying22
  a24 := Try.isAgg22
  z24 := Try.sizeOf22
  v24 := Try.zeroValue22
  t26 := Try.underlying3
  a26 := Try.isAgg3
  z26 := Try.sizeOf3
  v26 := Try.zeroValue3
  t28 := Try.underlying164
  a28 := Try.isAgg164
  z28 := Try.sizeOf164
  v28 := Try.zeroValue164
  i26 := by kernel_rfl }
end Go.Proofs

namespace Go.Proofs.Ytbkedppkdhfpoab
open Go.RowKit Go.Maps Go.Sort Go.Shelf

theorem sorts_any (m : Nat) : AnyZI.SortsIn Try.prog Try.sortedB_ren Fence.wide m :=
  ⟨fun blk off cap ss W hH hblk hsz => callsIn_wide.2 (Go.Proofs.Try.slices_Sort_int blk off cap ss W hH hblk hsz),
   fun p cap W => callsIn_wide.2 (Go.Proofs.Try.slices_Sort_int_none p cap W)⟩

theorem keys_perm {w : World} {b n : Nat} {D : DataW Value} {f : Int → Option Value} (hD : w.ownsMap Try.prog 3 Rv b n D) (hf : ∀ k : Int, Maps.has D (.int .i64 k) = (f k).isSome ∧ ∀ v, f k = some v → ∀ z, D.atKey (.int .i64 k) z = .held v)
    {K : List Int} (hnd : K.Nodup) (hK : ∀ x, x ∈ K ↔ (f x).isSome = true) : K.Perm (intKeys D) :=
  CollectedI.perm (left := fun _ => false) ⟨hnd, fun x => by rw [hK x, (hf x).1]; simp⟩ hD Try.key3 Try.underlying3 (fun _ => rfl)

theorem keysB_any (mb : Option Nat) (w : World) : Calls Try.prog 120 #[.map mb] w fun e w' => e = .returned (.func (.func 142) #[] #[.pointer (some ⟨w.heap.size, 0, none⟩)]) ∧ w' = w.alloc (.cells #[.map mb] 142) :=
  (callsIn_wide (n := 5)).1 (AnyZI.keys_in Try.keysB Fence.wide 5 trivial rfl mb w)
/-- What slices.Sorted makes of an iterator over the keys K. -/
theorem sorted_of (g : Nat) (eg : ∀ args w, (callFunc g args).run Try.prog w = .ok (.enter g args) w) (Bm : Nat) (w : World) (K : List Int) (D : DataW Value) (N : Nat) (hN : N ≤ 100000) (hp : K.Perm (intKeys D))
    (hseq : SeqGives Fence.wide 2 Try.prog g #[.pointer (some ⟨Bm, 0, none⟩)] encZ (fun ss => ss.Perm (intKeys D)) N w) :
    Calls Try.prog 119 #[.func (.func g) #[] #[.pointer (some ⟨Bm, 0, none⟩)]] w fun e w' => ∃ v, e = .returned v ∧ OwnI w.heap.size w' v (K.mergeSort (fun x y => decide (x ≤ y))) ∧ Below w.heap.size w w' := by
  refine (callsIn_wide (n := 5)).1 ?_
  have cS := AnyZI.sorted_in Try.sortedB Fence.wide 5 trivial trivial trivial trivial rfl (by omega) (sorts_any _) (enters_of Try.func93 (by kernel_rfl) rfl) g #[.pointer (some ⟨Bm, 0, none⟩)] trivial eg _ N (by unfold maxLen; omega) (by omega) _ hseq
  change CallsIn _ _ Try.prog 119 _ _ _ at cS
  refine cS.mono ?_
  rintro e w' ⟨v, ss, rfl, hS, hrow, _, hb⟩
  have hpp : ss.Perm K := hS.trans hp.symm
  have e1 := mergeSort_of_perm_i hpp
  rw [show (fun x y : Int => decide (x ≤ y)) = leI from rfl, e1] at hrow
  have e2 : ss.length = (K.mergeSort leI).length := by rw [List.length_mergeSort, hpp.length_eq]
  rw [e2] at hrow
  exact ⟨v, rfl, hrow, hb⟩

theorem sortedB_any (b n : Nat) (f : Int → Option Value) (K : List Int) (hn : n ≤ 100000) (hnd : K.Nodup) (hK : ∀ x, x ∈ K ↔ (f x).isSome = true) (Bm : Nat) (w : World) (hM : MapAt w b n f) (hc : w.cell? ⟨Bm, 0, none⟩ = some (.map (some b))) :
    Calls Try.prog 119 #[.func (.func 142) #[] #[.pointer (some ⟨Bm, 0, none⟩)]] w fun e w' => ∃ v, e = .returned v ∧ OwnI w.heap.size w' v (K.mergeSort (fun x y => decide (x ≤ y))) ∧ Below w.heap.size w w' := by
  obtain ⟨D, hD, hf⟩ := hM
  have hsz := hD.size_le
  exact sorted_of 142 (enters_of Try.func142 (by kernel_rfl) rfl) Bm w K D (Maps.size D) (by omega) (keys_perm hD hf hnd hK)
    (AnyZI.keys_gives (ρ := Try.keysB_ren) { Try.keysB with } Fence.wide _ trivial rfl (by omega) Bm b n D w (lt_of_cell hc) hc hD)
end Go.Proofs.Ytbkedppkdhfpoab

namespace Go.Proofs.Ytbkedppkdhfpoab
open Go.RowKit

/-- Four cells a binding, and what lies behind it. -/
def KidsB (p : Nat → Prop) (w : World) : List (Int × T) → List Value → Prop
  | [], cs => cs = []
  | x :: bs, cs => ∃ a cap rest, cs = .int .i64 x.1 :: .int .i64 x.2.v :: .int .i64 x.2.f :: .slice a x.2.args.length cap :: rest ∧ InP p w x.2.args a ∧ KidsB p w bs rest
theorem KidsB_append {p : Nat → Prop} {w : World} {bs us : List (Int × T)} : ∀ {cs ds : List Value}, KidsB p w bs cs → KidsB p w us ds → KidsB p w (bs ++ us) (cs ++ ds) := by
  induction bs with
  | nil => intro cs ds h1 h2; rw [show cs = [] from h1]; exact h2
  | cons x bs ih =>
    intro cs ds h1 h2
    obtain ⟨a, cap, rest, rfl, h0, h⟩ := h1
    exact ⟨a, cap, rest ++ ds, rfl, h0, ih h h2⟩
theorem KidsB_mono {p q : Nat → Prop} {w w' : World} {bs : List (Int × T)} (hs : ∀ k, p k → k < w.heap.size → q k ∧ w'.heap[k]? = w.heap[k]?) : ∀ {cs : List Value}, KidsB p w bs cs → KidsB q w' bs cs := by
  induction bs with
  | nil => intro cs h; exact h
  | cons x bs ih =>
    intro cs h
    obtain ⟨a, cap, rest, rfl, h0, h⟩ := h
    exact ⟨a, cap, rest, rfl, InP_mono (fun b o v hp hv => ⟨(hs b hp (lt_of_cell hv)).1, by rw [World.cell?_of_block (w := w) (a := ⟨b, o, none⟩) (hs b hp (lt_of_cell hv)).2]; exact hv⟩) _ _ _ (Nat.le_refl _) h0, ih h⟩
theorem KidsB_in {p : Nat → Prop} {w : World} {g : Nat} (hpg : p g) {bs : List (Int × T)} : ∀ {off : Nat} {cs : List Value}, KidsB p w bs cs → (∀ j u, cs[j]? = some u → w.cell? ⟨g, off + j, none⟩ = some u) → Binds p w bs (some ⟨g, off, none⟩) := by
  induction bs with
  | nil => intro off cs _ _; trivial
  | cons x bs ih =>
    intro off cs h hc
    obtain ⟨a, cap, rest, rfl, h0, h⟩ := h
    refine ⟨g, off, a, cap, rfl, hpg, hc 0 _ rfl, hc 1 _ rfl, hc 2 _ rfl, hc 3 _ rfl, h0, ih h fun j u hu => ?_⟩
    rw [show off + 4 + j = off + (j + 4) from by omega]
    exact hc (j + 4) u (by simpa using hu)
/-- A list of the call's own that holds these bindings; nothing that lies behind them lies in the list's own block. -/
def OutsB (q : Nat → Prop) (base : Nat) (w : World) (l : Value) (bs : List (Int × T)) : Prop :=
  ∃ xs, w.ownsRow base 167 4 l bs.length xs ∧ KidsB (fun k => (q k ∨ base ≤ k) ∧ l.ownBlock ≠ some k) w bs xs
theorem OutsB_same {q : Nat → Prop} {base : Nat} {w w' : World} {l : Value} {bs : List (Int × T)} (h : OutsB q base w l bs) (hs : ∀ k, (q k ∨ base ≤ k) → k < w.heap.size → w'.heap[k]? = w.heap[k]?) : OutsB q base w' l bs := by
  obtain ⟨xs, h1, h2⟩ := h
  exact ⟨xs, own_same h1 (fun g hg => hs g (Or.inr (own_lt h1 g hg).1) (own_lt h1 g hg).2), KidsB_mono (fun k hk hlt => ⟨hk, hs k hk.1 hlt⟩) h2⟩
theorem OutsB_below {q : Nat → Prop} {base : Nat} {w w' : World} {l : Value} {bs : List (Int × T)} (h : OutsB q base w l bs) (hb : Below w.heap.size w w') : OutsB q base w' l bs := OutsB_same h (fun k _ hk => hb.block k hk)
theorem OutsB_step {q : Nat → Prop} {base : Nat} {w w' : World} {l : Value} {bs : List (Int × T)} {x : Int × T} {xs : List Value} {a : Option Addr} {cap g cap2 : Nat} (hk : KidsB (fun k => (q k ∨ base ≤ k) ∧ l.ownBlock ≠ some k) w bs xs)
    (hc : InP (fun k => (q k ∨ base ≤ k) ∧ l.ownBlock ≠ some k) w x.2.args a)
    (hown : w'.ownsRow base 167 4 (.slice (some ⟨g, 0, none⟩) (bs.length + 1) cap2) (bs.length + 1) (xs ++ [.int .i64 x.1, .int .i64 x.2.v, .int .i64 x.2.f, .slice a x.2.args.length cap])) (hg : w.grownBy w' l.ownBlock) (hat : l.ownBlock = some g ∨ g = w.heap.size) :
    OutsB q base w' (.slice (some ⟨g, 0, none⟩) (bs.length + 1) cap2) (bs ++ [x]) := by
  refine ⟨_, by rw [List.length_append]; exact hown, KidsB_mono (p := fun k => (q k ∨ base ≤ k) ∧ l.ownBlock ≠ some k) (w := w) (fun k hp hlt => ⟨⟨hp.1, ?_⟩, hg.block k hlt (fun e => hp.2 e.symm)⟩) (KidsB_append hk ⟨a, cap, [], rfl, hc, rfl⟩)⟩
  rcases hat with hat | hat
  · rw [show (Value.slice (some ⟨g, 0, none⟩) (bs.length + 1) cap2).ownBlock = some g from rfl, ← hat]; exact hp.2
  · show some g ≠ some k
    intro e; cases e; omega
theorem own_cellsN {w : World} {base n : Nat} {e : TypeId} {sz : Nat} {v : Value} {xs : List Value} (h : w.ownsRow base e sz v n xs) (hn : 0 < n) : ∃ g cap, v = .slice (some ⟨g, 0, none⟩) n cap ∧ base ≤ g ∧ g < w.heap.size ∧ ∀ j u, xs[j]? = some u → w.cell? ⟨g, j, none⟩ = some u := by
  rcases h.2 with ⟨_, h0⟩ | ⟨g, cap, cur, rfl, hb, hg, hc, hm, hs, ht⟩
  · omega
  refine ⟨g, cap, rfl, hb, ?_, fun j u hu => ?_⟩
  · rcases Nat.lt_or_ge g w.heap.size with h | h
    · exact h
    · rw [Array.getElem?_eq_none h] at hg; cases hg
  · have hj : j < xs.length := by
      rcases Nat.lt_or_ge j xs.length with h | h
      · exact h
      · rw [List.getElem?_eq_none h] at hu; cases hu
    have e1 : cur[j]? = some u := by
      have h2 : (cur.toList.take (n * sz))[j]? = some u := by rw [ht]; exact hu
      rw [List.getElem?_take_of_lt (by have := h.1; omega)] at h2
      simpa using h2
    simp [World.cell?, hg, e1]
theorem OutsB_end {q : Nat → Prop} {base : Nat} {w : World} {l : Value} {bs : List (Int × T)} (h : OutsB q base w l bs) : ∃ a cap, l = .slice a bs.length cap ∧ Binds (fun k => q k ∨ base ≤ k) w bs a := by
  obtain ⟨xs, h1, h2⟩ := h
  by_cases h0 : 0 < bs.length
  · obtain ⟨g, cap, rfl, hb, hlt, hcell⟩ := own_cellsN h1 h0
    exact ⟨_, cap, rfl, KidsB_in (Or.inr hb) (KidsB_mono (fun k hk _ => ⟨hk.1, rfl⟩) h2) (fun j u hu => by rw [Nat.zero_add]; exact hcell j u hu)⟩
  · obtain ⟨a, c, rfl⟩ := own_shape h1
    have : bs = [] := List.length_eq_zero_iff.1 (by omega)
    subst this
    exact ⟨a, c, rfl, trivial⟩

theorem Try.info167 : (Try.prog.info? 167).map (fun i => (i.zero, i.size, i.bytes)) = some (some (.agg #[.int .i64 0, .int .i64 0, .int .i64 0, .slice none 0 0]), 4, 48) := by kernel_rfl
def row4 (n : Nat) : Array Value := madeCells #[.int .i64 0, .int .i64 0, .int .i64 0, .slice none 0 0] (n * 4)
theorem run_make4 (n : Nat) (hn : n ≤ 1000000) (w : World) : (Instr.makeSlice 98 (.int .i64 0) (.int .i64 (n : Int))).run Try.prog w = .ok (.slice (some ⟨w.heap.size, 0, none⟩) 0 n) (w.alloc (.cells (row4 n) 167)) := by
  obtain ⟨i, hi, hzz⟩ := Option.map_eq_some_iff.1 Try.info167
  simp only [Prod.mk.injEq] at hzz
  obtain ⟨hz, hs, hb⟩ := hzz
  have hr := run_make (P := Try.prog) w 98 167 i _ Try.underlying98 hi hz .i64 .i64 0 n (by omega) (by omega) (by rw [hb]; omega) (by omega)
  simp only [Int.toNat_natCast, hs, Int.toNat_zero] at hr
  exact hr
theorem OutsB_made {q : Nat → Prop} {base n : Nat} {w : World} (hb : base ≤ w.heap.size) (hn : n ≤ 1000000) : OutsB q base (w.alloc (.cells (row4 n) 167)) (.slice (some ⟨w.heap.size, 0, none⟩) 0 n) [] :=
  ⟨[], ⟨rfl, Or.inr ⟨w.heap.size, n, row4 n, rfl, hb, heap_alloc_new w _, Nat.zero_le _, by unfold maxLen; omega, by rw [row4, size_madeCells], by simp⟩⟩, rfl⟩
theorem four_new {w : World} {v a b : Int} {s : Value} {e : TypeId} {n : Nat} (hn : n = w.heap.size) : ∀ (j : Nat) (u : Value), [Value.int .i64 v, .int .i64 a, .int .i64 b, s][j]? = some u →
    (w.alloc (.cells #[.int .i64 v, .int .i64 a, .int .i64 b, s] e)).cell? ((⟨n, 0, none⟩ : Addr).add j) = some u := by
  intro j u hu
  have e1 : (⟨n, 0, none⟩ : Addr).add j = ⟨n, j, none⟩ := by simp [Addr.add]; omega
  rw [e1, cell_new j hn]
  simpa using hu

end Go.Proofs.Ytbkedppkdhfpoab

namespace Go.Proofs.Ytbkedppkdhfpoab
open Go.RowKit Go.Maps

/-- The variables, sorted. -/
def keysB (bs : List (Int × T)) : List Int := (bs.map (·.1)).mergeSort (fun x y => decide (x ≤ y))
/-- The bindings, sorted by variables. -/
def sortB (bs : List (Int × T)) : List (Int × T) := (keysB bs).map (fun v => (v, (lookB bs v).getD zeroT))
theorem keysB_length (bs : List (Int × T)) : (keysB bs).length = bs.length := by rw [keysB, List.length_mergeSort, List.length_map]
theorem sortB_length (bs : List (Int × T)) : (sortB bs).length = bs.length := by rw [sortB, List.length_map, keysB_length]
theorem lookB_isSome {bs : List (Int × T)} {v : Int} : v ∈ bs.map (·.1) ↔ (lookB bs v).isSome = true := by
  induction bs with
  | nil => simp [lookB]
  | cons x bs ih =>
    obtain ⟨w, u⟩ := x
    rw [List.map_cons, List.mem_cons, lookB]
    by_cases h : w = v
    · rw [if_pos h]; simp [h]
    · rw [if_neg h, ← ih]
      constructor
      · rintro (e | e)
        · exact absurd e.symm h
        · exact e
      · exact Or.inr
theorem once_nodup {bs : List (Int × T)} (h : Once bs) : (bs.map (·.1)).Nodup := by
  rw [List.nodup_iff_pairwise_ne, List.pairwise_iff_getElem]
  intro i j hi hj hij e
  rw [List.length_map] at hi hj
  simp only [List.getElem_map] at e
  have := h i j bs[i] bs[j] (List.getElem?_eq_getElem hi) (List.getElem?_eq_getElem hj) e
  omega
theorem keysB_at {bs : List (Int × T)} {k : Nat} {v : Int} (h : (keysB bs)[k]? = some v) : ∃ u, lookB bs v = some u ∧ (sortB bs)[k]? = some (v, u) := by
  have hm := List.mem_of_getElem? h
  rw [keysB, List.mem_mergeSort] at hm
  obtain ⟨u, hu⟩ := Option.isSome_iff_exists.1 (lookB_isSome.1 hm)
  exact ⟨u, hu, by rw [sortB, List.getElem?_map, h]; simp [hu]⟩

set_option maxRecDepth 100000 in
set_option maxHeartbeats 2000000 in
theorem bindingsP_any (q : Nat → Prop) (b : Nat) (bs : List (Int × T)) (w : World) (ho : Once bs) (hl : bs.length ≤ 1000) (hr : ∀ x, x ∈ bs → 1 ≤ x.1 ∧ x.1 ≤ 1000) (hM : MB q b bs w) :
    Calls Try.prog 101 #[.map (some b)] w fun e w' => ∃ a cap, e = .returned (.slice a bs.length cap) ∧ Binds (fun k => w.heap.size ≤ k) w' (sortB bs) a ∧ Below w.heap.size w w' := by
  obtain ⟨⟨f, hMf, hBf⟩, hsz⟩ := hM
  have HK := hide (show ∀ x, x ∈ bs.map (·.1) ↔ (f x).isSome = true from fun x => by
    rw [lookB_isSome]
    cases h : lookB bs x with
    | none => rw [(hBf x).1 h]; simp
    | some u => obtain ⟨a, cap, hf, _⟩ := (hBf x).2 u h; rw [hf]; simp)
  have hlen : ∀ ty, (Builtin.len_ #[142] ty #[.map (some b)]).run Try.prog w = .ok (.int .i64 (bs.length : Nat)) w := fun ty => by
    obtain ⟨D, hD, hf⟩ := hMf
    have hp := keys_perm hD hf (once_nodup ho) HK.out
    have e1 : Maps.size D = bs.length := by
      have h1 := hp.length_eq
      rw [List.length_map] at h1
      rw [h1]
      obtain ⟨es, rfl⟩ := hD.isMap
      simp [intKeys, Maps.size]
    rw [hD.len Try.underlying142 ty, e1]
  have hmk := run_make4 bs.length (by omega)
  have HM := hide hMf
  have HB := hide hBf
  have Hsz := hide hsz
  have Ho := hide ho
  have Hr := hide hr
  obtain ⟨ti, hi, hzz⟩ := Option.map_eq_some_iff.1 Try.info167
  simp only [Prod.mk.injEq] at hzz
  obtain ⟨hz0, hz1, hz2⟩ := hzz
  clear hMf hBf hsz ho hr
  go_enter Try.func101, Try.ntmps101
  go_wp2_with (first
    | (go_at_call 120; refine (keysB_any _ _).mono ?_; rintro e w' ⟨rfl, rfl⟩)
    | (go_at_call 119; refine (sortedB_any b bs.length f (bs.map (·.1)) (by omega) (once_nodup Ho.out) HK.out _ _ (HM.out.below (below2 _ _ _)) (by rw [cell_new 0 (by simp)]; rfl)).mono ?_; rintro e w1 ⟨v1, rfl, hown1, hb1⟩; obtain ⟨va, vc, rfl, hints1, _⟩ := own_ints hown1))
  have hz1' : w.heap.size + 2 ≤ w1.heap.size := by have := hb1.size; simp at this; omega
  have Hbw1 : Hid (Below w.heap.size w w1) := (below2 _ _ _).trans (hb1.mono (by simp; omega))
  have Hl0 : Hid (OutsB (fun _ => False) w.heap.size w1 (.slice (some ⟨w.heap.size, 0, none⟩) 0 bs.length) []) := OutsB_below (OutsB_below (OutsB_made (Nat.le_refl _) (by omega)) (below1 _ _)) hb1
  have Hkeys : Hid (∀ (k : Nat) (v : Int), (keysB bs)[k]? = some v → ∃ b1 off1, va = some ⟨b1, off1, none⟩ ∧ b1 ≠ w.heap.size ∧ b1 < w1.heap.size ∧ w1.cell? ⟨b1, off1 + k, none⟩ = some (.int .i64 v)) := fun k v hv => by
    have hlt : k < (keysB bs).length := by
      rcases Nat.lt_or_ge k (keysB bs).length with h | h
      · exact h
      · rw [List.getElem?_eq_none h] at hv; cases hv
    have hpos : 0 < (keysB bs).length := by omega
    obtain ⟨b1, off1, rfl, hc⟩ := Ints_some hints1 hpos
    have h1 := hc k hlt
    rw [List.getD_eq_getElem?_getD, show ((bs.map (·.1)).mergeSort (fun x y => decide (x ≤ y)))[k]? = some v from hv] at h1
    have h2 := own_lt hown1 b1 rfl
    simp at h2
    exact ⟨b1, off1, rfl, by omega, lt_of_cell h1, h1⟩
  clear hb1 hown1 hints1 hlen hmk
  go_wp2_with fail
  go_loopw [3, 13] (fun l i wr => ∃ k : Nat, k ≤ bs.length ∧ i = .int .i64 k ∧ OutsB (fun _ => False) w.heap.size wr l ((sortB bs).take k) ∧ Grw w1 wr (some w.heap.size) l.ownBlock) (fun _ i _ => bs.length - (intOf i).toNat)
  case atStart => exact ⟨0, Nat.zero_le _, rfl, Hl0.out, Grw.refl _ _⟩
  case round =>
    obtain ⟨k, hk, rfl, hout, hgrw⟩ := hrel
    have Hout := hide hout
    have Hgrw := hide hgrw
    have hzr := hgrw.gr.size
    clear hout hgrw
    have HbR : Hid (Below w.heap.size w wr) := Hbw1.out.trans (Hgrw.out.below (by omega) (fun g hg => by cases hg; exact Nat.le_refl _))
    by_cases hlt : k < bs.length
    · obtain ⟨v, hv⟩ : ∃ v, (keysB bs)[k]? = some v := ⟨(keysB bs)[k]'(by rw [keysB_length]; exact hlt), List.getElem?_eq_getElem _⟩
      obtain ⟨u, hlk, hst⟩ := keysB_at hv
      obtain ⟨b1, off1, rfl, hb1n, hb1l, hc1⟩ := Hkeys.out k v hv
      have hcr : wr.cell? ⟨b1, off1 + k, none⟩ = some (.int .i64 v) := by
        rw [World.cell?_of_block (w := w1) (a := ⟨b1, off1 + k, none⟩) (Hgrw.out.gr.block b1 hb1l (fun e => hb1n (by cases e; rfl)))]; exact hc1
      obtain ⟨a1, cap1, hf, hin1⟩ := (HB.out v).2 u hlk
      have husz := Hsz.out _ _ (lookB_mem hlk)
      have hvr := Hr.out _ (lookB_mem hlk)
      have hvr1 : 1 ≤ v := hvr.1
      have hvr2 : v ≤ 1000 := hvr.2
      have hlook := (HM.out.below HbR.out).look (t := 142) Try.underlying142 (Try.zero28 _) (k := v) (by omega) (by omega)
      rw [hf] at hlook
      have HT1 := hide (show (sortB bs).take (k + 1) = (sortB bs).take k ++ [(v, u)] by rw [List.take_add_one, hst]; rfl)
      have Htk : Hid (((sortB bs).take k).length = k) := by show _ = _; rw [List.length_take, sortB_length]; omega
      have HC := hide (copyOf_any (u.sz + 1) u a1 cap1 wr (by omega) husz (InP_imp (q := fun _ => True) (fun _ _ => trivial) (InP_below HbR.out hin1)))
      have hkI : (k : Int) < bs.length := by omega
      have hk0 : (0 : Int) ≤ k := by omega
      clear hv hlk hst hc1 hf hin1 hvr Hkeys
      go_wp2_with (first
        | (go_at_call 68
           refine HC.out.mono ?_
           rintro e w2 ⟨s, Bc, rfl, hown, _, hrg, hb2⟩
           obtain ⟨a2, cap2, rfl, hin2⟩ := In_iff.1 (Own_inP hown)
           have hzw2 := hb2.size
           have Hout2 := hide (OutsB_below Hout.out hb2)
           obtain ⟨xs, hownL, hkids⟩ := Hout2.out
           have HO := hide (fun o1 => own_same hownL (w' := w2.alloc o1) (fun g hg => (below1 w2 o1).block g (own_lt hownL g hg).2))
           have HCi : Hid (InP (fun k' => (False ∨ w.heap.size ≤ k') ∧ u3.ownBlock ≠ some k') w2 u.args a2) := InP_imp (fun k' hk' => by
             have h8 := (hrg k' hk').1
             refine ⟨Or.inr (by omega), fun e => ?_⟩
             obtain ⟨xs0, h0, _⟩ := Hout.out
             have := (own_lt h0 k' e).2
             omega) hin2
           have Hg2 := hide (Hgrw.out.trans (Grw.of_below _ hb2))
           clear hown hrg hin2 hb2)
        | (at_builtin
           go_must (refine wpList_append_lies _ rfl (.tmp 17) (.tmp 24) 98 rfl w.heap.size 167 ti (.agg #[.int .i64 0, .int .i64 0, .int .i64 0, .slice none 0 0]) 4 48 Try.underlying98 hi hz0 hz1 hz2 rfl (by decide) u3 ((sortB bs).take k).length xs rfl (HO.out _) ⟨w2.heap.size, 0, none⟩ 1 1 [.int .i64 v, .int .i64 u.v, .int .i64 u.f, .slice a2 u.args.length cap2] rfl rfl (four_new (by first | rfl | simp)) (by simp [Value.oneCell']) (by decide) (by have := Htk.out; unfold maxLen; omega) (by have := Htk.out; omega) (by simp; omega) _ rfl ?_)
           intro g capg w3 hown3 hgr3 hat3 hlt3))
      have hO3 := OutsB_step (x := (v, u)) (KidsB_mono (fun k' hk' hlt' => ⟨hk', (below1 w2 _).block k' hlt'⟩) hkids) (InP_alloc _ HCi.out) hown3 hgr3 (hat3.imp id (fun h => by rw [h]))
      have hG3 : Grw w1 w3 (some w.heap.size) (Value.slice (some ⟨g, 0, none⟩) (((sortB bs).take k).length + 1) capg).ownBlock := Hg2.out.trans ((Grw.of_below _ (below1 _ _)).trans ⟨hgr3, by
        rcases hat3 with h | h
        · exact Or.inl h.symm
        · exact Or.inr ⟨g, rfl, by rw [h]; simp⟩⟩)
      rw [← HT1.out, Htk.out] at hO3
      rw [Htk.out] at hG3
      have hmin : min k (sortB bs).length = k := by rw [sortB_length]; omega
      go_roundw
      case rel => exact ⟨k + 1, by omega, by go_num, by rw [hmin]; exact hO3, by rw [hmin]; exact hG3⟩
      case measure => simp [intOf]; omega
    · have hk2 : k = (sortB bs).length := by rw [sortB_length]; omega
      rw [hk2, List.take_length] at Hout
      obtain ⟨la, lc, rfl, hinL⟩ := OutsB_end Hout.out
      rw [sortB_length] at hk2
      subst hk2
      have HinL := hide hinL
      rw [sortB_length]
      clear hinL Hout
      go_wp2_with fail
      go_ret
      exact ⟨la, lc, rfl, Binds_imp (fun k' hk' => by rcases hk' with h | h; exact h.elim; exact h) HinL.out, HbR.out⟩

end Go.Proofs.Ytbkedppkdhfpoab

namespace Go.Proofs.Ytbkedppkdhfpoab
open Go.RowKit Go.Maps

set_option maxRecDepth 100000 in
set_option maxHeartbeats 400000 in
theorem subCheck_any (ar : List Int) (ga : Option Addr) (gcap : Nat) (t : T) (a : Option Addr) (cap : Nat) (u : T) (a2 : Option Addr) (cap2 : Nat) (w : World) (hg : Ints w ar ga) (hin : InL w t.args a) (hin2 : InL w u.args a2) :
    Calls Try.prog 99 #[.agg #[.slice ga ar.length gcap], .agg #[.int .i64 t.v, .int .i64 t.f, .slice a t.args.length cap], .agg #[.int .i64 u.v, .int .i64 u.f, .slice a2 u.args.length cap2]] w fun e w' =>
      e = .returned (.int .i64 (allErr ar [t, u])) ∧ Below w.heap.size w w' := by
  have H1 := hide (fun o1 o2 o3 => Check_any ar ga gcap t a cap (((w.alloc o1).alloc o2).alloc o3) (Ints_alloc o3 (Ints_alloc o2 (Ints_alloc o1 hg))) (InP_alloc o3 (InP_alloc o2 (InP_alloc o1 hin))))
  have Hp := hide (allErr_pair ar t u)
  go_enter Try.func99, Try.ntmps99
  go_wp2_with fail
  refine (H1.out _ _ _).mono ?_
  rintro e w1 ⟨rfl, hb1⟩
  have hz1 : w.heap.size + 3 ≤ w1.heap.size := by have := hb1.size; simp at this; omega
  have hbw : Below w.heap.size w w1 := (((below1 _ _).alloc (by simp) _).alloc (by simp; omega) _).trans (hb1.mono (by simp; omega))
  have cg : w1.cell? ⟨w.heap.size, 0, none⟩ = some (.slice ga ar.length gcap) := by
    rw [hb1.cell (p := ⟨w.heap.size, 0, none⟩) (by simp; omega), cell_alloc_lt (by simp; omega), cell_alloc_lt (by simp), cell_new _ rfl]; rfl
  have h3u : Three w1 (w.heap.size + 1 + 1) (.int .i64 u.v) (.int .i64 u.f) (.slice a2 u.args.length cap2) := (Three.new _ (by simp)).below hb1
  obtain ⟨d0, d1, d2, _, _, _⟩ := h3u
  have H2 := hide (Check_any ar ga gcap u a2 cap2 w1 (Ints_below hbw hg) (InP_below hbw hin2))
  clear hb1
  by_cases h : allErr ar [t] = 0
  · have He : Hid (allErr ar [t, u] = allErr ar [u]) := by show _ = _; rw [Hp.out, if_pos h]
    rw [h]
    clear h
    go_wp2_with fail
    refine H2.out.mono ?_
    rintro e w2 ⟨rfl, hb2⟩
    go_wp2_with fail
    go_ret
    exact ⟨ret_int He.out.symm, hbw.trans (hb2.mono (by omega))⟩
  · have hb : (allErr ar [t] != 0) = true := by simpa using h
    have He : Hid (allErr ar [t, u] = allErr ar [t]) := by show _ = _; rw [Hp.out, if_neg h]
    clear h
    go_wp2_with fail
    go_ret
    exact ⟨ret_int He.out.symm, hbw⟩

theorem once_snoc {bs : List (Int × T)} {v : Int} {t : T} (h : Once bs) (hn : lookB bs v = none) : Once (bs ++ [(v, t)]) := by
  have hv : ∀ (i : Nat) (x : Int × T), bs[i]? = some x → x.1 ≠ v := fun i x hx e => by
    have hm : v ∈ bs.map (·.1) := List.mem_map.2 ⟨x, List.mem_of_getElem? hx, e⟩
    rw [lookB_isSome, hn] at hm
    cases hm
  have cs : ∀ (i : Nat) (x : Int × T), (bs ++ [(v, t)])[i]? = some x → bs[i]? = some x ∨ (i = bs.length ∧ x = (v, t)) := fun i x hx => by
    rcases Nat.lt_or_ge i bs.length with h1 | h1
    · rw [List.getElem?_append_left h1] at hx; exact Or.inl hx
    · rw [List.getElem?_append_right h1] at hx
      have h2 : i - bs.length = 0 := by
        rcases Nat.lt_or_ge (i - bs.length) 1 with h3 | h3
        · omega
        · rw [List.getElem?_eq_none (by simpa using h3)] at hx; cases hx
      rw [h2] at hx
      exact Or.inr ⟨by omega, by simpa using hx.symm⟩
  intro i j x y hx hy e
  rcases cs i x hx with h1 | ⟨h1, rfl⟩ <;> rcases cs j y hy with h2 | ⟨h2, rfl⟩
  · exact h i j x y h1 h2 e
  · exact absurd e (hv i x h1)
  · exact absurd e.symm (hv j y h2)
  · omega
/-- What growing keeps. -/
theorem grow_keeps {ar : List Int} : ∀ (n : Nat), (∀ (p t : T) (bs b2 : List (Int × T)), p.sz ≤ n → okP ar p → growT p t bs = some b2 → (Once bs ∧ ∀ x, x ∈ bs → 1 ≤ x.1 ∧ x.1 ≤ 1000) → (Once b2 ∧ ∀ x, x ∈ b2 → 1 ≤ x.1 ∧ x.1 ≤ 1000)) ∧
    (∀ (ps ts : List T) (bs b2 : List (Int × T)), T.sz.szL ps ≤ n → okP.okL ar ps → growT.growL ps ts bs = some b2 → (Once bs ∧ ∀ x, x ∈ bs → 1 ≤ x.1 ∧ x.1 ≤ 1000) → (Once b2 ∧ ∀ x, x ∈ b2 → 1 ≤ x.1 ∧ x.1 ≤ 1000)) := by
  intro n
  induction n with
  | zero =>
    refine ⟨fun p t bs b2 h => by have := p.sz_pos; omega, fun ps ts bs b2 h _ hg hk => ?_⟩
    cases ps with
    | nil =>
      cases ts with
      | nil => simp [growT.growL] at hg; rw [← hg]; exact hk
      | cons t ts => cases hg
    | cons p ps => have := p.sz_pos; rw [T.szL_cons] at h; omega
  | succ n ih =>
    have h1 : ∀ (p t : T) (bs b2 : List (Int × T)), p.sz ≤ n + 1 → okP ar p → growT p t bs = some b2 → (Once bs ∧ ∀ x, x ∈ bs → 1 ≤ x.1 ∧ x.1 ≤ 1000) → (Once b2 ∧ ∀ x, x ∈ b2 → 1 ≤ x.1 ∧ x.1 ≤ 1000) := fun p t bs b2 h hok hg hk => by
      have hpe := T.sz_eq p
      rw [growT_eq] at hg
      by_cases hv : p.v ≠ 0
      · rw [if_pos hv] at hg
        cases hl : lookB bs p.v with
        | some u =>
          rw [hl] at hg
          by_cases hs : sameT u t = true
          · simp only [hs, if_true, Option.some.injEq] at hg
            rw [← hg]; exact hk
          · simp [hs] at hg
        | none =>
          rw [hl] at hg
          simp only [Option.some.injEq] at hg
          have hv1 : 1 ≤ p.v ∧ p.v ≤ 1000 := by
            have h1 := (okP_iff.1 hok).1
            rw [partErr, if_pos hv] at h1
            by_cases h2 : p.v < 1 ∨ 1000 < p.v
            · rw [if_pos h2] at h1; cases h1
            · omega
          rw [← hg]
          refine ⟨once_snoc hk.1 hl, fun x hx => ?_⟩
          rcases List.mem_append.1 hx with hx | hx
          · exact hk.2 x hx
          · simp at hx; rw [hx]; exact hv1
      · rw [if_neg hv] at hg
        by_cases hc : t.v ≠ 0 ∨ p.f ≠ t.f
        · rw [if_pos hc] at hg; cases hg
        · rw [if_neg hc] at hg
          exact ih.2 p.args t.args bs b2 (by omega) (okP_iff.1 hok).2 hg hk
    refine ⟨h1, fun ps => ?_⟩
    induction ps with
    | nil =>
      intro ts bs b2 _ _ hg hk
      cases ts with
      | nil => simp [growT.growL] at hg; rw [← hg]; exact hk
      | cons t ts => cases hg
    | cons p ps iht =>
      intro ts bs b2 h hok hg hk
      rw [T.szL_cons] at h
      cases ts with
      | nil => cases hg
      | cons t ts =>
        rw [growL_cons] at hg
        cases hgt : growT p t bs with
        | none => rw [hgt] at hg; cases hg
        | some b3 =>
          rw [hgt] at hg
          exact iht ts b3 b2 (by omega) (okL_cons.1 hok).2 hg (h1 p t bs b3 (by omega) (okL_cons.1 hok).1 hgt hk)

/-- What Match answers. -/
def matchSpec (ar : List Int) (p t : T) : List (Int × T) × Bool × Int :=
  if allErr ar [p, t] = 0 then (match growT p t [] with | some bs => (sortB bs, true, 0) | none => ([], false, 0)) else ([], false, allErr ar [p, t])
/-- Bindings, a yes or no, and an error handed back. -/
def GivesB (x : List (Int × T) × Bool × Int) (base : Nat) (e : Ending) (w' : World) : Prop :=
  ∃ a cap, e = .returned (.tuple #[.slice a x.1.length cap, .bool x.2.1, .int .i64 x.2.2]) ∧ Binds (fun k => base ≤ k) w' x.1 a

set_option maxRecDepth 100000 in
set_option maxHeartbeats 1000000 in
theorem Match_any (ar : List Int) (ga : Option Addr) (gcap : Nat) (s : T) (sa : Option Addr) (sc : Nat) (t : T) (ta : Option Addr) (tc : Nat) (w : World) (hg : Ints w ar ga) (hin : InL w s.args sa) (hin2 : InL w t.args ta) :
    Calls Try.prog 67 #[.agg #[.slice ga ar.length gcap], .agg #[.int .i64 s.v, .int .i64 s.f, .slice sa s.args.length sc], .agg #[.int .i64 t.v, .int .i64 t.f, .slice ta t.args.length tc]] w fun e w' => GivesB (matchSpec ar s t) w.heap.size e w' ∧ Below w.heap.size w w' := by
  have H1 := hide (fun o1 o2 o3 => subCheck_any ar ga gcap s sa sc t ta tc (((w.alloc o1).alloc o2).alloc o3) (Ints_alloc o3 (Ints_alloc o2 (Ints_alloc o1 hg))) (InP_alloc o3 (InP_alloc o2 (InP_alloc o1 hin))) (InP_alloc o3 (InP_alloc o2 (InP_alloc o1 hin2))))
  have hmm := @run_makeMap Try.prog
  obtain ⟨E, hE⟩ : ∃ E, E = allErr ar [s, t] := ⟨_, rfl⟩
  rw [← hE] at H1
  have HE := hide hE
  clear hE
  go_enter Try.func67, Try.ntmps67
  go_wp2_with fail
  refine (H1.out _ _ _).mono ?_
  rintro e w1 ⟨rfl, hb1⟩
  have hz1 : w.heap.size + 3 ≤ w1.heap.size := by have := hb1.size; simp at this; omega
  have hbw : Below w.heap.size w w1 := (((below1 _ _).alloc (by simp) _).alloc (by simp; omega) _).trans (hb1.mono (by simp; omega))
  have h3s : Three w1 (w.heap.size + 1) (.int .i64 s.v) (.int .i64 s.f) (.slice sa s.args.length sc) := ((Three.new _ (by simp)).alloc _).below hb1
  have h3t : Three w1 (w.heap.size + 1 + 1) (.int .i64 t.v) (.int .i64 t.f) (.slice ta t.args.length tc) := (Three.new _ (by simp)).below hb1
  obtain ⟨c0, c1, c2, _, _, _⟩ := h3s
  obtain ⟨d0, d1, d2, _, _, _⟩ := h3t
  clear hb1
  by_cases h : E = 0
  · obtain ⟨k1, k2, k3, k4⟩ := ok_two (HE.out.symm.trans h)
    have Hsp : Hid (matchSpec ar s t = match growT s t [] with | some bs => (sortB bs, true, 0) | none => ([], false, 0)) := by show _ = _; rw [matchSpec, if_pos (HE.out.symm.trans h)]
    have hM0 : MB (fun k => k < w1.heap.size) w1.heap.size [] (w1.alloc (.map #[] 0)) := ⟨⟨fun _ => none, MapAt.made w1, fun v => ⟨fun _ => rfl, fun u hu => by cases hu⟩⟩, fun v u hm => by cases hm⟩
    have H2 := hide (match_any ar (fun k => k < w1.heap.size) w1.heap.size (by omega) s.sz s t sa sc ta tc [] (w1.alloc (.map #[] 0)) (Nat.le_refl _) (by simp; omega) k2 (by omega) hM0 (InP_alloc _ (InP_below hbw hin)) (InP_alloc _ (InP_imp (fun _ hk => hk.2) (InP_lt (InP_below hbw hin2)))))
    have Hk := hide (fun bs => (grow_keeps (ar := ar) s.sz).1 s t [] bs (Nat.le_refl _) k2)
    have Hs := hide (fun bs => (grow_size s.sz).1 s t [] bs (Nat.le_refl _))
    have hzA : w.heap.size + 1 < w1.heap.size := by omega
    have hzB : w.heap.size + 1 + 1 < w1.heap.size := by omega
    have m0 : (w1.alloc (.map #[] 0)).cell? ⟨w.heap.size + 1, 0, none⟩ = some (.int .i64 s.v) := by rw [cell_alloc_lt hzA]; exact c0
    have m1 : (w1.alloc (.map #[] 0)).cell? ⟨w.heap.size + 1, 1, none⟩ = some (.int .i64 s.f) := by rw [cell_alloc_lt hzA]; exact c1
    have m2 : (w1.alloc (.map #[] 0)).cell? ⟨w.heap.size + 1, 2, none⟩ = some (.slice sa s.args.length sc) := by rw [cell_alloc_lt hzA]; exact c2
    have n0 : (w1.alloc (.map #[] 0)).cell? ⟨w.heap.size + 1 + 1, 0, none⟩ = some (.int .i64 t.v) := by rw [cell_alloc_lt hzB]; exact d0
    have n1 : (w1.alloc (.map #[] 0)).cell? ⟨w.heap.size + 1 + 1, 1, none⟩ = some (.int .i64 t.f) := by rw [cell_alloc_lt hzB]; exact d1
    have n2 : (w1.alloc (.map #[] 0)).cell? ⟨w.heap.size + 1 + 1, 2, none⟩ = some (.slice ta t.args.length tc) := by rw [cell_alloc_lt hzB]; exact d2
    subst h
    clear k2 k4 hM0
    go_wp2_with fail
    refine H2.out.mono ?_
    rintro e w2 ⟨rfl, hg2, hM2⟩
    have hzg := hg2.size
    rw [World.size_alloc] at hzg
    have Hb2 : Hid (Below w.heap.size w w2) := (hbw.alloc (by omega) _).grown hg2 (by rw [World.size_alloc]; omega) (fun j hj => by cases hj; omega)
    have HM2 := hide hM2
    clear hg2 hM2 hmm H2
    cases hgt : growT s t [] with
    | none =>
      have Hsp2 : Hid (matchSpec ar s t = ([], false, 0)) := by show _ = _; rw [Hsp.out, hgt]
      simp only [Option.isSome_none]
      clear hgt Hsp Hk Hs HM2
      go_wp2_with fail
      go_ret3
      exact ⟨by rw [Hsp2.out]; exact ⟨none, 0, rfl, trivial⟩, Hb2.out⟩
    | some bs =>
      have Hsp2 : Hid (matchSpec ar s t = (sortB bs, true, 0)) := by show _ = _; rw [Hsp.out, hgt]
      have hkk := Hk.out bs hgt ⟨fun i j x y hx => by simp at hx, fun x hx => by cases hx⟩
      have hss := Hs.out bs hgt
      have hbl : bs.length ≤ 1000 := by simp at hss; omega
      have H3 := hide (bindingsP_any _ w1.heap.size bs w2 hkk.1 hbl hkk.2 (HM2.out bs hgt))
      simp only [Option.isSome_some]
      clear hgt Hsp Hk Hs HM2 hkk hss
      go_wp2_with fail
      refine H3.out.mono ?_
      rintro e w3 ⟨a3, cap3, rfl, hin3, hb3⟩
      have Hb3 := hide (Hb2.out.trans (hb3.mono Hb2.out.size))
      have Hin3 := hide (Binds_imp (q := fun k => w.heap.size ≤ k) (fun k hk => Nat.le_trans Hb2.out.size hk) hin3)
      clear hb3 hin3
      go_wp2_with fail
      go_ret3
      exact ⟨by rw [Hsp2.out]; exact ⟨a3, cap3, (congrArg (fun n => Ending.returned (.tuple #[.slice a3 n cap3, .bool true, .int .i64 0])) (sortB_length bs).symm), Hin3.out⟩, Hb3.out⟩
  · have hb : (E != 0) = true := by simpa using h
    have Hsp : Hid (matchSpec ar s t = ([], false, E)) := by show _ = _; rw [matchSpec, if_neg (fun h' => h (HE.out.trans h')), HE.out]
    clear h
    go_wp2_with fail
    go_ret3
    exact ⟨by rw [Hsp.out]; exact ⟨none, 0, rfl, trivial⟩, hbw⟩

end Go.Proofs.Ytbkedppkdhfpoab
