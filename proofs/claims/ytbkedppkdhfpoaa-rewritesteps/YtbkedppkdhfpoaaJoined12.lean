/- A list of bindings of the call's own. The bindings of a map, rising. The program's Match: what it answers. Which rule matches a part first, and what it makes of it: the program's closure. The first place at which a rule matches: arguments from the left ahead of what has them. No word of the program's memory here. One number appended to a list of the call's own: in its place, or elsewhere, and then all that was there stays. The program's search for the first place at which a rule matches. -/
import Derived.Deep.AppendLies
import Derived.Deep.RegionLaw
import Derived.Test.YtbkedppkdhfpoaaJoined11
namespace Go.Proofs.Ytbkedppkdhfpoaa
open Go.RowKit

/-- Four cells a binding, and what lies behind it. -/
def KidsB (p : Nat → Prop) (w : World) : List (Int × T) → List Value → Prop
  | [], cs => cs = []
  | x :: bs, cs => ∃ a cap rest, cs = .int .i64 x.1 :: .int .i64 x.2.v :: .int .i64 x.2.f :: .slice a x.2.args.length cap :: rest ∧ InP p w x.2.args a ∧ KidsB p w bs rest
theorem KidsB_append {p : Nat → Prop} {w : World} {bs us : List (Int × T)} : ∀ {cs ds : List Value}, KidsB p w bs cs → KidsB p w us ds → KidsB p w (bs ++ us) (cs ++ ds) := by
  induction bs with
  | nil => intro cs ds h1 h2; rw [show cs = [] from h1]; exact h2
  | cons x bs ih =>
    intro cs ds h1 h2
    obtain ⟨a, cap, rest, rfl, h0, h⟩ := h1
    exact ⟨a, cap, rest ++ ds, rfl, h0, ih h h2⟩
theorem KidsB_mono {p q : Nat → Prop} {w w' : World} {bs : List (Int × T)} (hs : ∀ k, p k → k < w.heap.size → q k ∧ w'.heap[k]? = w.heap[k]?) : ∀ {cs : List Value}, KidsB p w bs cs → KidsB q w' bs cs := by
  induction bs with
  | nil => intro cs h; exact h
  | cons x bs ih =>
    intro cs h
    obtain ⟨a, cap, rest, rfl, h0, h⟩ := h
    exact ⟨a, cap, rest, rfl, InP_mono (fun b o v hp hv => ⟨(hs b hp (lt_of_cell hv)).1, by rw [World.cell?_of_block (w := w) (a := ⟨b, o, none⟩) (hs b hp (lt_of_cell hv)).2]; exact hv⟩) _ _ _ (Nat.le_refl _) h0, ih h⟩
theorem KidsB_in {p : Nat → Prop} {w : World} {g : Nat} (hpg : p g) {bs : List (Int × T)} : ∀ {off : Nat} {cs : List Value}, KidsB p w bs cs → (∀ j u, cs[j]? = some u → w.cell? ⟨g, off + j, none⟩ = some u) → Binds p w bs (some ⟨g, off, none⟩) := by
  induction bs with
  | nil => intro off cs _ _; trivial
  | cons x bs ih =>
    intro off cs h hc
    obtain ⟨a, cap, rest, rfl, h0, h⟩ := h
    refine ⟨g, off, a, cap, rfl, hpg, hc 0 _ rfl, hc 1 _ rfl, hc 2 _ rfl, hc 3 _ rfl, h0, ih h fun j u hu => ?_⟩
    rw [show off + 4 + j = off + (j + 4) from by omega]
    exact hc (j + 4) u (by simpa using hu)
/-- A list of the call's own that holds these bindings; nothing that lies behind them lies in the list's own block. -/
def OutsB (q : Nat → Prop) (base : Nat) (w : World) (l : Value) (bs : List (Int × T)) : Prop :=
  ∃ xs, w.ownsRow base 95 4 l bs.length xs ∧ KidsB (fun k => (q k ∨ base ≤ k) ∧ l.ownBlock ≠ some k) w bs xs
theorem OutsB_nil {q : Nat → Prop} {base : Nat} {w : World} : OutsB q base w (.slice none 0 0) [] := ⟨[], ⟨rfl, Or.inl ⟨rfl, rfl⟩⟩, rfl⟩
theorem OutsB_same {q : Nat → Prop} {base : Nat} {w w' : World} {l : Value} {bs : List (Int × T)} (h : OutsB q base w l bs) (hs : ∀ k, (q k ∨ base ≤ k) → k < w.heap.size → w'.heap[k]? = w.heap[k]?) : OutsB q base w' l bs := by
  obtain ⟨xs, h1, h2⟩ := h
  exact ⟨xs, own_same h1 (fun g hg => hs g (Or.inr (own_lt h1 g hg).1) (own_lt h1 g hg).2), KidsB_mono (fun k hk hlt => ⟨hk, hs k hk.1 hlt⟩) h2⟩
theorem OutsB_below {q : Nat → Prop} {base : Nat} {w w' : World} {l : Value} {bs : List (Int × T)} (h : OutsB q base w l bs) (hb : Below w.heap.size w w') : OutsB q base w' l bs := OutsB_same h (fun k _ hk => hb.block k hk)
theorem OutsB_step {q : Nat → Prop} {base : Nat} {w w' : World} {l : Value} {bs : List (Int × T)} {x : Int × T} {xs : List Value} {a : Option Addr} {cap g cap2 : Nat} (hk : KidsB (fun k => (q k ∨ base ≤ k) ∧ l.ownBlock ≠ some k) w bs xs)
    (hc : InP (fun k => (q k ∨ base ≤ k) ∧ l.ownBlock ≠ some k) w x.2.args a)
    (hown : w'.ownsRow base 95 4 (.slice (some ⟨g, 0, none⟩) (bs.length + 1) cap2) (bs.length + 1) (xs ++ [.int .i64 x.1, .int .i64 x.2.v, .int .i64 x.2.f, .slice a x.2.args.length cap])) (hg : w.grownBy w' l.ownBlock) (hat : l.ownBlock = some g ∨ g = w.heap.size) :
    OutsB q base w' (.slice (some ⟨g, 0, none⟩) (bs.length + 1) cap2) (bs ++ [x]) := by
  refine ⟨_, by rw [List.length_append]; exact hown, KidsB_mono (p := fun k => (q k ∨ base ≤ k) ∧ l.ownBlock ≠ some k) (w := w) (fun k hp hlt => ⟨⟨hp.1, ?_⟩, hg.block k hlt (fun e => hp.2 e.symm)⟩) (KidsB_append hk ⟨a, cap, [], rfl, hc, rfl⟩)⟩
  rcases hat with hat | hat
  · rw [show (Value.slice (some ⟨g, 0, none⟩) (bs.length + 1) cap2).ownBlock = some g from rfl, ← hat]; exact hp.2
  · show some g ≠ some k
    intro e; cases e; omega
theorem own_cellsN {w : World} {base n : Nat} {e : TypeId} {sz : Nat} {v : Value} {xs : List Value} (h : w.ownsRow base e sz v n xs) (hn : 0 < n) : ∃ g cap, v = .slice (some ⟨g, 0, none⟩) n cap ∧ base ≤ g ∧ g < w.heap.size ∧ ∀ j u, xs[j]? = some u → w.cell? ⟨g, j, none⟩ = some u := by
  rcases h.2 with ⟨_, h0⟩ | ⟨g, cap, cur, rfl, hb, hg, hc, hm, hs, ht⟩
  · omega
  refine ⟨g, cap, rfl, hb, ?_, fun j u hu => ?_⟩
  · rcases Nat.lt_or_ge g w.heap.size with h | h
    · exact h
    · rw [Array.getElem?_eq_none h] at hg; cases hg
  · have hj : j < xs.length := by
      rcases Nat.lt_or_ge j xs.length with h | h
      · exact h
      · rw [List.getElem?_eq_none h] at hu; cases hu
    have e1 : cur[j]? = some u := by
      have h2 : (cur.toList.take (n * sz))[j]? = some u := by rw [ht]; exact hu
      rw [List.getElem?_take_of_lt (by have := h.1; omega)] at h2
      simpa using h2
    simp [World.cell?, hg, e1]
theorem OutsB_end {q : Nat → Prop} {base : Nat} {w : World} {l : Value} {bs : List (Int × T)} (h : OutsB q base w l bs) : ∃ a cap, l = .slice a bs.length cap ∧ Binds (fun k => q k ∨ base ≤ k) w bs a := by
  obtain ⟨xs, h1, h2⟩ := h
  by_cases h0 : 0 < bs.length
  · obtain ⟨g, cap, rfl, hb, hlt, hcell⟩ := own_cellsN h1 h0
    exact ⟨_, cap, rfl, KidsB_in (Or.inr hb) (KidsB_mono (fun k hk _ => ⟨hk.1, rfl⟩) h2) (fun j u hu => by rw [Nat.zero_add]; exact hcell j u hu)⟩
  · obtain ⟨a, c, rfl⟩ := own_shape h1
    have : bs = [] := List.length_eq_zero_iff.1 (by omega)
    subst this
    exact ⟨a, c, rfl, trivial⟩

theorem Try.info95 : (Try.prog.info? 95).map (fun i => (i.zero, i.size, i.bytes)) = some (some (.agg #[.int .i64 0, .int .i64 0, .int .i64 0, .slice none 0 0]), 4, 48) := by kernel_rfl
def row4 (n : Nat) : Array Value := madeCells #[.int .i64 0, .int .i64 0, .int .i64 0, .slice none 0 0] (n * 4)
theorem run_make4 (n : Nat) (hn : n ≤ 1000000) (w : World) : (Instr.makeSlice 51 (.int .i64 0) (.int .i64 (n : Int))).run Try.prog w = .ok (.slice (some ⟨w.heap.size, 0, none⟩) 0 n) (w.alloc (.cells (row4 n) 95)) := by
  obtain ⟨i, hi, hzz⟩ := Option.map_eq_some_iff.1 Try.info95
  simp only [Prod.mk.injEq] at hzz
  obtain ⟨hz, hs, hb⟩ := hzz
  have hr := run_make (P := Try.prog) w 51 95 i _ Try.underlying51 hi hz .i64 .i64 0 n (by omega) (by omega) (by rw [hb]; omega) (by omega)
  simp only [Int.toNat_natCast, hs, Int.toNat_zero] at hr
  exact hr
theorem OutsB_made {q : Nat → Prop} {base n : Nat} {w : World} (hb : base ≤ w.heap.size) (hn : n ≤ 1000000) : OutsB q base (w.alloc (.cells (row4 n) 95)) (.slice (some ⟨w.heap.size, 0, none⟩) 0 n) [] :=
  ⟨[], ⟨rfl, Or.inr ⟨w.heap.size, n, row4 n, rfl, hb, heap_alloc_new w _, Nat.zero_le _, by unfold maxLen; omega, by rw [row4, size_madeCells], by simp⟩⟩, rfl⟩
theorem four_new {w : World} {v a b : Int} {s : Value} {e : TypeId} {n : Nat} (hn : n = w.heap.size) : ∀ (j : Nat) (u : Value), [Value.int .i64 v, .int .i64 a, .int .i64 b, s][j]? = some u →
    (w.alloc (.cells #[.int .i64 v, .int .i64 a, .int .i64 b, s] e)).cell? ((⟨n, 0, none⟩ : Addr).add j) = some u := by
  intro j u hu
  have e1 : (⟨n, 0, none⟩ : Addr).add j = ⟨n, j, none⟩ := by simp [Addr.add]; omega
  rw [e1, cell_new j hn]
  simpa using hu

end Go.Proofs.Ytbkedppkdhfpoaa

namespace Go.Proofs.Ytbkedppkdhfpoaa
open Go.RowKit Go.Maps

/-- The variables, sorted. -/
def keysB (bs : List (Int × T)) : List Int := (bs.map (·.1)).mergeSort (fun x y => decide (x ≤ y))
/-- The bindings, sorted by variables. -/
def sortB (bs : List (Int × T)) : List (Int × T) := (keysB bs).map (fun v => (v, (lookB bs v).getD zeroT))
theorem keysB_length (bs : List (Int × T)) : (keysB bs).length = bs.length := by rw [keysB, List.length_mergeSort, List.length_map]
theorem sortB_length (bs : List (Int × T)) : (sortB bs).length = bs.length := by rw [sortB, List.length_map, keysB_length]
theorem lookB_isSome {bs : List (Int × T)} {v : Int} : v ∈ bs.map (·.1) ↔ (lookB bs v).isSome = true := by
  induction bs with
  | nil => simp [lookB]
  | cons x bs ih =>
    obtain ⟨w, u⟩ := x
    rw [List.map_cons, List.mem_cons, lookB]
    by_cases h : w = v
    · rw [if_pos h]; simp [h]
    · rw [if_neg h, ← ih]
      constructor
      · rintro (e | e)
        · exact absurd e.symm h
        · exact e
      · exact Or.inr
theorem once_nodup {bs : List (Int × T)} (h : Once bs) : (bs.map (·.1)).Nodup := by
  rw [List.nodup_iff_pairwise_ne, List.pairwise_iff_getElem]
  intro i j hi hj hij e
  rw [List.length_map] at hi hj
  simp only [List.getElem_map] at e
  have := h i j bs[i] bs[j] (List.getElem?_eq_getElem hi) (List.getElem?_eq_getElem hj) e
  omega
theorem keysB_at {bs : List (Int × T)} {k : Nat} {v : Int} (h : (keysB bs)[k]? = some v) : ∃ u, lookB bs v = some u ∧ (sortB bs)[k]? = some (v, u) := by
  have hm := List.mem_of_getElem? h
  rw [keysB, List.mem_mergeSort] at hm
  obtain ⟨u, hu⟩ := Option.isSome_iff_exists.1 (lookB_isSome.1 hm)
  exact ⟨u, hu, by rw [sortB, List.getElem?_map, h]; simp [hu]⟩

set_option maxRecDepth 100000 in
set_option maxHeartbeats 2000000 in
theorem bindingsP_any (q : Nat → Prop) (b : Nat) (bs : List (Int × T)) (w : World) (ho : Once bs) (hl : bs.length ≤ 1000) (hr : ∀ x, x ∈ bs → 1 ≤ x.1 ∧ x.1 ≤ 1000) (hM : MB q b bs w) :
    Calls Try.prog 73 #[.map (some b)] w fun e w' => ∃ a cap, e = .returned (.slice a bs.length cap) ∧ Binds (fun k => w.heap.size ≤ k) w' (sortB bs) a ∧ Below w.heap.size w w' := by
  obtain ⟨⟨f, hMf, hBf⟩, hsz⟩ := hM
  have HK := hide (show ∀ x, x ∈ bs.map (·.1) ↔ (f x).isSome = true from fun x => by
    rw [lookB_isSome]
    cases h : lookB bs x with
    | none => rw [(hBf x).1 h]; simp
    | some u => obtain ⟨a, cap, hf, _⟩ := (hBf x).2 u h; rw [hf]; simp)
  have hlen : ∀ ty, (Builtin.len_ #[92] ty #[.map (some b)]).run Try.prog w = .ok (.int .i64 (bs.length : Nat)) w := fun ty => by
    obtain ⟨D, hD, hf⟩ := hMf
    have hp := keys_perm hD hf (once_nodup ho) HK.out
    have e1 : Maps.size D = bs.length := by
      have h1 := hp.length_eq
      rw [List.length_map] at h1
      rw [h1]
      obtain ⟨es, rfl⟩ := hD.isMap
      simp [intKeys, Maps.size]
    rw [hD.len Try.underlying92 ty, e1]
  have hmk := run_make4 bs.length (by omega)
  have HM := hide hMf
  have HB := hide hBf
  have Hsz := hide hsz
  have Ho := hide ho
  have Hr := hide hr
  obtain ⟨ti, hi, hzz⟩ := Option.map_eq_some_iff.1 Try.info95
  simp only [Prod.mk.injEq] at hzz
  obtain ⟨hz0, hz1, hz2⟩ := hzz
  clear hMf hBf hsz ho hr
  go_enter Try.func73, Try.ntmps73
  go_wp2_with (first
    | (go_at_call 92; refine (keysB_any _ _).mono ?_; rintro e w' ⟨rfl, rfl⟩)
    | (go_at_call 91; refine (sortedB_any b bs.length f (bs.map (·.1)) (by omega) (once_nodup Ho.out) HK.out _ _ (HM.out.below (below2 _ _ _)) (by rw [cell_new 0 (by simp)]; rfl)).mono ?_; rintro e w1 ⟨v1, rfl, hown1, hb1⟩; obtain ⟨va, vc, rfl, hints1, _⟩ := own_ints hown1))
  have hz1' : w.heap.size + 2 ≤ w1.heap.size := by have := hb1.size; simp at this; omega
  have Hbw1 : Hid (Below w.heap.size w w1) := (below2 _ _ _).trans (hb1.mono (by simp; omega))
  have Hl0 : Hid (OutsB (fun _ => False) w.heap.size w1 (.slice (some ⟨w.heap.size, 0, none⟩) 0 bs.length) []) := OutsB_below (OutsB_below (OutsB_made (Nat.le_refl _) (by omega)) (below1 _ _)) hb1
  have Hkeys : Hid (∀ (k : Nat) (v : Int), (keysB bs)[k]? = some v → ∃ b1 off1, va = some ⟨b1, off1, none⟩ ∧ b1 ≠ w.heap.size ∧ b1 < w1.heap.size ∧ w1.cell? ⟨b1, off1 + k, none⟩ = some (.int .i64 v)) := fun k v hv => by
    have hlt : k < (keysB bs).length := by
      rcases Nat.lt_or_ge k (keysB bs).length with h | h
      · exact h
      · rw [List.getElem?_eq_none h] at hv; cases hv
    have hpos : 0 < (keysB bs).length := by omega
    obtain ⟨b1, off1, rfl, hc⟩ := Ints_some hints1 hpos
    have h1 := hc k hlt
    rw [List.getD_eq_getElem?_getD, show ((bs.map (·.1)).mergeSort (fun x y => decide (x ≤ y)))[k]? = some v from hv] at h1
    have h2 := own_lt hown1 b1 rfl
    simp at h2
    exact ⟨b1, off1, rfl, by omega, lt_of_cell h1, h1⟩
  clear hb1 hown1 hints1 hlen hmk
  go_wp2_with fail
  go_loopw [3, 13] (fun l i wr => ∃ k : Nat, k ≤ bs.length ∧ i = .int .i64 k ∧ OutsB (fun _ => False) w.heap.size wr l ((sortB bs).take k) ∧ Grw w1 wr (some w.heap.size) l.ownBlock) (fun _ i _ => bs.length - (intOf i).toNat)
  case atStart => exact ⟨0, Nat.zero_le _, rfl, Hl0.out, Grw.refl _ _⟩
  case round =>
    obtain ⟨k, hk, rfl, hout, hgrw⟩ := hrel
    have Hout := hide hout
    have Hgrw := hide hgrw
    have hzr := hgrw.gr.size
    clear hout hgrw
    have HbR : Hid (Below w.heap.size w wr) := Hbw1.out.trans (Hgrw.out.below (by omega) (fun g hg => by cases hg; exact Nat.le_refl _))
    by_cases hlt : k < bs.length
    · obtain ⟨v, hv⟩ : ∃ v, (keysB bs)[k]? = some v := ⟨(keysB bs)[k]'(by rw [keysB_length]; exact hlt), List.getElem?_eq_getElem _⟩
      obtain ⟨u, hlk, hst⟩ := keysB_at hv
      obtain ⟨b1, off1, rfl, hb1n, hb1l, hc1⟩ := Hkeys.out k v hv
      have hcr : wr.cell? ⟨b1, off1 + k, none⟩ = some (.int .i64 v) := by
        rw [World.cell?_of_block (w := w1) (a := ⟨b1, off1 + k, none⟩) (Hgrw.out.gr.block b1 hb1l (fun e => hb1n (by cases e; rfl)))]; exact hc1
      obtain ⟨a1, cap1, hf, hin1⟩ := (HB.out v).2 u hlk
      have husz := Hsz.out _ _ (lookB_mem hlk)
      have hvr := Hr.out _ (lookB_mem hlk)
      have hvr1 : 1 ≤ v := hvr.1
      have hvr2 : v ≤ 1000 := hvr.2
      have hlook := (HM.out.below HbR.out).look (t := 92) Try.underlying92 (Try.zero27 _) (k := v) (by omega) (by omega)
      rw [hf] at hlook
      have HT1 := hide (show (sortB bs).take (k + 1) = (sortB bs).take k ++ [(v, u)] by rw [List.take_add_one, hst]; rfl)
      have Htk : Hid (((sortB bs).take k).length = k) := by show _ = _; rw [List.length_take, sortB_length]; omega
      have HC := hide (copyOf_any (u.sz + 1) u a1 cap1 wr (by omega) husz (InP_imp (q := fun _ => True) (fun _ _ => trivial) (InP_below HbR.out hin1)))
      have hkI : (k : Int) < bs.length := by omega
      have hk0 : (0 : Int) ≤ k := by omega
      clear hv hlk hst hc1 hf hin1 hvr Hkeys
      go_wp2_with (first
        | (go_at_call 65
           refine HC.out.mono ?_
           rintro e w2 ⟨s, Bc, rfl, hown, _, hrg, hb2⟩
           obtain ⟨a2, cap2, rfl, hin2⟩ := In_iff.1 (Own_inP hown)
           have hzw2 := hb2.size
           have Hout2 := hide (OutsB_below Hout.out hb2)
           obtain ⟨xs, hownL, hkids⟩ := Hout2.out
           have HO := hide (fun o1 => own_same hownL (w' := w2.alloc o1) (fun g hg => (below1 w2 o1).block g (own_lt hownL g hg).2))
           have HCi : Hid (InP (fun k' => (False ∨ w.heap.size ≤ k') ∧ u3.ownBlock ≠ some k') w2 u.args a2) := InP_imp (fun k' hk' => by
             have h8 := (hrg k' hk').1
             refine ⟨Or.inr (by omega), fun e => ?_⟩
             obtain ⟨xs0, h0, _⟩ := Hout.out
             have := (own_lt h0 k' e).2
             omega) hin2
           have Hg2 := hide (Hgrw.out.trans (Grw.of_below _ hb2))
           clear hown hrg hin2 hb2)
        | (at_builtin
           go_must (refine wpList_append_lies _ rfl (.tmp 17) (.tmp 24) 51 rfl w.heap.size 95 ti (.agg #[.int .i64 0, .int .i64 0, .int .i64 0, .slice none 0 0]) 4 48 Try.underlying51 hi hz0 hz1 hz2 rfl (by decide) u3 ((sortB bs).take k).length xs rfl (HO.out _) ⟨w2.heap.size, 0, none⟩ 1 1 [.int .i64 v, .int .i64 u.v, .int .i64 u.f, .slice a2 u.args.length cap2] rfl rfl (four_new (by first | rfl | simp)) (by simp [Value.oneCell']) (by decide) (by have := Htk.out; unfold maxLen; omega) (by have := Htk.out; omega) (by simp; omega) _ rfl ?_)
           intro g capg w3 hown3 hgr3 hat3 hlt3))
      have hO3 := OutsB_step (x := (v, u)) (KidsB_mono (fun k' hk' hlt' => ⟨hk', (below1 w2 _).block k' hlt'⟩) hkids) (InP_alloc _ HCi.out) hown3 hgr3 (hat3.imp id (fun h => by rw [h]))
      have hG3 : Grw w1 w3 (some w.heap.size) (Value.slice (some ⟨g, 0, none⟩) (((sortB bs).take k).length + 1) capg).ownBlock := Hg2.out.trans ((Grw.of_below _ (below1 _ _)).trans ⟨hgr3, by
        rcases hat3 with h | h
        · exact Or.inl h.symm
        · exact Or.inr ⟨g, rfl, by rw [h]; simp⟩⟩)
      rw [← HT1.out, Htk.out] at hO3
      rw [Htk.out] at hG3
      have hmin : min k (sortB bs).length = k := by rw [sortB_length]; omega
      go_roundw
      case rel => exact ⟨k + 1, by omega, by go_num, by rw [hmin]; exact hO3, by rw [hmin]; exact hG3⟩
      case measure => simp [intOf]; omega
    · have hk2 : k = (sortB bs).length := by rw [sortB_length]; omega
      rw [hk2, List.take_length] at Hout
      obtain ⟨la, lc, rfl, hinL⟩ := OutsB_end Hout.out
      rw [sortB_length] at hk2
      subst hk2
      have HinL := hide hinL
      rw [sortB_length]
      clear hinL Hout
      go_wp2_with fail
      go_ret
      exact ⟨la, lc, rfl, Binds_imp (fun k' hk' => by rcases hk' with h | h; exact h.elim; exact h) HinL.out, HbR.out⟩

end Go.Proofs.Ytbkedppkdhfpoaa

namespace Go.Proofs.Ytbkedppkdhfpoaa
open Go.RowKit Go.Maps

set_option maxRecDepth 100000 in
set_option maxHeartbeats 400000 in
theorem subCheck_any (ar : List Int) (ga : Option Addr) (gcap : Nat) (t : T) (a : Option Addr) (cap : Nat) (u : T) (a2 : Option Addr) (cap2 : Nat) (w : World) (hg : Ints w ar ga) (hin : InL w t.args a) (hin2 : InL w u.args a2) :
    Calls Try.prog 71 #[.agg #[.slice ga ar.length gcap], .agg #[.int .i64 t.v, .int .i64 t.f, .slice a t.args.length cap], .agg #[.int .i64 u.v, .int .i64 u.f, .slice a2 u.args.length cap2]] w fun e w' =>
      e = .returned (.int .i64 (allErr ar [t, u])) ∧ Below w.heap.size w w' := by
  have H1 := hide (fun o1 o2 o3 => Check_any ar ga gcap t a cap (((w.alloc o1).alloc o2).alloc o3) (Ints_alloc o3 (Ints_alloc o2 (Ints_alloc o1 hg))) (InP_alloc o3 (InP_alloc o2 (InP_alloc o1 hin))))
  have Hp := hide (allErr_pair ar t u)
  go_enter Try.func71, Try.ntmps71
  go_wp2_with fail
  refine (H1.out _ _ _).mono ?_
  rintro e w1 ⟨rfl, hb1⟩
  have hz1 : w.heap.size + 3 ≤ w1.heap.size := by have := hb1.size; simp at this; omega
  have hbw : Below w.heap.size w w1 := (((below1 _ _).alloc (by simp) _).alloc (by simp; omega) _).trans (hb1.mono (by simp; omega))
  have cg : w1.cell? ⟨w.heap.size, 0, none⟩ = some (.slice ga ar.length gcap) := by
    rw [hb1.cell (p := ⟨w.heap.size, 0, none⟩) (by simp; omega), cell_alloc_lt (by simp; omega), cell_alloc_lt (by simp), cell_new _ rfl]; rfl
  have h3u : Three w1 (w.heap.size + 1 + 1) (.int .i64 u.v) (.int .i64 u.f) (.slice a2 u.args.length cap2) := (Three.new _ (by simp)).below hb1
  obtain ⟨d0, d1, d2, _, _, _⟩ := h3u
  have H2 := hide (Check_any ar ga gcap u a2 cap2 w1 (Ints_below hbw hg) (InP_below hbw hin2))
  clear hb1
  by_cases h : allErr ar [t] = 0
  · have He : Hid (allErr ar [t, u] = allErr ar [u]) := by show _ = _; rw [Hp.out, if_pos h]
    rw [h]
    clear h
    go_wp2_with fail
    refine H2.out.mono ?_
    rintro e w2 ⟨rfl, hb2⟩
    go_wp2_with fail
    go_ret
    exact ⟨ret_int He.out.symm, hbw.trans (hb2.mono (by omega))⟩
  · have hb : (allErr ar [t] != 0) = true := by simpa using h
    have He : Hid (allErr ar [t, u] = allErr ar [t]) := by show _ = _; rw [Hp.out, if_neg h]
    clear h
    go_wp2_with fail
    go_ret
    exact ⟨ret_int He.out.symm, hbw⟩

theorem once_snoc {bs : List (Int × T)} {v : Int} {t : T} (h : Once bs) (hn : lookB bs v = none) : Once (bs ++ [(v, t)]) := by
  have hv : ∀ (i : Nat) (x : Int × T), bs[i]? = some x → x.1 ≠ v := fun i x hx e => by
    have hm : v ∈ bs.map (·.1) := List.mem_map.2 ⟨x, List.mem_of_getElem? hx, e⟩
    rw [lookB_isSome, hn] at hm
    cases hm
  have cs : ∀ (i : Nat) (x : Int × T), (bs ++ [(v, t)])[i]? = some x → bs[i]? = some x ∨ (i = bs.length ∧ x = (v, t)) := fun i x hx => by
    rcases Nat.lt_or_ge i bs.length with h1 | h1
    · rw [List.getElem?_append_left h1] at hx; exact Or.inl hx
    · rw [List.getElem?_append_right h1] at hx
      have h2 : i - bs.length = 0 := by
        rcases Nat.lt_or_ge (i - bs.length) 1 with h3 | h3
        · omega
        · rw [List.getElem?_eq_none (by simpa using h3)] at hx; cases hx
      rw [h2] at hx
      exact Or.inr ⟨by omega, by simpa using hx.symm⟩
  intro i j x y hx hy e
  rcases cs i x hx with h1 | ⟨h1, rfl⟩ <;> rcases cs j y hy with h2 | ⟨h2, rfl⟩
  · exact h i j x y h1 h2 e
  · exact absurd e (hv i x h1)
  · exact absurd e.symm (hv j y h2)
  · omega
/-- What growing keeps. -/
theorem grow_keeps {ar : List Int} : ∀ (n : Nat), (∀ (p t : T) (bs b2 : List (Int × T)), p.sz ≤ n → okP ar p → growT p t bs = some b2 → (Once bs ∧ ∀ x, x ∈ bs → 1 ≤ x.1 ∧ x.1 ≤ 1000) → (Once b2 ∧ ∀ x, x ∈ b2 → 1 ≤ x.1 ∧ x.1 ≤ 1000)) ∧
    (∀ (ps ts : List T) (bs b2 : List (Int × T)), T.sz.szL ps ≤ n → okP.okL ar ps → growT.growL ps ts bs = some b2 → (Once bs ∧ ∀ x, x ∈ bs → 1 ≤ x.1 ∧ x.1 ≤ 1000) → (Once b2 ∧ ∀ x, x ∈ b2 → 1 ≤ x.1 ∧ x.1 ≤ 1000)) := by
  intro n
  induction n with
  | zero =>
    refine ⟨fun p t bs b2 h => by have := p.sz_pos; omega, fun ps ts bs b2 h _ hg hk => ?_⟩
    cases ps with
    | nil =>
      cases ts with
      | nil => simp [growT.growL] at hg; rw [← hg]; exact hk
      | cons t ts => cases hg
    | cons p ps => have := p.sz_pos; rw [T.szL_cons] at h; omega
  | succ n ih =>
    have h1 : ∀ (p t : T) (bs b2 : List (Int × T)), p.sz ≤ n + 1 → okP ar p → growT p t bs = some b2 → (Once bs ∧ ∀ x, x ∈ bs → 1 ≤ x.1 ∧ x.1 ≤ 1000) → (Once b2 ∧ ∀ x, x ∈ b2 → 1 ≤ x.1 ∧ x.1 ≤ 1000) := fun p t bs b2 h hok hg hk => by
      have hpe := T.sz_eq p
      rw [growT_eq] at hg
      by_cases hv : p.v ≠ 0
      · rw [if_pos hv] at hg
        cases hl : lookB bs p.v with
        | some u =>
          rw [hl] at hg
          by_cases hs : sameT u t = true
          · simp only [hs, if_true, Option.some.injEq] at hg
            rw [← hg]; exact hk
          · simp [hs] at hg
        | none =>
          rw [hl] at hg
          simp only [Option.some.injEq] at hg
          have hv1 : 1 ≤ p.v ∧ p.v ≤ 1000 := by
            have h1 := (okP_iff.1 hok).1
            rw [partErr, if_pos hv] at h1
            by_cases h2 : p.v < 1 ∨ 1000 < p.v
            · rw [if_pos h2] at h1; cases h1
            · omega
          rw [← hg]
          refine ⟨once_snoc hk.1 hl, fun x hx => ?_⟩
          rcases List.mem_append.1 hx with hx | hx
          · exact hk.2 x hx
          · simp at hx; rw [hx]; exact hv1
      · rw [if_neg hv] at hg
        by_cases hc : t.v ≠ 0 ∨ p.f ≠ t.f
        · rw [if_pos hc] at hg; cases hg
        · rw [if_neg hc] at hg
          exact ih.2 p.args t.args bs b2 (by omega) (okP_iff.1 hok).2 hg hk
    refine ⟨h1, fun ps => ?_⟩
    induction ps with
    | nil =>
      intro ts bs b2 _ _ hg hk
      cases ts with
      | nil => simp [growT.growL] at hg; rw [← hg]; exact hk
      | cons t ts => cases hg
    | cons p ps iht =>
      intro ts bs b2 h hok hg hk
      rw [T.szL_cons] at h
      cases ts with
      | nil => cases hg
      | cons t ts =>
        rw [growL_cons] at hg
        cases hgt : growT p t bs with
        | none => rw [hgt] at hg; cases hg
        | some b3 =>
          rw [hgt] at hg
          exact iht ts b3 b2 (by omega) (okL_cons.1 hok).2 hg (h1 p t bs b3 (by omega) (okL_cons.1 hok).1 hgt hk)

/-- What Match answers. -/
def matchSpec (ar : List Int) (p t : T) : List (Int × T) × Bool × Int :=
  if allErr ar [p, t] = 0 then (match growT p t [] with | some bs => (sortB bs, true, 0) | none => ([], false, 0)) else ([], false, allErr ar [p, t])
/-- Bindings, a yes or no, and an error handed back. -/
def GivesB (x : List (Int × T) × Bool × Int) (base : Nat) (e : Ending) (w' : World) : Prop :=
  ∃ a cap, e = .returned (.tuple #[.slice a x.1.length cap, .bool x.2.1, .int .i64 x.2.2]) ∧ Binds (fun k => base ≤ k) w' x.1 a

set_option maxRecDepth 100000 in
set_option maxHeartbeats 1000000 in
theorem Match_any (ar : List Int) (ga : Option Addr) (gcap : Nat) (s : T) (sa : Option Addr) (sc : Nat) (t : T) (ta : Option Addr) (tc : Nat) (w : World) (hg : Ints w ar ga) (hin : InL w s.args sa) (hin2 : InL w t.args ta) :
    Calls Try.prog 35 #[.agg #[.slice ga ar.length gcap], .agg #[.int .i64 s.v, .int .i64 s.f, .slice sa s.args.length sc], .agg #[.int .i64 t.v, .int .i64 t.f, .slice ta t.args.length tc]] w fun e w' => GivesB (matchSpec ar s t) w.heap.size e w' ∧ Below w.heap.size w w' := by
  have H1 := hide (fun o1 o2 o3 => subCheck_any ar ga gcap s sa sc t ta tc (((w.alloc o1).alloc o2).alloc o3) (Ints_alloc o3 (Ints_alloc o2 (Ints_alloc o1 hg))) (InP_alloc o3 (InP_alloc o2 (InP_alloc o1 hin))) (InP_alloc o3 (InP_alloc o2 (InP_alloc o1 hin2))))
  have hmm := @run_makeMap Try.prog
  obtain ⟨E, hE⟩ : ∃ E, E = allErr ar [s, t] := ⟨_, rfl⟩
  rw [← hE] at H1
  have HE := hide hE
  clear hE
  go_enter Try.func35, Try.ntmps35
  go_wp2_with fail
  refine (H1.out _ _ _).mono ?_
  rintro e w1 ⟨rfl, hb1⟩
  have hz1 : w.heap.size + 3 ≤ w1.heap.size := by have := hb1.size; simp at this; omega
  have hbw : Below w.heap.size w w1 := (((below1 _ _).alloc (by simp) _).alloc (by simp; omega) _).trans (hb1.mono (by simp; omega))
  have h3s : Three w1 (w.heap.size + 1) (.int .i64 s.v) (.int .i64 s.f) (.slice sa s.args.length sc) := ((Three.new _ (by simp)).alloc _).below hb1
  have h3t : Three w1 (w.heap.size + 1 + 1) (.int .i64 t.v) (.int .i64 t.f) (.slice ta t.args.length tc) := (Three.new _ (by simp)).below hb1
  obtain ⟨c0, c1, c2, _, _, _⟩ := h3s
  obtain ⟨d0, d1, d2, _, _, _⟩ := h3t
  clear hb1
  by_cases h : E = 0
  · obtain ⟨k1, k2, k3, k4⟩ := ok_two (HE.out.symm.trans h)
    have Hsp : Hid (matchSpec ar s t = match growT s t [] with | some bs => (sortB bs, true, 0) | none => ([], false, 0)) := by show _ = _; rw [matchSpec, if_pos (HE.out.symm.trans h)]
    have hM0 : MB (fun k => k < w1.heap.size) w1.heap.size [] (w1.alloc (.map #[] 0)) := ⟨⟨fun _ => none, MapAt.made w1, fun v => ⟨fun _ => rfl, fun u hu => by cases hu⟩⟩, fun v u hm => by cases hm⟩
    have H2 := hide (match_any ar (fun k => k < w1.heap.size) w1.heap.size (by omega) s.sz s t sa sc ta tc [] (w1.alloc (.map #[] 0)) (Nat.le_refl _) (by simp; omega) k2 (by omega) hM0 (InP_alloc _ (InP_below hbw hin)) (InP_alloc _ (InP_imp (fun _ hk => hk.2) (InP_lt (InP_below hbw hin2)))))
    have Hk := hide (fun bs => (grow_keeps (ar := ar) s.sz).1 s t [] bs (Nat.le_refl _) k2)
    have Hs := hide (fun bs => (grow_size s.sz).1 s t [] bs (Nat.le_refl _))
    have hzA : w.heap.size + 1 < w1.heap.size := by omega
    have hzB : w.heap.size + 1 + 1 < w1.heap.size := by omega
    have m0 : (w1.alloc (.map #[] 0)).cell? ⟨w.heap.size + 1, 0, none⟩ = some (.int .i64 s.v) := by rw [cell_alloc_lt hzA]; exact c0
    have m1 : (w1.alloc (.map #[] 0)).cell? ⟨w.heap.size + 1, 1, none⟩ = some (.int .i64 s.f) := by rw [cell_alloc_lt hzA]; exact c1
    have m2 : (w1.alloc (.map #[] 0)).cell? ⟨w.heap.size + 1, 2, none⟩ = some (.slice sa s.args.length sc) := by rw [cell_alloc_lt hzA]; exact c2
    have n0 : (w1.alloc (.map #[] 0)).cell? ⟨w.heap.size + 1 + 1, 0, none⟩ = some (.int .i64 t.v) := by rw [cell_alloc_lt hzB]; exact d0
    have n1 : (w1.alloc (.map #[] 0)).cell? ⟨w.heap.size + 1 + 1, 1, none⟩ = some (.int .i64 t.f) := by rw [cell_alloc_lt hzB]; exact d1
    have n2 : (w1.alloc (.map #[] 0)).cell? ⟨w.heap.size + 1 + 1, 2, none⟩ = some (.slice ta t.args.length tc) := by rw [cell_alloc_lt hzB]; exact d2
    subst h
    clear k2 k4 hM0
    go_wp2_with fail
    refine H2.out.mono ?_
    rintro e w2 ⟨rfl, hg2, hM2⟩
    have hzg := hg2.size
    rw [World.size_alloc] at hzg
    have Hb2 : Hid (Below w.heap.size w w2) := (hbw.alloc (by omega) _).grown hg2 (by rw [World.size_alloc]; omega) (fun j hj => by cases hj; omega)
    have HM2 := hide hM2
    clear hg2 hM2 hmm H2
    cases hgt : growT s t [] with
    | none =>
      have Hsp2 : Hid (matchSpec ar s t = ([], false, 0)) := by show _ = _; rw [Hsp.out, hgt]
      simp only [Option.isSome_none]
      clear hgt Hsp Hk Hs HM2
      go_wp2_with fail
      go_ret3
      exact ⟨by rw [Hsp2.out]; exact ⟨none, 0, rfl, trivial⟩, Hb2.out⟩
    | some bs =>
      have Hsp2 : Hid (matchSpec ar s t = (sortB bs, true, 0)) := by show _ = _; rw [Hsp.out, hgt]
      have hkk := Hk.out bs hgt ⟨fun i j x y hx => by simp at hx, fun x hx => by cases hx⟩
      have hss := Hs.out bs hgt
      have hbl : bs.length ≤ 1000 := by simp at hss; omega
      have H3 := hide (bindingsP_any _ w1.heap.size bs w2 hkk.1 hbl hkk.2 (HM2.out bs hgt))
      simp only [Option.isSome_some]
      clear hgt Hsp Hk Hs HM2 hkk hss
      go_wp2_with fail
      refine H3.out.mono ?_
      rintro e w3 ⟨a3, cap3, rfl, hin3, hb3⟩
      have Hb3 := hide (Hb2.out.trans (hb3.mono Hb2.out.size))
      have Hin3 := hide (Binds_imp (q := fun k => w.heap.size ≤ k) (fun k hk => Nat.le_trans Hb2.out.size hk) hin3)
      clear hb3 hin3
      go_wp2_with fail
      go_ret3
      exact ⟨by rw [Hsp2.out]; exact ⟨a3, cap3, (congrArg (fun n => Ending.returned (.tuple #[.slice a3 n cap3, .bool true, .int .i64 0])) (sortB_length bs).symm), Hin3.out⟩, Hb3.out⟩
  · have hb : (E != 0) = true := by simpa using h
    have Hsp : Hid (matchSpec ar s t = ([], false, E)) := by show _ = _; rw [matchSpec, if_neg (fun h' => h (HE.out.trans h')), HE.out]
    clear h
    go_wp2_with fail
    go_ret3
    exact ⟨by rw [Hsp.out]; exact ⟨none, 0, rfl, trivial⟩, hbw⟩

end Go.Proofs.Ytbkedppkdhfpoaa

namespace Go.Proofs.Ytbkedppkdhfpoaa
open Go.RowKit

/-- The first rule that matches: what it goes to, and the bindings. -/
def hitR : List (T × T) → T → Option (T × List (Int × T))
  | [], _ => none
  | x :: rs, t => match growT x.1 t [] with
    | some bs => some (x.2, sortB bs)
    | none => hitR rs t
theorem hitR_drop {rs : List (T × T)} {k : Nat} {x : T × T} (hx : rs[k]? = some x) (t : T) : hitR (rs.drop k) t = match growT x.1 t [] with
    | some bs => some (x.2, sortB bs)
    | none => hitR (rs.drop (k + 1)) t := by
  have hlt := (List.getElem?_eq_some_iff.1 hx).1
  have e : rs.drop k = x :: rs.drop (k + 1) := by
    rw [List.getElem?_eq_getElem hlt] at hx
    simp at hx
    rw [← hx, List.getElem_cons_drop]
  rw [e, hitR]
theorem ruleErr_mem {ar : List Int} : ∀ {rs : List (T × T)}, ruleErr ar rs = 0 → ∀ x, x ∈ rs → allErr ar [x.1, x.2] = 0 ∧ gt x.1 x.2 = true := by
  intro rs
  induction rs with
  | nil => intro _ x hx; cases hx
  | cons y rs ih =>
    intro h x hx
    rw [ruleErr] at h
    by_cases h1 : allErr ar [y.1, y.2] = 0
    · rw [if_pos h1] at h
      by_cases h2 : gt y.1 y.2 = true
      · rw [if_pos h2] at h
        rcases List.mem_cons.1 hx with rfl | hx
        · exact ⟨h1, h2⟩
        · exact ih h x hx
      · rw [if_neg h2] at h; cases h
    · rw [if_neg h1] at h; exact absurd h h1

/-- Of what was there only the two boxes have changed. -/
structure Hit0 (t0 b0 : Nat) (w w' : World) : Prop where
  os : w'.os = w.os
  tape : w'.tape = w.tape
  output : w'.output = w.output
  size : w.heap.size ≤ w'.heap.size
  block : ∀ k, k < w.heap.size → k ≠ t0 → k ≠ b0 → w'.heap[k]? = w.heap[k]?
theorem Hit0.of_below {t0 b0 : Nat} {w w' : World} (h : Below w.heap.size w w') : Hit0 t0 b0 w w' := ⟨h.os, h.tape, h.output, h.size, fun k hk _ _ => h.block k hk⟩
theorem Hit0.trans {t0 b0 : Nat} {w w' w'' : World} (h : Hit0 t0 b0 w w') (k : Hit0 t0 b0 w' w'') : Hit0 t0 b0 w w'' :=
  ⟨k.os.trans h.os, k.tape.trans h.tape, k.output.trans h.output, Nat.le_trans h.size k.size, fun x hx h1 h2 => by rw [k.block x (Nat.lt_of_lt_of_le hx h.size) h1 h2, h.block x hx h1 h2]⟩

/-- What the closure answers and leaves. -/
def HitOut (t0 b0 : Nat) (rs : List (T × T)) (t : T) (w : World) (e : Ending) (w' : World) : Prop :=
  (hitR rs t = none ∧ e = .returned (.bool false) ∧ Below w.heap.size w w') ∨
  ∃ y bs a1 c1 la lc, hitR rs t = some (y, bs) ∧ e = .returned (.bool true) ∧ Three w' t0 (.int .i64 y.v) (.int .i64 y.f) (.slice a1 y.args.length c1) ∧ InP (fun k => k ≠ t0 ∧ k ≠ b0) w' y.args a1 ∧ w'.cell? ⟨b0, 0, none⟩ = some (.slice la bs.length lc) ∧ w'.frozen? ⟨b0, 0, none⟩ = false ∧ Binds (fun k => w.heap.size ≤ k) w' bs la ∧ Hit0 t0 b0 w w'

theorem hit_end {t0 b0 : Nat} {rs : List (T × T)} {t y : T} {bs : List (Int × T)} {w w5 : World} {u0 u1 u2 u3 : Value} {a2 la : Option Addr} {c2 lc : Nat} (htb : t0 ≠ b0) (htl : t0 < w.heap.size) (hbl : b0 < w.heap.size) (hT : Three w5 t0 u0 u1 u2) (hB : w5.cell? ⟨b0, 0, none⟩ = some u3) (hBf : w5.frozen? ⟨b0, 0, none⟩ = false) (hh : hitR rs t = some (y, bs))
    (hbn : Binds (fun k => w.heap.size ≤ k) w5 bs la) (hi : InP (fun k => k ≠ t0 ∧ k ≠ b0) w5 y.args a2) (hb : Below w.heap.size w w5) :
    HitOut t0 b0 rs t w (.returned (.bool true)) ((set3 w5 t0 0 (.int .i64 y.v) (.int .i64 y.f) (.slice a2 y.args.length c2)).setCell ⟨b0, 0, none⟩ (.slice la bs.length lc)) := by
  have e3 : ∀ k, k ≠ t0 → (set3 w5 t0 0 (.int .i64 y.v) (.int .i64 y.f) (.slice a2 y.args.length c2)).heap[k]? = w5.heap[k]? := fun k hk => by
    unfold set3
    rw [Below.heap_setCell _ _ _ _ hk, Below.heap_setCell _ _ _ _ hk, Below.heap_setCell _ _ _ _ hk]
  have e4 : ∀ k, k ≠ t0 → k ≠ b0 → ((set3 w5 t0 0 (.int .i64 y.v) (.int .i64 y.f) (.slice a2 y.args.length c2)).setCell ⟨b0, 0, none⟩ (.slice la bs.length lc)).heap[k]? = w5.heap[k]? := fun k h1 h2 => by
    rw [Below.heap_setCell _ _ _ _ h2]; exact e3 k h1
  have hT3 := (hT.set (.int .i64 y.v) (.int .i64 y.f) (.slice a2 y.args.length c2)).same (w' := (set3 w5 t0 0 (.int .i64 y.v) (.int .i64 y.f) (.slice a2 y.args.length c2)).setCell ⟨b0, 0, none⟩ (.slice la bs.length lc)) (Below.heap_setCell _ _ _ _ htb)
  have hBc : (set3 w5 t0 0 (.int .i64 y.v) (.int .i64 y.f) (.slice a2 y.args.length c2)).cell? ⟨b0, 0, none⟩ = some u3 := (World.cell?_of_block (w := w5) (a := ⟨b0, 0, none⟩) (e3 b0 htb.symm)).trans hB
  refine Or.inr ⟨y, bs, a2, c2, la, lc, hh, rfl, hT3, InP_same (fun k hk _ => e4 k hk.1 hk.2) hi, World.cell?_setCell_same _ _ _ hBc, ?_, ?_, ?_⟩
  · rw [World.frozen?_setCell, World.frozen?_of_block (w := w5) (a := ⟨b0, 0, none⟩) (e3 b0 htb.symm)]; exact hBf
  · exact Binds_mono (fun b' o v hp hv => ⟨hp, by
      have hp : w.heap.size ≤ b' := hp
      rw [World.cell?_of_block (w := w5) (a := ⟨b', o, none⟩) (e4 b' (by omega) (by omega))]; exact hv⟩) hbn
  · have hz := hb.size
    refine ⟨?_, ?_, ?_, ?_, fun k hk h1 h2 => (e4 k h1 h2).trans (hb.block k hk)⟩
    · exact hb.os
    · exact hb.tape
    · exact hb.output
    · simp [set3, World.setCell]; exact hz

set_option maxRecDepth 100000 in
set_option maxHeartbeats 2000000 in
theorem stepC_any (ar : List Int) (ga : Option Addr) (gcap : Nat) (rs : List (T × T)) (ra : Option Addr) (rc : Nat) (t : T) (a : Option Addr) (cap : Nat) (l0 g0 t0 b0 : Nat) (u0 u1 u2 u3 : Value) (w : World) (hrs : rulesErr ar rs = 0) (ht : t.sz ≤ 120 ∧ okP ar t) (hg : Ints w ar ga)
    (hr : RulesP (fun k => k ≠ t0 ∧ k ≠ b0) w rs ra) (hin : InP (fun k => k ≠ t0 ∧ k ≠ b0) w t.args a) (hl0 : w.cell? ⟨l0, 0, none⟩ = some (.slice ra rs.length rc)) (hg0 : w.cell? ⟨g0, 0, none⟩ = some (.slice ga ar.length gcap)) (hT : Three w t0 u0 u1 u2) (hB : w.cell? ⟨b0, 0, none⟩ = some u3) (hBf : w.frozen? ⟨b0, 0, none⟩ = false) (htb : t0 ≠ b0) :
    Calls Try.prog 101 #[.agg #[.int .i64 t.v, .int .i64 t.f, .slice a t.args.length cap], .pointer (some ⟨l0, 0, none⟩), .pointer (some ⟨g0, 0, none⟩), .pointer (some ⟨t0, 0, none⟩), .pointer (some ⟨b0, 0, none⟩)] w fun e w' => HitOut t0 b0 rs t w e w' := by
  have hsig : sigErr ar = 0 := by
    rw [rulesErr] at hrs
    by_cases h : sigErr ar = 0
    · exact h
    · rw [if_neg h] at hrs; exact absurd hrs h
  have hru : rs.length ≤ 20 ∧ ruleErr ar rs = 0 := by
    rw [rulesErr, if_pos hsig] at hrs
    by_cases h : 20 < rs.length
    · rw [if_pos h] at hrs; cases hrs
    · rw [if_neg h] at hrs; exact ⟨by omega, hrs⟩
  have HM := hide (ruleErr_mem hru.2)
  have hl20 := hru.1
  have Hsig := hide hsig
  have Ht := hide ht
  have Hg := hide hg
  have Hr := hide hr
  have Hin := hide hin
  have hll := lt_of_cell hl0
  have hgl := lt_of_cell hg0
  have htl := hT.lt
  have hbl := lt_of_cell hB
  have HT := hide hT
  have HB := hide hB
  have HBf := hide hBf
  have Hg0 := hide hg0
  clear hrs hsig hru ht hg hr hin hT hB hBf
  go_enter Try.func101, Try.ntmps101
  go_wp2_with fail
  go_loopw [14] (fun iv wr => ∃ k : Nat, k ≤ rs.length ∧ iv = .int .i64 k ∧ Hid (hitR rs t = hitR (rs.drop k) t) ∧ Hid (Below w.heap.size w wr) ∧ Three wr w.heap.size (.int .i64 t.v) (.int .i64 t.f) (.slice a t.args.length cap)) (fun iv _ => rs.length - (intOf iv).toNat)
  case atStart => exact ⟨0, Nat.zero_le _, rfl, by rw [List.drop_zero]; rfl, below1 _ _, Three.new _ rfl⟩
  case round =>
    obtain ⟨k, hk, rfl, Hk, Hb, h3⟩ := hrel
    have hzr := h3.lt
    have H3 := hide h3
    by_cases hlt : k < rs.length
    · obtain ⟨b, off, rfl⟩ := RulesP_some Hr.out (by omega)
      obtain ⟨x, hx⟩ : ∃ x, rs[k]? = some x := ⟨rs[k], List.getElem?_eq_getElem hlt⟩
      obtain ⟨a1, c1, a2, c2, _, k0, k1, k2, k3, k4, k5, hi1, hi2⟩ := RulesP_at (RulesP_below Hb.out Hr.out) hx
      have hok := (HM.out x (List.mem_of_getElem? hx)).1
      have hst := hitR_drop hx t
      rw [← Hk.out] at hst
      have hun := allErr_iff.1 hok
      have hpr : allErr ar [x.1, t] = 0 := allErr_iff.2 ⟨Hsig.out, fun y hy => by
        rcases List.mem_cons.1 hy with rfl | hy
        · exact hun.2 x.1 (by simp)
        · rcases List.mem_cons.1 hy with rfl | hy
          · exact Ht.out
          · cases hy⟩
      have HX := hide (fun o => Match_any ar ga gcap x.1 a1 c1 t a cap (wr.alloc o) (Ints_alloc o (Ints_below Hb.out Hg.out)) (InP_alloc o (InP_imp (fun _ _ => trivial) hi1)) (InP_alloc o (InP_imp (fun _ _ => trivial) (InP_below Hb.out Hin.out))))
      have Hms : Hid (matchSpec ar x.1 t = match growT x.1 t [] with | some bs => (sortB bs, true, 0) | none => ([], false, 0)) := by show _ = _; rw [matchSpec, if_pos hpr] <;> cases growT x.1 t [] <;> rfl
      obtain ⟨q0, q1, q2, _, _, _⟩ := h3
      have cg : wr.cell? ⟨g0, 0, none⟩ = some (.slice ga ar.length gcap) := by rw [Hb.out.cell (p := ⟨g0, 0, none⟩) hgl]; exact Hg0.out
      have hkI : (k : Int) < rs.length := by omega
      have hk0 : (0 : Int) ≤ k := by omega
      have hbb := lt_of_cell k0
      have hgr : g0 < wr.heap.size := by omega
      have Hst := hide hst
      have Hi2 := hide hi2
      clear hst hok hun hpr hx hi1 hi2 Hk
      go_wp2_with fail
      refine (HX.out _).mono ?_
      rintro e w5 ⟨⟨la, lc, rfl, hbn⟩, hb5⟩
      have hb5r : Below wr.heap.size wr w5 := (below1 _ _).trans (hb5.mono (by simp))
      have Hb5 := hide (Hb.out.trans (hb5r.mono Hb.out.size))
      have H35 := hide (H3.out.below hb5r)
      cases hgt : growT x.1 t [] with
      | none =>
        have Hs2 : Hid (hitR rs t = hitR (rs.drop (k + 1)) t) := by show _ = _; rw [Hst.out, hgt]
        have Hm1 : Hid (matchSpec ar x.1 t = ([], false, 0)) := by show _ = _; rw [Hms.out, hgt]
        rw [Hm1.out]
        clear Hst Hms Hm1 hgt hb5 hb5r hbn HX
        go_wp2_with fail
        go_roundw
        case rel => exact ⟨k + 1, by omega, by go_num, Hs2, Hb5, H35.out⟩
        case measure => simp [intOf]; omega
      | some bs =>
        have Hs2 : Hid (hitR rs t = some (x.2, sortB bs)) := by show _ = _; rw [Hst.out, hgt]
        have Hm1 : Hid (matchSpec ar x.1 t = (sortB bs, true, 0)) := by show _ = _; rw [Hms.out, hgt]
        rw [Hm1.out] at hbn ⊢
        have r3 : w5.cell? ⟨wr.heap.size, 3, none⟩ = some (.int .i64 x.2.v) := by rw [hb5.cell (p := ⟨wr.heap.size, 3, none⟩) (by simp)]; exact cell_new 3 rfl
        have r4 : w5.cell? ⟨wr.heap.size, 4, none⟩ = some (.int .i64 x.2.f) := by rw [hb5.cell (p := ⟨wr.heap.size, 4, none⟩) (by simp)]; exact cell_new 4 rfl
        have r5 : w5.cell? ⟨wr.heap.size, 5, none⟩ = some (.slice a2 x.2.args.length c2) := by rw [hb5.cell (p := ⟨wr.heap.size, 5, none⟩) (by simp)]; exact cell_new 5 rfl
        have hT5 := HT.out.below Hb5.out
        have HT5 := hide hT5
        obtain ⟨v0, v1, v2, f0, f1, f2⟩ := hT5
        have vB : w5.cell? ⟨b0, 0, none⟩ = some u3 := by rw [Hb5.out.cell (p := ⟨b0, 0, none⟩) hbl]; exact HB.out
        have fB : w5.frozen? ⟨b0, 0, none⟩ = false := by rw [Hb5.out.frozen (p := ⟨b0, 0, none⟩) hbl]; exact HBf.out
        have hzz := Hb.out.size
        have Hbn := hide (Binds_mono (q := fun k => w.heap.size ≤ k) (w' := w5) (fun b' o v hp hv => ⟨by have h9 : (wr.alloc _).heap.size ≤ b' := hp; rw [World.size_alloc] at h9; omega, hv⟩) hbn)
        have Hi5 := hide (InP_below hb5r Hi2.out)
        have hne1 : ¬ wr.heap.size = t0 := by omega
        have hne2 : ¬ wr.heap.size = b0 := by omega
        have hne3 : ¬ t0 = wr.heap.size := by omega
        have hne4 : ¬ b0 = wr.heap.size := by omega
        have hne5 : ¬ b0 = t0 := fun e => htb e.symm
        have hne6 : ¬ t0 = b0 := htb
        clear Hst Hms Hm1 hgt hb5 hb5r hbn HX q0 q1 q2 cg k0 k1 k2 k3 k4 k5
        go_wp2_with fail
        go_ret
        exact hit_end htb htl hbl HT5.out vB fB Hs2.out Hbn.out Hi5.out Hb5.out
    · have hk2 : k = rs.length := by omega
      subst hk2
      have Hfin : Hid (hitR rs t = none) := by show _ = _; rw [Hk.out, List.drop_length]; rfl
      clear Hk h3
      go_wp2_with fail
      go_ret
      exact Or.inl ⟨Hfin.out, rfl, Hb.out⟩

end Go.Proofs.Ytbkedppkdhfpoaa

namespace Go.Proofs.Ytbkedppkdhfpoaa

/-- The place, what the rule goes to, and the bindings. -/
def findR (rs : List (T × T)) : T → Option (List Int × T × List (Int × T))
  | ⟨v, f, args⟩ => match findL args 0 with
    | some r => some r
    | none => (hitR rs ⟨v, f, args⟩).map (fun h => ([], h))
  where
  findL : List T → Nat → Option (List Int × T × List (Int × T))
    | [], _ => none
    | a :: l, i => match findR rs a with
      | some r => some ((i : Int) :: r.1, r.2)
      | none => findL l (i + 1)
theorem findR_eq (rs : List (T × T)) (t : T) : findR rs t = match findR.findL rs t.args 0 with
    | some r => some r
    | none => (hitR rs t).map (fun h => ([], h)) := by cases t; rw [findR]
theorem findL_drop {rs : List (T × T)} {ts : List T} {k : Nat} {x : T} (hx : ts[k]? = some x) : findR.findL rs (ts.drop k) k = match findR rs x with
    | some r => some ((k : Int) :: r.1, r.2)
    | none => findR.findL rs (ts.drop (k + 1)) (k + 1) := by
  have hlt := (List.getElem?_eq_some_iff.1 hx).1
  have e : ts.drop k = x :: ts.drop (k + 1) := by
    rw [List.getElem?_eq_getElem hlt] at hx
    simp at hx
    rw [← hx, List.getElem_cons_drop]
  rw [e, findR.findL]
theorem findL_some {rs : List (T × T)} {t x : T} {k : Nat} {r : List Int × T × List (Int × T)} (h0 : findR.findL rs t.args 0 = findR.findL rs (t.args.drop k) k) (hx : t.args[k]? = some x) (hr : findR rs x = some r) : findR rs t = some ((k : Int) :: r.1, r.2) := by
  rw [findR_eq, h0, findL_drop hx, hr]
theorem findL_none {rs : List (T × T)} {t x : T} {k : Nat} (h0 : findR.findL rs t.args 0 = findR.findL rs (t.args.drop k) k) (hx : t.args[k]? = some x) (hr : findR rs x = none) : findR.findL rs t.args 0 = findR.findL rs (t.args.drop (k + 1)) (k + 1) := by
  rw [h0, findL_drop hx, hr]
theorem findL_end {rs : List (T × T)} {t : T} (h0 : findR.findL rs t.args 0 = findR.findL rs (t.args.drop t.args.length) t.args.length) : findR rs t = (hitR rs t).map (fun h => ([], h)) := by
  have e : findR.findL rs t.args 0 = none := by rw [h0, List.drop_length]; rfl
  rw [findR_eq, e]
/-- The place is one of the term's, and what stands there is matched. -/
theorem findR_place {rs : List (T × T)} : ∀ (n : Nat) (t : T) (r : List Int × T × List (Int × T)), t.sz ≤ n → findR rs t = some r → ∃ u, atT t r.1 = some u ∧ hitR rs u = some r.2 ∧ r.1.length < n + 1 := by
  intro n
  induction n with
  | zero => intro t r h; have := t.sz_pos; omega
  | succ n ih =>
    intro t r hn hr
    have hL : ∀ (d k : Nat), d = t.args.length - k → k ≤ t.args.length → findR.findL rs t.args 0 = findR.findL rs (t.args.drop k) k → ∃ u, atT t r.1 = some u ∧ hitR rs u = some r.2 ∧ r.1.length < n + 1 + 1 := by
      intro d
      induction d with
      | zero =>
        intro k hd hk h0
        have hk2 : k = t.args.length := by omega
        subst hk2
        rw [findL_end h0] at hr
        cases hh : hitR rs t with
        | none => rw [hh] at hr; cases hr
        | some h =>
          rw [hh] at hr
          obtain rfl : ([], h) = r := by simpa using hr
          exact ⟨t, by rw [atT], hh, by simp⟩
      | succ d ihd =>
        intro k hd hk h0
        obtain ⟨x, hx⟩ : ∃ x, t.args[k]? = some x := ⟨t.args[k]'(by omega), List.getElem?_eq_getElem (by omega)⟩
        cases hf : findR rs x with
        | none => exact ihd (k + 1) (by omega) (by omega) (findL_none h0 hx hf)
        | some q =>
          rw [findL_some h0 hx hf] at hr
          obtain rfl : ((k : Int) :: q.1, q.2) = r := by simpa using hr
          have hxs := T.szL_mem (List.mem_of_getElem? hx)
          have hte := T.sz_eq t
          obtain ⟨u, h1, h2, h3⟩ := ih x q (by omega) hf
          refine ⟨u, ?_, h2, by simp; omega⟩
          show atT t ((k : Int) :: q.1) = some u
          rw [atT, if_pos (by omega), Int.toNat_natCast, hx]
          exact h1
    exact hL _ 0 rfl (Nat.zero_le _) (by rw [List.drop_zero])

end Go.Proofs.Ytbkedppkdhfpoaa

namespace Go.Proofs.Ytbkedppkdhfpoaa
open Go.RowKit

theorem app_keep {w : World} {base : Nat} {v : Value} {ys : List Int} {z : Int} {a : Addr} {c : Nat} (ty : TypeId) (hown : OwnI base w v ys) (hz : w.cell? a = some (.int .i64 z)) (hl : ys.length ≤ 1000) (hbase : base ≤ w.heap.size) :
    ∃ v' w', (Builtin.append_ #[22, 22] ty #[v, .slice (some a) 1 c]).run Try.prog w = .ok v' w' ∧ OwnI base w' v' (ys ++ [z]) ∧
      ((∃ g cap, v = .slice (some ⟨g, 0, none⟩) ys.length cap ∧ v' = .slice (some ⟨g, 0, none⟩) (ys.length + 1) cap ∧ w.grownBy w' (some g)) ∨ (v'.ownBlock = some w.heap.size ∧ Below w.heap.size w w')) := by
  obtain ⟨i, hi, hzz⟩ := Option.map_eq_some_iff.1 Try.info3
  simp only [Prod.mk.injEq] at hzz
  obtain ⟨hz0, hz1, hz2⟩ := hzz
  have hnew : ∀ j u, [Value.int .i64 z][j]? = some u → w.cell? (a.add j) = some u := fun j u hu => by
    cases j with
    | zero =>
      have e : a.add 0 = a := by cases a; simp [Addr.add]
      rw [e, hz]; simpa using hu
    | succ j => simp at hu
  have hone : ∀ u, u ∈ [Value.int .i64 z] → u.oneCell' = true := fun u hu => by
    rw [List.mem_singleton] at hu; subst hu; rfl
  obtain ⟨v', w', hr, h2, h3, _, h5⟩ := run_append_own_at (P := Try.prog) w base 22 ty 3 i (.int .i64 0) 1 8 Try.underlying22 hi hz0 hz1 hz2 rfl (by decide) v ys.length (ys.map (Value.int .i64)) hown a 1 c [.int .i64 z] rfl hnew hone (by unfold maxLen; omega) (by omega) hbase
  have h2' : OwnI base w' v' (ys ++ [z]) := by
    show w'.ownsRow base 3 1 v' (ys ++ [z]).length ((ys ++ [z]).map (Value.int .i64))
    rw [List.length_append, List.map_append]; exact h2
  refine ⟨v', w', hr, h2', ?_⟩
  rcases hown.2 with ⟨rfl, h0⟩ | ⟨g, cap, cur, rfl, hb, hg, hc, hm, hs, ht⟩
  · right
    have hne : v'.ownBlock ≠ none := fun e => by
      rcases h2.2 with ⟨rfl, h⟩ | ⟨g, cap, cur, rfl, _⟩
      · omega
      · cases e
    rcases h5 with h5 | h5
    · exact absurd h5 hne
    · exact ⟨h5, h3.os, h3.tape, h3.output, h3.size, fun k hk => h3.block k hk (fun e => by cases e)⟩
  · by_cases hroom : ys.length + 1 ≤ cap
    · left
      have hr2 := run_append_room (P := Try.prog) w 22 ty 3 i Try.underlying22 hi g ys.length cap cur hg a 1 c [.int .i64 z] (by rw [hz1]; rfl) hnew hone hroom (by rw [hz1, hs]; simp; omega)
      rw [hr] at hr2
      have e1 : v' = .slice (some ⟨g, 0, none⟩) (ys.length + 1) cap := by injection hr2
      exact ⟨g, cap, rfl, e1, h3⟩
    · right
      have hold : ∀ j u, (ys.map (Value.int .i64))[j]? = some u → w.cell? ((⟨g, 0, none⟩ : Addr).add j) = some u := hown.cells (g := g) rfl
      have hr2 := run_append_grow (P := Try.prog) w 22 ty 3 i (.int .i64 0) Try.underlying22 hi hz0 ⟨g, 0, none⟩ ys.length cap (ys.map (Value.int .i64)) (by rw [hz1]; simp) hold a 1 c [.int .i64 z] (by rw [hz1]; rfl) hnew (by omega) (by omega) (growslice_fits (by omega) (by rw [hz2]; omega))
      rw [hr] at hr2
      injection hr2 with e1 e2
      rw [e1, e2]
      exact ⟨rfl, (Below.refl w.heap.size w).drew.alloc (Nat.le_refl _) _⟩
/-- The list that was appended to stands in the longer one. -/
theorem own_prefix {w : World} {base g cap n : Nat} {ys zs : List Int} (h : OwnI base w (.slice (some ⟨g, 0, none⟩) n cap) (ys ++ zs)) (hn : n = ys.length + zs.length) : OwnI base w (.slice (some ⟨g, 0, none⟩) ys.length cap) ys := by
  obtain ⟨h1, h2⟩ := h
  refine ⟨by simp, ?_⟩
  rcases h2 with ⟨h2, _⟩ | ⟨g', cap', cur, hv, hb, hh, hc, hm, hs, ht⟩
  · cases h2
  · simp only [Value.slice.injEq, Option.some.injEq, Addr.mk.injEq, and_true] at hv
    obtain ⟨rfl, hn2, rfl⟩ := hv
    refine Or.inr ⟨g, cap, cur, rfl, hb, hh, by rw [List.length_append] at hc; omega, hm, hs, ?_⟩
    have h9 := congrArg (List.take (ys.length * 1)) ht
    rw [List.take_take, List.map_append, List.length_append] at h9
    rw [show min (ys.length * 1) ((ys.length + zs.length) * 1) = ys.length * 1 by omega] at h9
    rw [h9]
    have e : ys.length * 1 = (ys.map (Value.int .i64)).length := by simp
    rw [e, List.take_left]

end Go.Proofs.Ytbkedppkdhfpoaa

namespace Go.Proofs.Ytbkedppkdhfpoaa
open Go.RowKit

theorem eg101 (args : Array Value) (w : World) : (callFunc 101 args).run Try.prog w = .ok (.enter 101 args) w := by kernel_rfl

/-- What the search's closure leans on: where it lies, at the world W0 at which the search began. -/
structure FSz (ar : List Int) (ga : Option Addr) (gcap : Nat) (rs : List (T × T)) (ra : Option Addr) (rc l0 g0 t0 b0 LO : Nat) (W0 : World) : Prop where
  rsok : rulesErr ar rs = 0
  l : W0.cell? ⟨l0, 0, none⟩ = some (.slice ra rs.length rc)
  g : W0.cell? ⟨g0, 0, none⟩ = some (.slice ga ar.length gcap)
  r : RulesP (fun k => k < LO ∧ k ≠ t0 ∧ k ≠ b0) W0 rs ra
  gi : ∀ w', (∀ k, k < LO → k ≠ t0 → k ≠ b0 → w'.heap[k]? = W0.heap[k]?) → Ints w' ar ga
  ll : l0 < LO ∧ l0 ≠ t0 ∧ l0 ≠ b0
  gl : g0 < LO ∧ g0 ≠ t0 ∧ g0 ≠ b0
  tl : t0 < LO
  bl : b0 < LO
  ne : t0 ≠ b0
/-- What stands of it in a later world. -/
structure FD (t0 b0 LO : Nat) (W0 w : World) : Prop where
  same : ∀ k, k < LO → k ≠ t0 → k ≠ b0 → w.heap[k]? = W0.heap[k]?
  T : ∃ u0 u1 u2, Three w t0 u0 u1 u2
  B : ∃ u3, w.cell? ⟨b0, 0, none⟩ = some u3
  Bf : w.frozen? ⟨b0, 0, none⟩ = false
  size : LO ≤ w.heap.size
/-- Nothing below LO changes: it stands. -/
theorem FD.keep {t0 b0 LO : Nat} {W0 w w' : World} (h : FD t0 b0 LO W0 w) (ht : t0 < LO) (hb : b0 < LO) (hs : ∀ k, k < LO → w'.heap[k]? = w.heap[k]?) (hz : w.heap.size ≤ w'.heap.size) : FD t0 b0 LO W0 w' := by
  obtain ⟨u0, u1, u2, h3⟩ := h.T
  obtain ⟨u3, h4⟩ := h.B
  exact ⟨fun k h1 h2 h3 => (hs k h1).trans (h.same k h1 h2 h3), ⟨u0, u1, u2, h3.same (hs t0 ht)⟩, ⟨u3, (World.cell?_of_block (w := w) (a := ⟨b0, 0, none⟩) (hs b0 hb)).trans h4⟩, (World.frozen?_of_block (w := w) (a := ⟨b0, 0, none⟩) (hs b0 hb)).trans h.Bf, Nat.le_trans h.size hz⟩
/-- The closure, at a world in which all stands. -/
theorem stepC_at {ar : List Int} {ga : Option Addr} {gcap : Nat} {rs : List (T × T)} {ra : Option Addr} {rc l0 g0 t0 b0 LO : Nat} {W0 : World} (h : FSz ar ga gcap rs ra rc l0 g0 t0 b0 LO W0) {w : World} (hd : FD t0 b0 LO W0 w) (t : T) (a : Option Addr) (cap : Nat) (ht : t.sz ≤ 120 ∧ okP ar t) (hin : InP (fun k => k < LO ∧ k ≠ t0 ∧ k ≠ b0) W0 t.args a) :
    Calls Try.prog 101 #[.agg #[.int .i64 t.v, .int .i64 t.f, .slice a t.args.length cap], .pointer (some ⟨l0, 0, none⟩), .pointer (some ⟨g0, 0, none⟩), .pointer (some ⟨t0, 0, none⟩), .pointer (some ⟨b0, 0, none⟩)] w fun e w' => HitOut t0 b0 rs t w e w' := by
  obtain ⟨u0, u1, u2, h3⟩ := hd.T
  obtain ⟨u3, h4⟩ := hd.B
  refine stepC_any ar ga gcap rs ra rc t a cap l0 g0 t0 b0 u0 u1 u2 u3 w h.rsok ht (h.gi w hd.same) ?_ ?_ ?_ ?_ h3 h4 hd.Bf h.ne
  · exact RulesP_mono (fun b o v hp hv => ⟨hp.2, (World.cell?_of_block (w := W0) (a := ⟨b, o, none⟩) (hd.same b hp.1 hp.2.1 hp.2.2)).trans hv⟩) h.r
  · exact InP_imp (fun k hk => hk.2) (InP_same (fun k hk _ => hd.same k hk.1 hk.2.1 hk.2.2) hin)
  · exact (World.cell?_of_block (w := W0) (a := ⟨l0, 0, none⟩) (hd.same l0 h.ll.1 h.ll.2.1 h.ll.2.2)).trans h.l
  · exact (World.cell?_of_block (w := W0) (a := ⟨g0, 0, none⟩) (hd.same g0 h.gl.1 h.gl.2.1 h.gl.2.2)).trans h.g

/-- What the search answers and leaves: 'here' is the list v of ys. -/
def FOut (t0 b0 base : Nat) (v : Value) (ys : List Int) (r : Option (List Int × T × List (Int × T))) (w : World) (e : Ending) (w' : World) : Prop :=
  ∃ v' B, e = .returned (.tuple #[v', .bool B]) ∧ ((B = false ∧ r = none ∧ v' = v ∧ OwnI base w' v ys ∧ w.grownBy w' v.ownBlock) ∨
    (B = true ∧ ∃ p y bs a1 c1 la lc, r = some (p, y, bs) ∧ OwnI base w' v' (ys ++ p) ∧ Three w' t0 (.int .i64 y.v) (.int .i64 y.f) (.slice a1 y.args.length c1) ∧ InP (fun k => k ≠ t0 ∧ k ≠ b0) w' y.args a1 ∧ w'.cell? ⟨b0, 0, none⟩ = some (.slice la bs.length lc) ∧ w'.frozen? ⟨b0, 0, none⟩ = false ∧ Binds (fun k => w.heap.size ≤ k) w' bs la ∧
      w'.os = w.os ∧ w'.tape = w.tape ∧ w'.output = w.output ∧ w.heap.size ≤ w'.heap.size ∧ ∀ k, k < w.heap.size → k ≠ t0 → k ≠ b0 → v.ownBlock ≠ some k → w'.heap[k]? = w.heap[k]?))

theorem step_append_keep {w : World} {ops : Array Oper} {o : Oper} {a : Act} {K : Act → World → Prop} {Q : Exit → Act → World → Prop} {E : Prop} (hgd : o.guard = none) (s x : Operand) (ho : o.op = .call { callee := .builtin .append, args := #[s, x], argTypes := #[22, 22] })
    (base : Nat) (v : Value) (ys : List Int) (hs : a.eval s = v) (hown : OwnI base w v ys) (ad : Addr) (c : Nat) (z : Int) (hx : a.eval x = .slice (some ad) 1 c) (hz : w.cell? ad = some (.int .i64 z)) (hl : ys.length ≤ 1000) (hbase : base ≤ w.heap.size)
    (h : ∀ v' w', OwnI base w' v' (ys ++ [z]) → ((∃ g cap, v = .slice (some ⟨g, 0, none⟩) ys.length cap ∧ v' = .slice (some ⟨g, 0, none⟩) (ys.length + 1) cap ∧ w.grownBy w' (some g)) ∨ (v'.ownBlock = some w.heap.size ∧ Below w.heap.size w w')) → K (a.put o.dst v') w') :
    if Region.wanted o (yielded ops a.tmps) = true then Oper.wp Try.prog o a w K Q else E := by
  have hw : Region.wanted o (yielded ops a.tmps) = true := by simp [Region.wanted, hgd]
  rw [if_pos hw]
  obtain ⟨v', w', hr, h2, h3⟩ := app_keep o.type hown hz hl hbase (c := c)
  unfold Oper.wp execOp
  simp only [ho, resolve, invoke, builtin, Sem.run_bind, Sem.run_pure, Result.andThen_ok, List.map_toArray, List.map_cons, List.map_nil, hs, hx, hr]
  exact h v' w' h2 h3

/-- Behind the append: what stands, and what the longer list's being there again tells. -/
theorem app_after {base : Nat} {v v6 : Value} {ys : List Int} {z : Int} {wr wa w6 : World} (ho : OwnI base wr v ys) (hba : Below wr.heap.size wr wa) (hc : (∃ g cap, v = .slice (some ⟨g, 0, none⟩) ys.length cap ∧ v6 = .slice (some ⟨g, 0, none⟩) (ys.length + 1) cap ∧ wa.grownBy w6 (some g)) ∨ (v6.ownBlock = some wa.heap.size ∧ Below wa.heap.size wa w6)) :
    wr.grownBy w6 v.ownBlock ∧ (∀ k, k < wr.heap.size → v.ownBlock ≠ some k → v6.ownBlock ≠ some k) ∧ ∀ w7, OwnI base w7 v6 (ys ++ [z]) → w6.grownBy w7 v6.ownBlock → OwnI base w7 v ys ∧ wr.grownBy w7 v.ownBlock := by
  have hza := hba.size
  rcases hc with ⟨g, cap, rfl, rfl, hg⟩ | ⟨h6, hb6⟩
  · have hgr : wr.grownBy w6 (some g) := ⟨hg.os.trans hba.os, hg.tape.trans hba.tape, hg.output.trans hba.output, Nat.le_trans hza hg.size, fun k hk hne => (hg.block k (by omega) hne).trans (hba.block k hk)⟩
    refine ⟨hgr, fun k _ h => h, fun w7 h7 hg7 => ⟨own_prefix h7 (by simp), hgr.trans hg7⟩⟩
  · have hz6 := hb6.size
    have hk6 : ∀ k, k < wr.heap.size → w6.heap[k]? = wr.heap[k]? := fun k hk => (hb6.block k (by omega)).trans (hba.block k hk)
    refine ⟨⟨hb6.os.trans hba.os, hb6.tape.trans hba.tape, hb6.output.trans hba.output, by omega, fun k hk _ => hk6 k hk⟩, fun k hk _ e => by rw [h6] at e; cases e; omega, fun w7 h7 hg7 => ?_⟩
    have hk7 : ∀ k, k < wr.heap.size → w7.heap[k]? = wr.heap[k]? := fun k hk => (hg7.block k (by omega) (fun e => by rw [h6] at e; cases e; omega)).trans (hk6 k hk)
    exact ⟨own_same ho (fun g hg => hk7 g (own_lt ho g hg).2), hg7.os.trans (hb6.os.trans hba.os), hg7.tape.trans (hb6.tape.trans hba.tape), hg7.output.trans (hb6.output.trans hba.output), by have := hg7.size; omega, fun k hk _ => hk7 k hk⟩

attribute [local go_sem ↓] Go.wp_at_zero Go.wp_at_succ
set_option maxRecDepth 100000 in
set_option maxHeartbeats 2000000 in
theorem first_any {ar : List Int} {ga : Option Addr} {gcap : Nat} {rs : List (T × T)} {ra : Option Addr} {rc l0 g0 t0 b0 LO : Nat} {W0 : World} (h : FSz ar ga gcap rs ra rc l0 g0 t0 b0 LO W0) (base : Nat) (hLO : LO ≤ base) (N : Nat) : ∀ (t : T) (a : Option Addr) (cap : Nat) (v : Value) (ys : List Int) (w : World), t.sz ≤ N → t.sz ≤ 120 → okP ar t → ys.length + t.sz ≤ 1000 → FD t0 b0 LO W0 w → base ≤ w.heap.size → OwnI base w v ys → InP (fun k => k < LO ∧ k ≠ t0 ∧ k ≠ b0) W0 t.args a →
    Calls Try.prog 100 #[.agg #[.int .i64 t.v, .int .i64 t.f, .slice a t.args.length cap], v, .func (.func 101) #[] #[.pointer (some ⟨l0, 0, none⟩), .pointer (some ⟨g0, 0, none⟩), .pointer (some ⟨t0, 0, none⟩), .pointer (some ⟨b0, 0, none⟩)]] w fun e w' => FOut t0 b0 base v ys (findR rs t) w e w' := by
  induction N with
  | zero => intro t a cap v ys w hN; have := t.sz_pos; omega
  | succ N ih =>
    intro t a cap v ys w hN h120 hok hyl hd hbase hown hin
    have eg := eg101
    have Hih := hide ih
    have Hd0 := hide hd
    have Hown := hide hown
    have Hin := hide hin
    have Hok := hide hok
    have Hfs := hide h
    have hts := T.sz_eq t
    have htl : t.args.length ≤ 1000 := by have := T.length_le t.args; omega
    have hvb := own_lt hown
    have Hvb := hide hvb
    clear ih hd hown hin hok hvb
    go_enter Try.func100, Try.ntmps100
    go_wp2_with fail
    go_loopw [15] (fun iv wr => ∃ k : Nat, k ≤ t.args.length ∧ iv = .int .i64 k ∧ Hid (findR.findL rs t.args 0 = findR.findL rs (t.args.drop k) k) ∧ Hid (FD t0 b0 LO W0 wr) ∧ Hid (OwnI base wr v ys) ∧ Hid (w.grownBy wr v.ownBlock) ∧ Three wr w.heap.size (.int .i64 t.v) (.int .i64 t.f) (.slice a t.args.length cap)) (fun iv _ => t.args.length - (intOf iv).toNat)
    case atStart =>
      refine ⟨0, Nat.zero_le _, rfl, by rw [List.drop_zero]; rfl, ?_, OwnI.below Hown.out (below1 _ _), ⟨rfl, rfl, rfl, by simp, fun k hk _ => (below1 w _).block k hk⟩, Three.new _ rfl⟩
      exact Hd0.out.keep Hfs.out.tl Hfs.out.bl (fun k hk => (below1 w _).block k (by omega)) (by simp)
    case round =>
      obtain ⟨k, hk, rfl, Hk, Hd, Ho, Hgr, h3⟩ := hrel
      have H3 := hide h3
      have hzr := h3.lt
      by_cases hlt : k < t.args.length
      · obtain ⟨b, off, rfl⟩ := InP_some Hin.out (by omega)
        obtain ⟨x, hx⟩ : ∃ x, t.args[k]? = some x := ⟨t.args[k], List.getElem?_eq_getElem hlt⟩
        obtain ⟨a3, cap3, hpb, d0, d1, d2, hinx⟩ := InP_at Hin.out hx
        have hsb := Hd.out.same b hpb.1 hpb.2.1 hpb.2.2
        have k0 : wr.cell? ⟨b, off + k * 3, none⟩ = some (.int .i64 x.v) := (World.cell?_of_block (w := W0) (a := ⟨b, off + k * 3, none⟩) hsb).trans d0
        have k1 : wr.cell? ⟨b, off + k * 3 + 1, none⟩ = some (.int .i64 x.f) := (World.cell?_of_block (w := W0) (a := ⟨b, off + k * 3 + 1, none⟩) hsb).trans d1
        have k2 : wr.cell? ⟨b, off + k * 3 + 2, none⟩ = some (.slice a3 x.args.length cap3) := (World.cell?_of_block (w := W0) (a := ⟨b, off + k * 3 + 2, none⟩) hsb).trans d2
        have hxm := List.mem_of_getElem? hx
        have hxs := T.szL_mem hxm
        have hxo := okL_mem.1 (okP_iff.1 Hok.out).2 x hxm
        have Hx := hide hx
        have Hinx := hide hinx
        have Hxo := hide hxo
        have hkI : (k : Int) < t.args.length := by omega
        have hk0 : (0 : Int) ≤ k := by omega
        have HO := hide (fun (w' : World) (hh : w'.heap = ((wr.alloc (.cells #[.int .i64 x.v, .int .i64 x.f, .slice a3 x.args.length cap3] 27)).alloc (.cells #[.int .i64 (k : Int)] 3)).heap) => own_same Ho.out (w' := w') (fun g hg => by rw [hh]; exact (below2 wr _ _).block g (own_lt Ho.out g hg).2))
        have HC := hide (fun (w' : World) (hh : w'.heap = ((wr.alloc (.cells #[.int .i64 x.v, .int .i64 x.f, .slice a3 x.args.length cap3] 27)).alloc (.cells #[.int .i64 (k : Int)] 3)).heap) => (show w'.cell? ⟨wr.heap.size + 1, 0, none⟩ = some (.int .i64 (k : Int)) from by
          rw [World.cell?_of_block (w := (wr.alloc (.cells #[.int .i64 x.v, .int .i64 x.f, .slice a3 x.args.length cap3] 27)).alloc (.cells #[.int .i64 (k : Int)] 3)) (a := ⟨wr.heap.size + 1, 0, none⟩) (by rw [hh])]
          exact cell_new 0 (by simp)))
        have hyk : ys.length ≤ 1000 := by omega
        have hbr : base ≤ wr.heap.size := by omega
        clear hx hinx hxo d0 d1 d2 hsb
        go_wp2_with fail
        go_region_law ((first
          | (refine step_append_keep rfl (.tmp 22) (.tmp 24) rfl base v ys rfl (HO.out _ rfl) ⟨wr.heap.size + 1, 0, none⟩ 1 (k : Int) rfl (HC.out _ rfl) hyk (by simp; omega) ?_
             intro v6 w6 hown6 hcase
             have HA := hide (app_after (z := (k : Int)) Ho.out (by exact ⟨rfl, rfl, rfl, (below2 wr _ _).size, (below2 wr _ _).block⟩) hcase)
             have HO6 := hide hown6
             have HD6 := hide (Hd.out.keep (w' := w6) Hfs.out.tl Hfs.out.bl (fun j hj => HA.out.1.block j (by have := Hd.out.size; omega) (fun e => by have := (own_lt Ho.out j e.symm).1; omega)) HA.out.1.size)
             have hz6 := HA.out.1.size
             have hbx : w6.heap[wr.heap.size]? = ((wr.alloc (.cells #[.int .i64 x.v, .int .i64 x.f, .slice a3 x.args.length cap3] 27)).alloc (.cells #[.int .i64 (k : Int)] 3)).heap[wr.heap.size]? := by
               rcases hcase with ⟨g, cap', e1, _, hg⟩ | ⟨_, hb⟩
               · exact hg.block wr.heap.size (by simp; omega) (fun e => by have h9 := (own_lt Ho.out g (by rw [e1]; rfl)).2; simp at e; omega)
               · exact hb.block wr.heap.size (by simp; omega)
             obtain ⟨z0, z1, z2, _, _, _⟩ := ((Three.new 27 rfl).alloc _).same hbx
             clear hown6 hcase hbx)
          | (go_simp
             go_at_call 100
             refine (Hih.out x a3 cap3 v6 (ys ++ [(k : Int)]) _ (by omega) (by omega) Hxo.out (by rw [List.length_append, List.length_singleton]; omega) HD6.out (by omega) HO6.out Hinx.out).mono ?_
             rintro e w7 ⟨v7, B, rfl, hout⟩)))
        all_goals
          have hz7 : True := trivial
          rcases hout with ⟨hB, hr7, hv7, ho7, hg7⟩ | ⟨hB, p, y, bs, a1, c1, la, lc, hr7, ho7, hT7, hI7, hc7, hf7, hb7, e1, e2, e3, e4, e5⟩
          · subst hB hv7
            obtain ⟨j1, j2⟩ := HA.out.2.2 w7 ho7 hg7
            have Ho7 := hide j1
            have Hg7 := hide (Hgr.out.trans j2)
            have HD7 := hide (Hd.out.keep (w' := w7) Hfs.out.tl Hfs.out.bl (fun i hi => j2.block i (by have := Hd.out.size; omega) (fun e => by have := (own_lt Ho.out i e.symm).1; omega)) j2.size)
            have H37 := hide (H3.out.same (j2.block w.heap.size hzr (fun e => by have := (Hvb.out _ e.symm).2; omega)))
            have Hn := hide (findL_none Hk.out Hx.out hr7)
            clear j1 j2 ho7 hg7 hr7
            go_wp2_with fail
            go_roundw
            case rel => exact ⟨k + 1, by omega, by go_num, Hn, HD7, Ho7, Hg7, H37.out⟩
            case measure => simp [intOf]; omega
          · subst hB
            have Hn := hide (findL_some Hk.out Hx.out hr7)
            have Hfo : Hid (FOut t0 b0 base v ys (findR rs t) w (.returned (.tuple #[v7, .bool true])) w7) := by
              have hw6 : wr.heap.size ≤ w6.heap.size := HA.out.1.size
              have hwr : w.heap.size ≤ wr.heap.size := Hgr.out.size
              refine ⟨v7, true, rfl, Or.inr ⟨rfl, (k : Int) :: p, y, bs, a1, c1, la, lc, Hn.out, by rw [List.append_cons]; exact ho7, hT7, hI7, hc7, hf7, Binds_imp (fun j hj => by have hj : w6.heap.size ≤ j := hj; omega) hb7, e1.trans (HA.out.1.os.trans Hgr.out.os), e2.trans (HA.out.1.tape.trans Hgr.out.tape), e3.trans (HA.out.1.output.trans Hgr.out.output), by omega, fun j hj h1 h2 h3' => ?_⟩⟩
              have n1 : some j ≠ v.ownBlock := fun e => h3' e.symm
              rw [e5 j (by omega) h1 h2 (HA.out.2.1 j (by omega) h3'), HA.out.1.block j (by omega) n1, Hgr.out.block j hj n1]
            clear hr7 ho7 hT7 hI7 hc7 hf7 hb7 e1 e2 e3 e4 e5
            go_wp2_with fail
            go_ret2
            exact Hfo.out
      · have hk2 : k = t.args.length := by omega
        subst hk2
        have Hfin := hide (findL_end Hk.out)
        obtain ⟨q0, q1, q2, _, _, _⟩ := h3
        have HS := hide (stepC_at Hfs.out Hd.out t a cap ⟨h120, Hok.out⟩ Hin.out)
        clear Hk
        go_wp2_with fail
        refine HS.out.mono ?_
        rintro e w5 (⟨n1, rfl, n3⟩ | ⟨y, bs, a1, c1, la, lc, n1, rfl, n3, n4, n5, n6, n7, n8⟩)
        · have Hfo : Hid (FOut t0 b0 base v ys (findR rs t) w (.returned (.tuple #[v, .bool false])) w5) := ⟨v, false, rfl, Or.inl ⟨rfl, by rw [Hfin.out, n1]; rfl, rfl, OwnI.below Ho.out n3, Hgr.out.trans ⟨n3.os, n3.tape, n3.output, n3.size, fun j hj _ => n3.block j hj⟩⟩⟩
          clear n1 n3
          go_wp2_with fail
          go_ret2
          exact Hfo.out
        · have Hfo : Hid (FOut t0 b0 base v ys (findR rs t) w (.returned (.tuple #[v, .bool true])) w5) := by
            have hwr : w.heap.size ≤ wr.heap.size := Hgr.out.size
            have htl' := Hfs.out.tl
            have hbl' := Hfs.out.bl
            refine ⟨v, true, rfl, Or.inr ⟨rfl, [], y, bs, a1, c1, la, lc, by rw [Hfin.out, n1]; rfl, ?_, n3, n4, n5, n6, Binds_imp (fun j hj => by have hj : wr.heap.size ≤ j := hj; omega) n7, n8.os.trans Hgr.out.os, n8.tape.trans Hgr.out.tape, n8.output.trans Hgr.out.output, Nat.le_trans hwr n8.size, fun j hj h1 h2 h3' => ?_⟩⟩
            · rw [List.append_nil]
              exact own_same Ho.out (fun g hg => n8.block g (own_lt Ho.out g hg).2 (by have := (own_lt Ho.out g hg).1; omega) (by have := (own_lt Ho.out g hg).1; omega))
            · rw [n8.block j (by omega) h1 h2, Hgr.out.block j hj (fun e => h3' e.symm)]
          clear n1 n3 n4 n5 n6 n7 n8
          go_wp2_with fail
          go_ret2
          exact Hfo.out

end Go.Proofs.Ytbkedppkdhfpoaa
