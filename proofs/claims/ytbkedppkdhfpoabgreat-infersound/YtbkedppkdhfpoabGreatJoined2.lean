/- The program's checks of terms, against the document's order of errors. The program's Size, and its way to a place. Terms that the program has made itself: every list of arguments in a block of its own. The program's collecting of the variables of a term. Maps keyed by numbers: what they hold at each number. All parts of a term, in a list of the call's own. -/
import Derived.Deep.AppendLies
import Derived.Deep.DeepCutAuto
import Derived.Deep.DrawnRows
import Derived.Deep.RegionHeld3
import Derived.Deep.RegionWith
import Derived.Maps.OwnOps
import Derived.Maps.OwnSet
import Derived.Test.YtbkedppkdhfpoabGreatJoined1
namespace Go.Proofs.YtbkedppkdhfpoabGreat
open Go.RowKit
theorem Keeps.of_below {x : Nat} {F : Option Obj → Nat → Prop} {w w' : World} (hx : x < w.heap.size) (h : Below w.heap.size w w') : Keeps x F w w' :=
  ⟨h.os, h.tape, h.output, h.size, fun k hk _ _ => h.block k hk, fun k hF => Or.inl (by rwa [h.block x hx] at hF)⟩
def noFoot : Option Obj → Nat → Prop := fun _ _ => False
theorem Keeps.setCell {x : Nat} {a w : World} (h : Keeps x noFoot a w) (j : Nat) (v : Value) : Keeps x noFoot a (w.setCell ⟨x, j, none⟩ v) :=
  h.trans ⟨rfl, rfl, rfl, by simp [World.setCell], fun k _ hk _ => Below.heap_setCell _ _ _ _ hk, fun _ hF => hF.elim⟩
theorem Foot.of (x B : Nat) (w : World) (hx : x < w.heap.size) (hB : B ≤ w.heap.size) : Foot x B noFoot w := ⟨hx, hB, fun _ h => h.elim⟩
def IntsOff (x : Nat) (w : World) (zs : List Int) (a : Option Addr) : Prop :=
  zs = [] ∨ ∃ b off, a = some ⟨b, off, none⟩ ∧ b ≠ x ∧ ∀ i, i < zs.length → w.cell? ⟨b, off + i, none⟩ = some (.int .i64 (zs.getD i 0))
theorem IntsOff.ints {x : Nat} {w : World} {zs : List Int} {a : Option Addr} (h : IntsOff x w zs a) : Ints w zs a := by
  rcases h with h | ⟨b, off, h1, _, h3⟩
  · exact Or.inl h
  · exact Or.inr ⟨b, off, h1, h3⟩
theorem IntsOff.keeps {x : Nat} {w w' : World} {zs : List Int} {a : Option Addr} (h : IntsOff x w zs a) (hk : Keeps x noFoot w w') : IntsOff x w' zs a := by
  rcases h with h | ⟨b, off, h1, h2, h3⟩
  · exact Or.inl h
  · exact Or.inr ⟨b, off, h1, h2, fun i hi => by
      rw [World.cell?_of_block (w := w) (a := ⟨b, off + i, none⟩) (hk.block b (lt_of_cell (h3 i hi)) h2 (fun h => h))]; exact h3 i hi⟩
structure ErrAt (ar : List Int) (x xg : Nat) (ga : Option Addr) (gcap : Nat) (w : World) (e : Int) : Prop where
  ne : xg ≠ x
  ce : w.cell? ⟨x, 0, none⟩ = some (.int .i64 e)
  fe : w.frozen? ⟨x, 0, none⟩ = false
  cg : w.cell? ⟨xg, 0, none⟩ = some (.slice ga ar.length gcap)
  ig : IntsOff x w ar ga
theorem ErrAt.below {ar : List Int} {x xg : Nat} {ga : Option Addr} {gcap : Nat} {w w' : World} {e : Int} (h : ErrAt ar x xg ga gcap w e) (hb : Below w.heap.size w w') : ErrAt ar x xg ga gcap w' e := by
  have hx := lt_of_cell h.ce
  refine ⟨h.ne, ?_, ?_, ?_, h.ig.keeps (Keeps.of_below hx hb)⟩
  · rw [hb.cell (p := ⟨x, 0, none⟩) hx]; exact h.ce
  · rw [hb.frozen (p := ⟨x, 0, none⟩) hx]; exact h.fe
  · rw [hb.cell (p := ⟨xg, 0, none⟩) (lt_of_cell h.cg)]; exact h.cg
theorem ErrAt.set {ar : List Int} {x xg : Nat} {ga : Option Addr} {gcap : Nat} {w : World} {e : Int} (h : ErrAt ar x xg ga gcap w e) (e' : Int) : ErrAt ar x xg ga gcap (w.setCell ⟨x, 0, none⟩ (.int .i64 e')) e' := by
  refine ⟨h.ne, ?_, ?_, ?_, h.ig.keeps ((Keeps.refl _ _ _).setCell _ _)⟩
  · exact World.cell?_setCell_same _ _ _ h.ce
  · rw [World.frozen?_setCell]; exact h.fe
  · rw [World.cell?_setCell_other _ _ _ _ (fun h' => h.ne (by simp at h'; exact h'.symm))]; exact h.cg
def partStep (ar : List Int) : Int → T → Int × Bool := fun _ t => (partErr ar t.v t.f t.args.length, partErr ar t.v t.f t.args.length == 0)
set_option maxRecDepth 100000 in
set_option maxHeartbeats 400000 in
theorem checkTermC_any (ar : List Int) (x xg : Nat) (ga : Option Addr) (gcap : Nat) (w : World) (e0 : Int) (t : T) (a : Option Addr) (cap : Nat) (h : ErrAt ar x xg ga gcap w e0) :
    Calls Tryz.prog 250 #[.agg #[.int .i64 t.v, .int .i64 t.f, .slice a t.args.length cap], .pointer (some ⟨xg, 0, none⟩), .pointer (some ⟨x, 0, none⟩)] w fun e w' =>
      e = .returned (.bool (partStep ar e0 t).2) ∧ ErrAt ar x xg ga gcap w' (partStep ar e0 t).1 ∧ Keeps x noFoot w w' := by
  have hx := lt_of_cell h.ce
  have hxg := lt_of_cell h.cg
  have cg := h.cg
  unfold partStep
  obtain ⟨r, hr⟩ : ∃ r, partErr ar t.v t.f t.args.length = r := ⟨_, rfl⟩
  rw [hr]
  have Hr := hide hr
  clear hr
  go_enter Tryz.func250, Tryz.ntmps250
  go_wp2_with fail
  refine (checkPart_any ar ga gcap t.v t.f t.args.length a cap _ (Ints_alloc _ h.ig.ints)).mono ?_
  rw [Hr.out]
  rintro e w1 ⟨rfl, hbw⟩
  have h1 := h.below ((below1 _ _).trans (hbw.mono (by simp)))
  have hk1 : Keeps x noFoot w w1 := Keeps.of_below hx ((below1 _ _).trans (hbw.mono (by simp)))
  have ce := h1.ce
  have fe := h1.fe
  have h2 := h1.set r
  have hk2 := hk1.setCell 0 (.int .i64 r)
  have H2 := hide h2
  have HK2 := hide hk2
  have hce2 := h2.ce
  clear h2 hk2 hk1 hbw h1
  go_wp2_with fail
  go_ret
  exact ⟨rfl, H2, HK2⟩
theorem eg250 (args : Array Value) (w : World) : (callFunc 250 args).run Tryz.prog w = .ok (.enter 250 args) w := by kernel_rfl
def termErr (ar : List Int) (t : T) : Int := if 120 < t.sz then 2 else (lookT.lookL (partStep ar) 0 [t]).1
theorem InP_one {p : Nat → Prop} {w : World} {t : T} {b : Nat} {a : Option Addr} {cap : Nat} (hp : p b) (h : InP p w t.args a) (c0 : w.cell? ⟨b, 0, none⟩ = some (.int .i64 t.v)) (c1 : w.cell? ⟨b, 1, none⟩ = some (.int .i64 t.f))
    (c2 : w.cell? ⟨b, 2, none⟩ = some (.slice a t.args.length cap)) : InP p w [t] (some ⟨b, 0, none⟩) :=
  InP_cons.2 ⟨b, 0, _, rfl, hp, c0, c1, c2, In_iff.2 ⟨a, cap, rfl, h⟩, InP_nil⟩
theorem InP_new1 {p : Nat → Prop} {w : World} {t : T} {a : Option Addr} {cap n : Nat} (e : TypeId) (hn : n = w.heap.size) (hp : p w.heap.size) (h : InP p w t.args a) :
    InP p (w.alloc (.cells #[.int .i64 t.v, .int .i64 t.f, .slice a t.args.length cap] e)) [t] (some ⟨n, 0, none⟩) := by
  subst hn
  exact InP_one hp (InP_alloc _ h) (World.cell?_alloc_mark _ _ _ _ _) (World.cell?_alloc_mark _ _ _ _ _) (World.cell?_alloc_mark _ _ _ _ _)
theorem bcell {W w1 : World} (hb : Below W.heap.size W w1) : (∀ b o, b < W.heap.size → w1.cell? ⟨b, o, none⟩ = W.cell? ⟨b, o, none⟩) ∧ (∀ b o, b < W.heap.size → w1.frozen? ⟨b, o, none⟩ = W.frozen? ⟨b, o, none⟩) :=
  ⟨fun b o h => hb.cell (p := ⟨b, o, none⟩) h, fun b o h => hb.frozen (p := ⟨b, o, none⟩) h⟩
theorem cell_alloc_lt {w : World} {o : Obj} {b j : Nat} (h : b < w.heap.size) : (w.alloc o).cell? ⟨b, j, none⟩ = w.cell? ⟨b, j, none⟩ := (below1 w o).cell (p := ⟨b, j, none⟩) h
theorem cell_new {w : World} {C : Array Value} {e : TypeId} {fr : Nat × Nat} {n : Nat} (j : Nat) (hn : n = w.heap.size) : (w.alloc (.cells C e fr)).cell? ⟨n, j, none⟩ = C[j]? := by
  subst hn; exact World.cell?_alloc_mark _ _ _ _ _
theorem frozen_new {w : World} {C : Array Value} {e : TypeId} {n : Nat} (j : Nat) (hn : n = w.heap.size) : (w.alloc (.cells C e)).frozen? ⟨n, j, none⟩ = false := by
  subst hn; simp
theorem Below.of_keeps {x B : Nat} {W w' : World} (h : Keeps x noFoot W w') (hx : B ≤ x) (hB : B ≤ W.heap.size) : Below B W w' :=
  ⟨h.os, h.tape, h.output, h.size, fun k hk => h.block k (by omega) (by omega) (fun h => h)⟩
theorem ErrAt.start {ar : List Int} {w : World} {xg : Nat} {ga : Option Addr} {gcap : Nat} (e : TypeId) (o : Obj) (cg : w.cell? ⟨xg, 0, none⟩ = some (.slice ga ar.length gcap)) (hg : Ints w ar ga) :
    ErrAt ar w.heap.size xg ga gcap ((w.alloc (.cells #[.int .i64 0] e)).alloc o) 0 := by
  have hlt := lt_of_cell cg
  have h1 : ErrAt ar w.heap.size xg ga gcap (w.alloc (.cells #[.int .i64 0] e)) 0 := by
    refine ⟨by omega, World.cell?_alloc_mark _ _ _ _ _, ?_, ?_, ?_⟩
    · simp
    · rw [(below1 w _).cell (p := ⟨xg, 0, none⟩) hlt]; exact cg
    · rcases hg with h | ⟨b, off, rfl, h⟩
      · exact Or.inl h
      · by_cases hz : ar = []
        · exact Or.inl hz
        · have hb := lt_of_cell (h 0 (List.length_pos_iff.2 hz))
          exact Or.inr ⟨b, off, rfl, by omega, fun i hi => by rw [(below1 w _).cell (p := ⟨b, off + i, none⟩) (lt_of_cell (h i hi))]; exact h i hi⟩
  exact h1.below (below1 _ _)
theorem look_check (ar : List Int) (x xg : Nat) (ga : Option Addr) (gcap B : Nat) (ts : List T) (a : Option Addr) (cap : Nat) (w : World) (h1000 : T.sz.szL ts ≤ 1000) (hf : Foot x B noFoot w) (hin : InP (fun k => k < B ∧ k ≠ x) w ts a)
    (hst : ErrAt ar x xg ga gcap w 0) :
    Calls Tryz.prog 167 #[.func (.func 250) #[] #[.pointer (some ⟨xg, 0, none⟩), .pointer (some ⟨x, 0, none⟩)], .slice a ts.length cap] w fun e w' =>
      e = .returned (.bool (lookT.lookL (partStep ar) 0 ts).2) ∧ ErrAt ar x xg ga gcap w' (lookT.lookL (partStep ar) 0 ts).1 ∧ Keeps x noFoot w w' :=
  look_any (partStep ar) 250 #[.pointer (some ⟨xg, 0, none⟩), .pointer (some ⟨x, 0, none⟩)] x B noFoot (ErrAt ar x xg ga gcap) eg250 (fun _ => 0) 1001 (fun _ _ => Nat.zero_le _) (fun _ _ _ _ h => h.below (below1 _ _))
    (fun w' s t' a' cap' _ _ h => checkTermC_any ar x xg ga gcap w' s t' a' cap' h) (T.sz.szL ts + 1) ts a cap w 0 (by omega) h1000 (by simp; omega) hf hin hst
set_option maxRecDepth 100000 in
set_option maxHeartbeats 400000 in
theorem checkTerm_any (ar : List Int) (ga : Option Addr) (gcap : Nat) (t : T) (a : Option Addr) (cap : Nat) (w : World) (hg : Ints w ar ga) (ht : InL w t.args a) :
    Calls Tryz.prog 211 #[.agg #[.slice ga ar.length gcap], .agg #[.int .i64 t.v, .int .i64 t.f, .slice a t.args.length cap]] w fun e w' => e = .returned (.int .i64 (termErr ar t)) ∧ Below w.heap.size w w' := by
  have hmf : ∀ (fn : Fn) (first cap : Array Value) (w : World), (Instr.makeFunc fn first cap).run Tryz.prog w = .ok (.func fn first cap) w := fun _ _ _ _ => rfl
  have hs1 : T.sz.szL [t] = t.sz := by rw [T.szL_cons, T.szL_nil]; omega
  have Hs1 := hide hs1
  clear hs1
  go_enter Tryz.func211, Tryz.ntmps211
  go_wp2_with fail
  refine (size_any (t.sz + 1) [t] 120 _ 1 _ (by rw [Hs1.out]; omega) (by omega) (by omega) (InP_new1 _ (by simp) trivial (InP_alloc _ (InP_alloc _ ht)))).mono ?_
  rintro e w1 ⟨rfl, hb1⟩
  rw [Hs1.out]
  have hbw : Below w.heap.size w w1 := (((below1 _ _).alloc (by simp) _).alloc (by simp; omega) _).trans (hb1.mono (by simp; omega))
  by_cases hbig : 120 < t.sz
  · have hm : min (t.sz : Int) (120 + 1) = 121 := by omega
    rw [hm]
    have hfin : termErr ar t = 2 := by rw [termErr, if_pos hbig]
    have Hfin := hide hfin
    clear hfin hm
    go_wp2_with fail
    go_ret
    exact ⟨by rw [Hfin.out]; rfl, hbw⟩
  · have hm : min (t.sz : Int) (120 + 1) = t.sz := by omega
    rw [hm]
    have hfin : termErr ar t = (lookT.lookL (partStep ar) 0 [t]).1 := by rw [termErr, if_neg hbig]
    have Hfin := hide hfin
    clear hfin hm
    obtain ⟨hc1, hf1⟩ := bcell hb1
    have hz1 : w.heap.size + 3 ≤ w1.heap.size := by have := hb1.size; simp at this; omega
    have cg : w1.cell? ⟨w.heap.size, 0, none⟩ = some (.slice ga ar.length gcap) := by
      rw [hc1 _ _ (by simp; omega), cell_alloc_lt (by simp; omega), cell_alloc_lt (by simp), World.cell?_alloc_mark]; rfl
    have hd : ∀ j, w1.cell? ⟨w.heap.size + 1, j, none⟩ = #[Value.int .i64 t.v, .int .i64 t.f, .slice a t.args.length cap][j]? := fun j => by
      rw [hc1 _ _ (by simp), cell_alloc_lt (by simp), cell_new _ (by simp)]
    have d0 := hd 0
    have d1 := hd 1
    have d2 := hd 2
    simp only [List.getElem?_toArray, List.getElem?_cons_zero, List.getElem?_cons_succ] at d0 d1 d2
    clear hd hc1 hf1
    have hz2 : w.heap.size + 1 < w1.heap.size := by omega
    have hin1 := InP_lt (InP_below hbw ht)
    have hin2 : ∀ e1 e2, InP (fun k => k < w1.heap.size + 2 ∧ k ≠ w1.heap.size) ((w1.alloc (.cells #[.int .i64 0] e1)).alloc (.cells #[.int .i64 t.v, .int .i64 t.f, .slice a t.args.length cap] e2)) [t] (some ⟨w1.heap.size + 1, 0, none⟩) :=
      fun e1 e2 => InP_new1 e2 (by simp) (by constructor <;> simp) (InP_alloc _ (InP_imp (fun k h => by omega) hin1))
    have hst : ∀ e1 e2, ErrAt ar w1.heap.size w.heap.size ga gcap ((w1.alloc (.cells #[.int .i64 0] e1)).alloc (.cells #[.int .i64 t.v, .int .i64 t.f, .slice a t.args.length cap] e2)) 0 :=
      fun e1 e2 => ErrAt.start e1 _ cg (Ints_below hbw hg)
    have hft : ∀ o1 o2, Foot w1.heap.size (w1.heap.size + 2) noFoot ((w1.alloc o1).alloc o2) := fun o1 o2 => Foot.of _ _ _ (by simp; omega) (by simp)
    have Hin2 := hide hin2
    have Hst := hide hst
    have Hft := hide hft
    clear hin1 hin2 hst hft
    go_wp2_with fail
    refine (look_check ar _ _ ga gcap (w1.heap.size + 2) [t] _ 1 _ (by rw [Hs1.out]; omega) (Hft.out _ _) (Hin2.out _ _) (Hst.out _ _)).mono ?_
    rintro e w2 ⟨rfl, herr, hkeep⟩
    have ce := herr.ce
    rw [← Hfin.out] at ce
    have hb2 := Below.of_keeps (B := w.heap.size) hkeep (by omega) (by simp; omega)
    have hsz2 := hkeep.size
    simp at hsz2
    clear herr hkeep cg
    go_wp2_with fail
    go_ret
    exact ⟨rfl, ((hbw.alloc (by omega) _).alloc (by simp; omega) _).trans hb2⟩
def termsErr (ar : List Int) : List T → Int
  | [] => 0
  | t :: ts => if termErr ar t = 0 then termsErr ar ts else termErr ar t
def allErr (ar : List Int) (ts : List T) : Int := if sigErr ar = 0 then termsErr ar ts else sigErr ar
theorem termsErr_append (ar : List Int) (a b : List T) : termsErr ar (a ++ b) = if termsErr ar a = 0 then termsErr ar b else termsErr ar a := by
  induction a with
  | nil => simp [termsErr]
  | cons t ts ih =>
    rw [List.cons_append, termsErr, termsErr]
    by_cases h : termErr ar t = 0
    · rw [if_pos h, if_pos h, ih]
    · rw [if_neg h, if_neg h, if_neg h]
theorem termsErr_step {ar : List Int} {ts : List T} {k : Nat} {t : T} (ht : ts[k]? = some t) (h : termsErr ar (ts.take k) = 0) :
    (termErr ar t = 0 → termsErr ar (ts.take (k + 1)) = 0) ∧ (termErr ar t ≠ 0 → termsErr ar ts = termErr ar t) := by
  have hlt : k < ts.length := by
    rcases Nat.lt_or_ge k ts.length with h | h
    · exact h
    · rw [List.getElem?_eq_none h] at ht; cases ht
  constructor
  · intro h2
    rw [List.take_add_one, ht, termsErr_append, if_pos h]
    simp [termsErr, h2]
  · intro h2
    have e : ts = ts.take k ++ t :: ts.drop (k + 1) := by
      rw [List.getElem?_eq_getElem hlt] at ht
      simp at ht
      rw [← ht, List.getElem_cons_drop, List.take_append_drop]
    rw [e, termsErr_append, if_pos h, termsErr, if_neg h2]
set_option maxRecDepth 100000 in
set_option maxHeartbeats 400000 in
theorem check_any (ar : List Int) (ga : Option Addr) (gcap : Nat) (ts : List T) (a : Option Addr) (cap : Nat) (w : World) (hg : Ints w ar ga) (hin : InL w ts a) (h1000 : ts.length ≤ 1000) :
    Calls Tryz.prog 166 #[.agg #[.slice ga ar.length gcap], .slice a ts.length cap] w fun e w' => e = .returned (.int .i64 (allErr ar ts)) ∧ Below w.heap.size w w' := by
  go_enter Tryz.func166, Tryz.ntmps166
  go_wp2_with fail
  refine (signature_any ar ga gcap _ (Ints_alloc _ hg)).mono ?_
  rintro e w1 ⟨rfl, hb1⟩
  have hz1 : w.heap.size < w1.heap.size := by have := hb1.size; simp at this; omega
  have hbw : Below w.heap.size w w1 := (below1 _ _).trans (hb1.mono (by simp))
  have cg : w1.cell? ⟨w.heap.size, 0, none⟩ = some (.slice ga ar.length gcap) := by
    rw [hb1.cell (p := ⟨w.heap.size, 0, none⟩) (by simp), cell_new _ rfl]; rfl
  by_cases hs : sigErr ar = 0
  · have hfin : allErr ar ts = termsErr ar ts := by rw [allErr, if_pos hs]
    have Hfin := hide hfin
    clear hfin
    rw [hs]
    clear hb1
    go_wp2_with fail
    go_loopw [7, 8, 16] (fun _ _ i wr => ∃ k : Nat, k ≤ ts.length ∧ i = .int .i64 k ∧ Hid (termsErr ar (ts.take k) = 0) ∧ Below w1.heap.size w1 wr) (fun _ _ i _ => ts.length - (intOf i).toNat)
    case atStart => exact ⟨0, Nat.zero_le _, rfl, rfl, Below.refl _ _⟩
    case round =>
      obtain ⟨k, hk, rfl, HL, hb⟩ := hrel
      have hzr := hb.size
      by_cases hlt : k < ts.length
      · have hin' := InP_below hb (InP_below hbw hin)
        have hg' := Ints_below hb (Ints_below hbw hg)
        obtain ⟨b, off, rfl⟩ := InP_some hin (by omega)
        obtain ⟨t, ht⟩ : ∃ t, ts[k]? = some t := ⟨ts[k], List.getElem?_eq_getElem hlt⟩
        obtain ⟨a1, cap1, _, c0, c1, c2, hin1⟩ := InP_at hin' ht
        have Hst := hide (termsErr_step ht HL.out)
        have cg' : wr.cell? ⟨w.heap.size, 0, none⟩ = some (.slice ga ar.length gcap) := by rw [hb.cell (p := ⟨w.heap.size, 0, none⟩) hz1]; exact cg
        have hzr' : w.heap.size < wr.heap.size := by omega
        clear ht
        go_wp2_with fail
        refine (checkTerm_any ar ga gcap t a1 cap1 _ (Ints_alloc _ hg') (InP_alloc _ hin1)).mono ?_
        rintro e w2 ⟨rfl, hb2⟩
        have hb3 : Below w1.heap.size w1 w2 := (hb.alloc hb.size _).trans (hb2.mono (by simp; omega))
        by_cases ht0 : termErr ar t = 0
        · have hgo := hide (Hst.out.1 ht0)
          rw [ht0]
          clear Hst hb2
          go_wp2_with fail
          go_roundw
          case rel => exact ⟨k + 1, by omega, by go_num, hgo, hb3⟩
          case measure => simp [intOf]; omega
        · have hgo := hide (Hst.out.2 ht0)
          have ht1 : (termErr ar t != 0) = true := by simpa using ht0
          clear Hst hb2 ht0
          go_wp2_with fail
          go_ret
          exact ⟨ret_int (by rw [Hfin.out, hgo.out]), hbw.trans (hb3.mono (by omega))⟩
      · go_wp2_with fail
        go_ret
        have hk2 : k = ts.length := by omega
        subst hk2
        rw [List.take_length] at HL
        exact ⟨ret_int (by rw [Hfin.out, HL.out]), hbw.trans (hb.mono (by omega))⟩
  · have hfin : allErr ar ts = sigErr ar := by rw [allErr, if_neg hs]
    have Hfin := hide hfin
    have hs1 : (sigErr ar != 0) = true := by simpa using hs
    clear hfin hs hb1
    go_wp2_with fail
    go_ret
    exact ⟨ret_int Hfin.out.symm, hbw⟩
set_option maxRecDepth 100000 in
set_option maxHeartbeats 400000 in
theorem Check_any (ar : List Int) (ga : Option Addr) (gcap : Nat) (t : T) (a : Option Addr) (cap : Nat) (w : World) (hg : Ints w ar ga) (hin : InL w t.args a) :
    Calls Tryz.prog 122 #[.agg #[.slice ga ar.length gcap], .agg #[.int .i64 t.v, .int .i64 t.f, .slice a t.args.length cap]] w fun e w' => e = .returned (.int .i64 (allErr ar [t])) ∧ Below w.heap.size w w' := by
  have Hg := hide (fun o1 o2 o3 => Ints_alloc o3 (Ints_alloc o2 (Ints_alloc o1 hg)))
  have Hin := hide (fun o1 o2 e => InP_new1 (n := w.heap.size + 1 + 1) (cap := cap) e (by simp) trivial (InP_alloc o2 (InP_alloc o1 hin)))
  clear hg hin
  go_enter Tryz.func122, Tryz.ntmps122
  go_wp2_with fail
  refine (check_any ar ga gcap [t] _ 1 _ (Hg.out _ _ _) (Hin.out _ _ _) (by simp)).mono ?_
  rintro e w1 ⟨rfl, hb1⟩
  go_wp2_with fail
  go_ret
  exact ⟨rfl, (((below1 _ _).alloc (by simp) _).alloc (by simp; omega) _).trans (hb1.mono (by simp; omega))⟩
end Go.Proofs.YtbkedppkdhfpoabGreat

namespace Go.Proofs.YtbkedppkdhfpoabGreat
open Go.RowKit
structure Three (w : World) (b : Nat) (v0 v1 v2 : Value) : Prop where
  c0 : w.cell? ⟨b, 0, none⟩ = some v0
  c1 : w.cell? ⟨b, 1, none⟩ = some v1
  c2 : w.cell? ⟨b, 2, none⟩ = some v2
  f0 : w.frozen? ⟨b, 0, none⟩ = false
  f1 : w.frozen? ⟨b, 1, none⟩ = false
  f2 : w.frozen? ⟨b, 2, none⟩ = false
theorem Three.new {w : World} {v0 v1 v2 : Value} {n : Nat} (e : TypeId) (hn : n = w.heap.size) : Three (w.alloc (.cells #[v0, v1, v2] e)) n v0 v1 v2 := by
  subst hn
  exact ⟨World.cell?_alloc_mark _ _ _ _ _, World.cell?_alloc_mark _ _ _ _ _, World.cell?_alloc_mark _ _ _ _ _, by simp, by simp, by simp⟩
theorem Three.same {w w' : World} {b : Nat} {v0 v1 v2 : Value} (h : Three w b v0 v1 v2) (hs : w'.heap[b]? = w.heap[b]?) : Three w' b v0 v1 v2 := by
  obtain ⟨c0, c1, c2, f0, f1, f2⟩ := h
  refine ⟨?_, ?_, ?_, ?_, ?_, ?_⟩
  · rw [World.cell?_of_block (w := w) (a := ⟨b, 0, none⟩) hs]; exact c0
  · rw [World.cell?_of_block (w := w) (a := ⟨b, 1, none⟩) hs]; exact c1
  · rw [World.cell?_of_block (w := w) (a := ⟨b, 2, none⟩) hs]; exact c2
  · rw [World.frozen?_of_block (w := w) (a := ⟨b, 0, none⟩) hs]; exact f0
  · rw [World.frozen?_of_block (w := w) (a := ⟨b, 1, none⟩) hs]; exact f1
  · rw [World.frozen?_of_block (w := w) (a := ⟨b, 2, none⟩) hs]; exact f2
theorem Three.lt {w : World} {b : Nat} {v0 v1 v2 : Value} (h : Three w b v0 v1 v2) : b < w.heap.size := lt_of_cell h.c0
theorem Three.below {w w' : World} {b : Nat} {v0 v1 v2 : Value} (h : Three w b v0 v1 v2) (hb : Below w.heap.size w w') : Three w' b v0 v1 v2 := h.same (hb.block b h.lt)
theorem Three.alloc {w : World} {b : Nat} {v0 v1 v2 : Value} (h : Three w b v0 v1 v2) (o : Obj) : Three (w.alloc o) b v0 v1 v2 := h.below (below1 _ _)
abbrev set3 (w : World) (b off : Nat) (u0 u1 u2 : Value) : World := ((w.setCell ⟨b, off, none⟩ u0).setCell ⟨b, off + 1, none⟩ u1).setCell ⟨b, off + 2, none⟩ u2
theorem Three.set {w : World} {b : Nat} {v0 v1 v2 : Value} (h : Three w b v0 v1 v2) (u0 u1 u2 : Value) : Three (set3 w b 0 u0 u1 u2) b u0 u1 u2 := by
  obtain ⟨c0, c1, c2, f0, f1, f2⟩ := h
  have e0 : (w.setCell ⟨b, 0, none⟩ u0).cell? ⟨b, 0, none⟩ = some u0 := World.cell?_setCell_same _ _ _ c0
  have e1 : (w.setCell ⟨b, 0, none⟩ u0).cell? ⟨b, 1, none⟩ = some v1 := by rw [World.cell?_setCell_other _ _ _ _ (by simp)]; exact c1
  have e2 : (w.setCell ⟨b, 0, none⟩ u0).cell? ⟨b, 2, none⟩ = some v2 := by rw [World.cell?_setCell_other _ _ _ _ (by simp)]; exact c2
  have g1 : ((w.setCell ⟨b, 0, none⟩ u0).setCell ⟨b, 1, none⟩ u1).cell? ⟨b, 1, none⟩ = some u1 := World.cell?_setCell_same _ _ _ e1
  have g0 : ((w.setCell ⟨b, 0, none⟩ u0).setCell ⟨b, 1, none⟩ u1).cell? ⟨b, 0, none⟩ = some u0 := by rw [World.cell?_setCell_other _ _ _ _ (by simp)]; exact e0
  have g2 : ((w.setCell ⟨b, 0, none⟩ u0).setCell ⟨b, 1, none⟩ u1).cell? ⟨b, 2, none⟩ = some v2 := by rw [World.cell?_setCell_other _ _ _ _ (by simp)]; exact e2
  refine ⟨?_, ?_, World.cell?_setCell_same _ _ _ g2, ?_, ?_, ?_⟩
  · rw [World.cell?_setCell_other _ _ _ _ (by simp)]; exact g0
  · rw [World.cell?_setCell_other _ _ _ _ (by simp)]; exact g1
  · rw [World.frozen?_setCell, World.frozen?_setCell, World.frozen?_setCell]; exact f0
  · rw [World.frozen?_setCell, World.frozen?_setCell, World.frozen?_setCell]; exact f1
  · rw [World.frozen?_setCell, World.frozen?_setCell, World.frozen?_setCell]; exact f2
theorem set3_block {w : World} {b off k : Nat} {u0 u1 u2 : Value} (h : k ≠ b) : (set3 w b off u0 u1 u2).heap[k]? = w.heap[k]? := by
  rw [Below.heap_setCell _ _ _ _ h, Below.heap_setCell _ _ _ _ h, Below.heap_setCell _ _ _ _ h]
theorem set3_size {w : World} {b off : Nat} {u0 u1 u2 : Value} : (set3 w b off u0 u1 u2).heap.size = w.heap.size := by simp [set3, World.setCell]
theorem below_set3 {B : Nat} {a w : World} (h : Below B a w) {b off : Nat} (hB : B ≤ b) (u0 u1 u2 : Value) : Below B a (set3 w b off u0 u1 u2) :=
  ((h.setCell (p := ⟨b, off, none⟩) hB u0).setCell (p := ⟨b, off + 1, none⟩) hB u1).setCell (p := ⟨b, off + 2, none⟩) hB u2
def Found (t : T) (place : List Int) (w : World) (e : Ending) : Prop :=
  (∃ u a1 cap1, atT t place = some u ∧ e = .returned (.tuple #[.agg #[.int .i64 u.v, .int .i64 u.f, .slice a1 u.args.length cap1], .bool true]) ∧ InL w u.args a1) ∨
  (atT t place = none ∧ e = .returned (.tuple #[.agg #[.int .i64 0, .int .i64 0, .slice none 0 0], .bool false]))
set_option maxRecDepth 100000 in
set_option maxHeartbeats 400000 in
theorem find_any (t : T) (a : Option Addr) (cap : Nat) (place : List Int) (pa : Option Addr) (pcap : Nat) (w : World) (hp : Ints w place pa) (hin : InL w t.args a) (hl : place.length ≤ 9223372036854775807) :
    Calls Tryz.prog 224 #[.agg #[.int .i64 t.v, .int .i64 t.f, .slice a t.args.length cap], .slice pa place.length pcap] w fun e w' => Found t place w e ∧ Below w.heap.size w w' := by
  go_enter Tryz.func224, Tryz.ntmps224
  go_wp2_with fail
  go_loopw [7, 10] (fun _ i wr => ∃ (k : Nat) (u : T) (a1 : Option Addr) (cap1 : Nat), k ≤ place.length ∧ i = .int .i64 k ∧ Hid (atT t (place.take k) = some u) ∧ InL w u.args a1 ∧
      Three wr w.heap.size (.int .i64 u.v) (.int .i64 u.f) (.slice a1 u.args.length cap1) ∧ Three wr (w.heap.size + 1) (.int .i64 0) (.int .i64 0) (.slice none 0 0) ∧ Below w.heap.size w wr) (fun _ i _ => place.length - (intOf i).toNat)
  case atStart => exact ⟨0, t, a, cap, Nat.zero_le _, rfl, rfl, hin, (Three.new _ rfl).alloc _, Three.new _ (by simp), (below1 _ _).alloc (by simp) _⟩
  case round =>
    obtain ⟨k, u, a1, cap1, hk, rfl, HA, hin1, h3, h4, hb⟩ := hrel
    have hzr := hb.size
    have H3 := hide h3
    have H4 := hide h4
    obtain ⟨c0, c1, c2, f0, f1, f2⟩ := h3
    obtain ⟨d0, d1, d2, g0, g1, g2⟩ := h4
    by_cases hlt : k < place.length
    · obtain ⟨b, off, rfl, hc⟩ := Ints_some hp (by omega)
      have hck : wr.cell? ⟨b, off + k, none⟩ = some (.int .i64 (place.getD k 0)) := by rw [hb.cell (p := ⟨b, off + k, none⟩) (lt_of_cell (hc k hlt))]; exact hc k hlt
      have Hst := hide (atT_step hlt HA.out)
      clear hc
      generalize place.getD k 0 = i at *
      by_cases hi0 : i < 0
      · have hno := hide (Hst.out.2 (by omega))
        go_wp2_with fail
        exact bodyPost_ret (v := .tuple #[.agg #[.int .i64 0, .int .i64 0, .slice none 0 0], .bool false]) (by simp [results, Tryz.results224, go_sem, d0, d1, d2]) rfl ⟨Or.inr ⟨hno.out, rfl⟩, below_set3 hb (by omega) _ _ _⟩
      · obtain ⟨n, rfl⟩ := Int.eq_ofNat_of_zero_le (show 0 ≤ i by omega)
        by_cases hi1 : u.args.length ≤ n
        · have hno := hide (Hst.out.2 (by omega))
          have hi2 : (u.args.length : Int) ≤ n := by omega
          go_wp2_with fail
          exact bodyPost_ret (v := .tuple #[.agg #[.int .i64 0, .int .i64 0, .slice none 0 0], .bool false]) (by simp [results, Tryz.results224, go_sem, d0, d1, d2]) rfl ⟨Or.inr ⟨hno.out, rfl⟩, below_set3 hb (by omega) _ _ _⟩
        · have hi2 : n < u.args.length := by omega
          obtain ⟨b1, off1, rfl⟩ := InP_some hin1 (by omega)
          obtain ⟨t1, ht1⟩ : ∃ t1, u.args[n]? = some t1 := ⟨u.args[n], List.getElem?_eq_getElem hi2⟩
          obtain ⟨a2, cap2, _, k0, k1, k2, hin2⟩ := InP_at hin1 ht1
          have hgo := hide (Hst.out.1 t1 (by omega) (by omega) (by simpa using ht1))
          have hb1 := lt_of_cell k0
          rw [← hb.cell (p := ⟨b1, off1 + n * 3, none⟩) hb1] at k0
          rw [← hb.cell (p := ⟨b1, off1 + n * 3 + 1, none⟩) hb1] at k1
          rw [← hb.cell (p := ⟨b1, off1 + n * 3 + 2, none⟩) hb1] at k2
          clear ht1
          go_wp2_with fail
          go_roundw
          case rel => exact ⟨k + 1, t1, a2, cap2, by omega, by go_num, hgo, hin2, H3.out.set _ _ _, H4.out.same (set3_block (by omega)), below_set3 hb (Nat.le_refl _) _ _ _⟩
          case measure => simp [intOf]; omega
    · have hk2 : k = place.length := by omega
      subst hk2
      rw [List.take_length] at HA
      go_wp2_with fail
      have H5 := H4.out.set (.int .i64 u.v) (.int .i64 u.f) (.slice a1 u.args.length cap1)
      exact bodyPost_ret (v := .tuple #[.agg #[.int .i64 u.v, .int .i64 u.f, .slice a1 u.args.length cap1], .bool true]) (by simp [results, Tryz.results224, go_sem, d0, d1, d2]) rfl ⟨Or.inl ⟨u, a1, cap1, HA.out, rfl, hin1⟩, below_set3 hb (by omega) _ _ _⟩
end Go.Proofs.YtbkedppkdhfpoabGreat

namespace Go.Proofs.YtbkedppkdhfpoabGreat
open Go.RowKit
def T.Own (w : World) : T → Value → List Nat → Prop
  | ⟨_, _, args⟩, s, B => (args = [] ∧ s = .slice none 0 0 ∧ B = []) ∨
      (args ≠ [] ∧ ∃ b B', s = .slice (some ⟨b, 0, none⟩) args.length args.length ∧ B = b :: B' ∧ (∀ j, w.frozen? ⟨b, j, none⟩ = false) ∧ OwnL args b 0 B')
  where
  OwnL : List T → Nat → Nat → List Nat → Prop
    | [], _, _, B => B = []
    | t :: ts, b, off, B => ∃ s Bt Br, B = Bt ++ Br ∧ w.cell? ⟨b, off, none⟩ = some (.int .i64 t.v) ∧ w.cell? ⟨b, off + 1, none⟩ = some (.int .i64 t.f) ∧ w.cell? ⟨b, off + 2, none⟩ = some s ∧ t.Own w s Bt ∧ OwnL ts b (off + 3) Br
abbrev OwnL (w : World) (ts : List T) (b off : Nat) (B : List Nat) : Prop := T.Own.OwnL w ts b off B
theorem OwnL_nil {w : World} {b off : Nat} {B : List Nat} : OwnL w [] b off B ↔ B = [] := Iff.rfl
theorem OwnL_cons {w : World} {t : T} {ts : List T} {b off : Nat} {B : List Nat} : OwnL w (t :: ts) b off B ↔ ∃ s Bt Br, B = Bt ++ Br ∧ w.cell? ⟨b, off, none⟩ = some (.int .i64 t.v) ∧ w.cell? ⟨b, off + 1, none⟩ = some (.int .i64 t.f) ∧ w.cell? ⟨b, off + 2, none⟩ = some s ∧ t.Own w s Bt ∧ OwnL w ts b (off + 3) Br := Iff.rfl
theorem Own_iff {w : World} {t : T} {s : Value} {B : List Nat} : t.Own w s B ↔ (t.args = [] ∧ s = .slice none 0 0 ∧ B = []) ∨
      (t.args ≠ [] ∧ ∃ b B', s = .slice (some ⟨b, 0, none⟩) t.args.length t.args.length ∧ B = b :: B' ∧ (∀ j, w.frozen? ⟨b, j, none⟩ = false) ∧ OwnL w t.args b 0 B') := by
  cases t; exact Iff.rfl
theorem OwnL_mono {w w' : World} : ∀ (n : Nat) (ts : List T) (b off : Nat) (B : List Nat), T.sz.szL ts ≤ n → (∀ k, k ∈ B → w'.heap[k]? = w.heap[k]?) →
    (∀ j, off ≤ j → j < off + ts.length * 3 → w'.cell? ⟨b, j, none⟩ = w.cell? ⟨b, j, none⟩) → OwnL w ts b off B → OwnL w' ts b off B := by
  intro n
  induction n with
  | zero =>
    intro ts b off B hn _ _ h
    cases ts with
    | nil => exact h
    | cons t ts => have := t.sz_pos; rw [T.szL_cons] at hn; omega
  | succ n ih =>
    intro ts
    induction ts with
    | nil => intro b off B _ _ _ h; exact h
    | cons t ts iht =>
      intro b off B hn hk hc h
      rw [T.szL_cons, T.sz_eq] at hn
      obtain ⟨s, Bt, Br, rfl, h0, h1, h2, hown, hr⟩ := OwnL_cons.1 h
      have hl : (t :: ts).length * 3 = 3 + ts.length * 3 := by simp; omega
      rw [hl] at hc
      refine OwnL_cons.2 ⟨s, Bt, Br, rfl, ?_, ?_, ?_, ?_, iht b (off + 3) Br (by omega) (fun k hk' => hk k (List.mem_append_right _ hk')) (fun j h1 h2 => hc j (by omega) (by omega)) hr⟩
      · rw [hc off (by omega) (by omega)]; exact h0
      · rw [hc (off + 1) (by omega) (by omega)]; exact h1
      · rw [hc (off + 2) (by omega) (by omega)]; exact h2
      · rcases Own_iff.1 hown with h3 | ⟨hne, b', B', rfl, rfl, hfr, h3⟩
        · exact Own_iff.2 (Or.inl h3)
        · have hb' : w'.heap[b']? = w.heap[b']? := hk b' (by simp)
          exact Own_iff.2 (Or.inr ⟨hne, b', B', rfl, rfl, fun j => by rw [World.frozen?_of_block (w := w) (a := ⟨b', j, none⟩) hb']; exact hfr j,
            ih t.args b' 0 B' (by omega) (fun k hk' => hk k (by simp [hk'])) (fun j _ _ => World.cell?_of_block (w := w) (a := ⟨b', j, none⟩) hb') h3⟩)
theorem Own_mono {w w' : World} {t : T} {s : Value} {B : List Nat} (hk : ∀ k, k ∈ B → w'.heap[k]? = w.heap[k]?) (h : t.Own w s B) : t.Own w' s B := by
  rcases Own_iff.1 h with h3 | ⟨hne, b', B', rfl, rfl, hfr, h3⟩
  · exact Own_iff.2 (Or.inl h3)
  · have hb' : w'.heap[b']? = w.heap[b']? := hk b' (by simp)
    exact Own_iff.2 (Or.inr ⟨hne, b', B', rfl, rfl, fun j => by rw [World.frozen?_of_block (w := w) (a := ⟨b', j, none⟩) hb']; exact hfr j,
      OwnL_mono _ t.args b' 0 B' (Nat.le_refl _) (fun k hk' => hk k (by simp [hk'])) (fun j _ _ => World.cell?_of_block (w := w) (a := ⟨b', j, none⟩) hb') h3⟩)
theorem OwnL_snoc {w : World} {ts : List T} {t : T} {s : Value} {Bt : List Nat} : ∀ {b off : Nat} {B : List Nat}, OwnL w ts b off B → w.cell? ⟨b, off + ts.length * 3, none⟩ = some (.int .i64 t.v) → w.cell? ⟨b, off + ts.length * 3 + 1, none⟩ = some (.int .i64 t.f) →
    w.cell? ⟨b, off + ts.length * 3 + 2, none⟩ = some s → t.Own w s Bt → OwnL w (ts ++ [t]) b off (B ++ Bt) := by
  induction ts with
  | nil =>
    intro b off B h h0 h1 h2 ho
    rw [OwnL_nil.1 h]
    exact OwnL_cons.2 ⟨s, Bt, [], by simp, by simpa using h0, by simpa using h1, by simpa using h2, ho, rfl⟩
  | cons u us ih =>
    intro b off B h h0 h1 h2 ho
    obtain ⟨s', Bu, Br, rfl, g0, g1, g2, gown, gr⟩ := OwnL_cons.1 h
    have e : off + (u :: us).length * 3 = off + 3 + us.length * 3 := by simp; omega
    rw [e] at h0 h1 h2
    exact OwnL_cons.2 ⟨s', Bu, Br ++ Bt, by simp, g0, g1, g2, gown, ih gr h0 h1 h2 ho⟩
theorem OwnL_in {w : World} : ∀ (n : Nat) (ts : List T) (b off : Nat) (B : List Nat), T.sz.szL ts ≤ n → OwnL w ts b off B → InL w ts (some ⟨b, off, none⟩) := by
  intro n
  induction n with
  | zero =>
    intro ts b off B hn h
    cases ts with
    | nil => exact InP_nil
    | cons t ts => have := t.sz_pos; rw [T.szL_cons] at hn; omega
  | succ n ih =>
    intro ts
    induction ts with
    | nil => intro b off B _ _; exact InP_nil
    | cons t ts iht =>
      intro b off B hn h
      rw [T.szL_cons, T.sz_eq] at hn
      obtain ⟨s, Bt, Br, rfl, h0, h1, h2, hown, hr⟩ := OwnL_cons.1 h
      refine InP_cons.2 ⟨b, off, s, rfl, trivial, h0, h1, h2, ?_, iht b (off + 3) Br (by omega) hr⟩
      rcases Own_iff.1 hown with ⟨h3, rfl, _⟩ | ⟨hne, b', B', rfl, rfl, hfr, h3⟩
      · exact In_iff.2 ⟨none, 0, by rw [h3]; rfl, by rw [h3]; exact InP_nil⟩
      · exact In_iff.2 ⟨_, _, rfl, ih t.args b' 0 B' (by omega) h3⟩
theorem Own_in {w : World} {t : T} {s : Value} {B : List Nat} (h : t.Own w s B) : ∃ a cap, s = .slice a t.args.length cap ∧ InL w t.args a := by
  rcases Own_iff.1 h with ⟨h3, rfl, _⟩ | ⟨hne, b', B', rfl, rfl, hfr, h3⟩
  · exact ⟨none, 0, by rw [h3]; rfl, by rw [h3]; exact InP_nil⟩
  · exact ⟨_, _, rfl, OwnL_in _ t.args b' 0 B' (Nat.le_refl _) h3⟩
def row3 (n : Nat) : Array Value := madeCells #[.int .i64 0, .int .i64 0, .slice none 0 0] (n * 3)
theorem size_row3 (n : Nat) : (row3 n).size = n * 3 := size_madeCells _ _
theorem Tryz.underlying75 : Tryz.prog.underlying 75 = some (.slice 77) := by kernel_rfl
theorem Tryz.info77 : (Tryz.prog.info? 77).map (fun i => (i.zero, i.size, i.bytes)) = some (some (.agg #[.int .i64 0, .int .i64 0, .slice none 0 0]), 3, 40) := by kernel_rfl
theorem run_make3 (n : Nat) (hn : n ≤ 1000000) (w : World) : (Instr.makeSlice 75 (.int .i64 (n : Int)) (.int .i64 (n : Int))).run Tryz.prog w = .ok (.slice (some ⟨w.heap.size, 0, none⟩) n n) (w.alloc (.cells (row3 n) 77)) := by
  obtain ⟨i, hi, hzz⟩ := Option.map_eq_some_iff.1 Tryz.info77
  simp only [Prod.mk.injEq] at hzz
  obtain ⟨hz, hs, hb⟩ := hzz
  have hr := run_make (P := Tryz.prog) w 75 77 i _ Tryz.underlying75 hi hz .i64 .i64 n n (by omega) (Int.le_refl _) (by rw [hb]; omega) (by omega)
  simp only [Int.toNat_natCast, hs] at hr
  exact hr
theorem set3_cell {w : World} {b off j : Nat} {u0 u1 u2 : Value} (h : j < off ∨ off + 2 < j) : (set3 w b off u0 u1 u2).cell? ⟨b, j, none⟩ = w.cell? ⟨b, j, none⟩ := by
  have e0 : (⟨b, off, none⟩ : Addr) ≠ ⟨b, j, none⟩ := by rintro e; injection e with _ e2; omega
  have e1 : (⟨b, off + 1, none⟩ : Addr) ≠ ⟨b, j, none⟩ := by rintro e; injection e with _ e2; omega
  have e2 : (⟨b, off + 2, none⟩ : Addr) ≠ ⟨b, j, none⟩ := by rintro e; injection e with _ e2; omega
  rw [World.cell?_setCell_other _ _ _ _ e2, World.cell?_setCell_other _ _ _ _ e1, World.cell?_setCell_other _ _ _ _ e0]
theorem set3_frozen {w : World} {b off j b' : Nat} {u0 u1 u2 : Value} : (set3 w b off u0 u1 u2).frozen? ⟨b', j, none⟩ = w.frozen? ⟨b', j, none⟩ := by
  rw [World.frozen?_setCell, World.frozen?_setCell, World.frozen?_setCell]
theorem set3_same {w : World} {b off : Nat} {u0 u1 u2 : Value} (h : ∀ j, off ≤ j → j < off + 3 → ∃ v, w.cell? ⟨b, j, none⟩ = some v) :
    (set3 w b off u0 u1 u2).cell? ⟨b, off, none⟩ = some u0 ∧ (set3 w b off u0 u1 u2).cell? ⟨b, off + 1, none⟩ = some u1 ∧ (set3 w b off u0 u1 u2).cell? ⟨b, off + 2, none⟩ = some u2 := by
  obtain ⟨v0, c0⟩ := h off (by omega) (by omega)
  obtain ⟨v1, c1⟩ := h (off + 1) (by omega) (by omega)
  obtain ⟨v2, c2⟩ := h (off + 2) (by omega) (by omega)
  have e0 : (w.setCell ⟨b, off, none⟩ u0).cell? ⟨b, off, none⟩ = some u0 := World.cell?_setCell_same _ _ _ c0
  have e1 : (w.setCell ⟨b, off, none⟩ u0).cell? ⟨b, off + 1, none⟩ = some v1 := by rw [World.cell?_setCell_other _ _ _ _ (by simp)]; exact c1
  have e2 : (w.setCell ⟨b, off, none⟩ u0).cell? ⟨b, off + 2, none⟩ = some v2 := by rw [World.cell?_setCell_other _ _ _ _ (by simp)]; exact c2
  have g1 : ((w.setCell ⟨b, off, none⟩ u0).setCell ⟨b, off + 1, none⟩ u1).cell? ⟨b, off + 1, none⟩ = some u1 := World.cell?_setCell_same _ _ _ e1
  have g0 : ((w.setCell ⟨b, off, none⟩ u0).setCell ⟨b, off + 1, none⟩ u1).cell? ⟨b, off, none⟩ = some u0 := by rw [World.cell?_setCell_other _ _ _ _ (by simp)]; exact e0
  have g2 : ((w.setCell ⟨b, off, none⟩ u0).setCell ⟨b, off + 1, none⟩ u1).cell? ⟨b, off + 2, none⟩ = some v2 := by rw [World.cell?_setCell_other _ _ _ _ (by simp)]; exact e2
  refine ⟨?_, ?_, World.cell?_setCell_same _ _ _ g2⟩
  · rw [World.cell?_setCell_other _ _ _ _ (by simp)]; exact g0
  · rw [World.cell?_setCell_other _ _ _ _ (by simp)]; exact g1
structure Copying (w wr : World) (t : T) (k : Nat) (B : List Nat) : Prop where
  own : OwnL wr (t.args.take k) (w.heap.size + 1 + 1 + 1) 0 B
  nd : B.Nodup
  rng : ∀ x, x ∈ B → w.heap.size + 3 < x ∧ x < wr.heap.size
  cells : ∀ j, j < t.args.length * 3 → ∃ v, wr.cell? ⟨w.heap.size + 1 + 1 + 1, j, none⟩ = some v
  fr : ∀ j, wr.frozen? ⟨w.heap.size + 1 + 1 + 1, j, none⟩ = false
  made : Three wr (w.heap.size + 1 + 1) (.int .i64 t.v) (.int .i64 t.f) (.slice (some ⟨w.heap.size + 1 + 1 + 1, 0, none⟩) t.args.length t.args.length)
  res : Three wr (w.heap.size + 1) (.int .i64 0) (.int .i64 0) (.slice none 0 0)
  below : Below w.heap.size w wr
  size : w.heap.size + 3 < wr.heap.size
theorem Copying.start (w : World) (t : T) (o : Obj) (e1 e2 e3 : TypeId) :
    Copying w ((((w.alloc o).alloc (.cells #[.int .i64 0, .int .i64 0, .slice none 0 0] e1)).alloc (.cells #[.int .i64 t.v, .int .i64 t.f, .slice (some ⟨w.heap.size + 1 + 1 + 1, 0, none⟩) t.args.length t.args.length] e2)).alloc (.cells (row3 t.args.length) e3)) t 0 [] := by
  refine ⟨rfl, List.nodup_nil, by simp, fun j hj => ?_, fun j => ?_, ?_, ?_, ?_, by simp⟩
  · rw [cell_new j (by simp)]
    exact ⟨(row3 t.args.length)[j]'(by rw [size_row3]; exact hj), Array.getElem?_eq_getElem _⟩
  · exact frozen_new j (by simp)
  · exact (Three.new _ (by simp)).alloc _
  · exact ((Three.new _ (by simp)).alloc _).alloc _
  · exact (((below1 _ _).alloc (by simp) _).alloc (by simp; omega) _).alloc (by simp; omega) _
theorem Copying.step {w wr w2 : World} {t c : T} {k : Nat} {B Bc : List Nat} {s : Value} {o : Obj} (h : Copying w wr t k B) (hc : t.args[k]? = some c) (hb : Below (wr.alloc o).heap.size (wr.alloc o) w2) (ho : c.Own w2 s Bc) (hnd : Bc.Nodup)
    (hr : ∀ x, x ∈ Bc → (wr.alloc o).heap.size ≤ x ∧ x < w2.heap.size) : Copying w (set3 w2 (w.heap.size + 1 + 1 + 1) (k * 3) (.int .i64 c.v) (.int .i64 c.f) s) t (k + 1) (B ++ Bc) := by
  have hk : k < t.args.length := by
    rcases Nat.lt_or_ge k t.args.length with h | h
    · exact h
    · rw [List.getElem?_eq_none h] at hc; cases hc
  have hz := h.size
  have hsz := hb.size
  have hlen : (t.args.take k).length = k := List.length_take_of_le (by omega)
  have hb' : Below wr.heap.size wr w2 := (below1 _ _).trans (hb.mono (by simp))
  have hcells : ∀ j, j < t.args.length * 3 → ∃ v, w2.cell? ⟨w.heap.size + 1 + 1 + 1, j, none⟩ = some v := fun j hj => by
    rw [hb'.cell (p := ⟨w.heap.size + 1 + 1 + 1, j, none⟩) (by omega)]; exact h.cells j hj
  have hsame := set3_same (w := w2) (b := w.heap.size + 1 + 1 + 1) (off := k * 3) (u0 := .int .i64 c.v) (u1 := .int .i64 c.f) (u2 := s) (fun j _ hj2 => hcells j (by omega))
  simp at hsz hr
  refine ⟨?_, ?_, ?_, ?_, ?_, ?_, ?_, ?_, ?_⟩
  · rw [List.take_add_one, hc]
    refine OwnL_snoc ?_ ?_ ?_ ?_ (s := s) ?_
    · refine OwnL_mono _ _ _ _ _ (Nat.le_refl _) (fun x hx => ?_) (fun j _ hj => ?_) h.own
      · have := h.rng x hx
        rw [set3_block (by omega)]
        exact hb'.block x (by omega)
      · rw [hlen] at hj
        rw [set3_cell (by omega)]
        exact hb'.cell (p := ⟨w.heap.size + 1 + 1 + 1, j, none⟩) (by omega)
    · rw [hlen, Nat.zero_add]; exact hsame.1
    · rw [hlen, Nat.zero_add]; exact hsame.2.1
    · rw [hlen, Nat.zero_add]; exact hsame.2.2
    · refine Own_mono (fun x hx => ?_) ho
      have := hr x hx
      exact set3_block (by omega)
  · rw [List.nodup_append]
    refine ⟨h.nd, hnd, fun x hx y hy e => ?_⟩
    have := h.rng x hx
    have := hr y hy
    omega
  · intro x hx
    rw [set3_size]
    rcases List.mem_append.1 hx with hx | hx
    · have := h.rng x hx; omega
    · have := hr x hx; omega
  · intro j hj
    by_cases h3 : j < k * 3 ∨ k * 3 + 2 < j
    · rw [set3_cell h3]; exact hcells j hj
    · have : j = k * 3 ∨ j = k * 3 + 1 ∨ j = k * 3 + 2 := by omega
      rcases this with rfl | rfl | rfl
      · exact ⟨_, hsame.1⟩
      · exact ⟨_, hsame.2.1⟩
      · exact ⟨_, hsame.2.2⟩
  · intro j
    rw [set3_frozen, hb'.frozen (p := ⟨w.heap.size + 1 + 1 + 1, j, none⟩) (by omega)]
    exact h.fr j
  · exact (h.made.below hb').same (set3_block (by omega))
  · exact (h.res.below hb').same (set3_block (by omega))
  · exact below_set3 (h.below.trans (hb'.mono (by omega))) (by omega) _ _ _
  · rw [set3_size]; omega
theorem below_undrew {w w2 : World} (h : Below w.drew.heap.size w.drew w2) : Below w.heap.size w w2 := ⟨h.os, h.tape, h.output, h.size, h.block⟩
theorem InP_heap {p : Nat → Prop} {w w' : World} {ts : List T} {a : Option Addr} (hw : w'.heap = w.heap) (h : InP p w ts a) : InP p w' ts a :=
  InP_same (fun _ _ _ => by rw [hw]) h
theorem copy_behind {w wr : World} {t c : T} {k : Nat} {B : List Nat} (h : Copying w wr t k B) (hc : t.args[k]? = some c) :
    ∀ (o : Obj) (w2 : World), Below (wr.alloc o).heap.size (wr.alloc o) w2 → (w2.cell? ⟨w.heap.size + 1 + 1, 2, none⟩ = some (.slice (some ⟨w.heap.size + 1 + 1 + 1, 0, none⟩) t.args.length t.args.length)) ∧
      (∃ v0 v1 v2, w2.cell? ⟨w.heap.size + 1 + 1 + 1, k * 3, none⟩ = some v0 ∧ w2.cell? ⟨w.heap.size + 1 + 1 + 1, k * 3 + 1, none⟩ = some v1 ∧ w2.cell? ⟨w.heap.size + 1 + 1 + 1, k * 3 + 2, none⟩ = some v2) ∧
      (∀ j, w2.frozen? ⟨w.heap.size + 1 + 1 + 1, j, none⟩ = false) := by
  intro o w2 hb
  have hz := h.size
  have hb' : ∀ x, x < wr.heap.size → w2.heap[x]? = wr.heap[x]? := fun x hx => by
    rw [hb.block x (by simp; omega), Below.heap_alloc _ _ _ hx]
  have hk : k < t.args.length := by
    rcases Nat.lt_or_ge k t.args.length with h | h
    · exact h
    · rw [List.getElem?_eq_none h] at hc; cases hc
  have hx := hb' (w.heap.size + 1 + 1 + 1) (by omega)
  obtain ⟨v0, e0⟩ := h.cells (k * 3) (by omega)
  obtain ⟨v1, e1⟩ := h.cells (k * 3 + 1) (by omega)
  obtain ⟨v2, e2⟩ := h.cells (k * 3 + 2) (by omega)
  refine ⟨(h.made.same (hb' _ (by omega))).c2, ⟨v0, v1, v2, ?_, ?_, ?_⟩, fun j => ?_⟩
  · rw [World.cell?_of_block (w := wr) (a := ⟨w.heap.size + 1 + 1 + 1, k * 3, none⟩) hx]; exact e0
  · rw [World.cell?_of_block (w := wr) (a := ⟨w.heap.size + 1 + 1 + 1, k * 3 + 1, none⟩) hx]; exact e1
  · rw [World.cell?_of_block (w := wr) (a := ⟨w.heap.size + 1 + 1 + 1, k * 3 + 2, none⟩) hx]; exact e2
  · rw [World.frozen?_of_block (w := wr) (a := ⟨w.heap.size + 1 + 1 + 1, j, none⟩) hx]; exact h.fr j
theorem copy_done {w wr : World} {t : T} {B : List Nat} (hne : t.args ≠ []) (h : Copying w wr t t.args.length B) {u0 u1 u2 : Value} :
    ∃ s B', Ending.returned (.agg #[.int .i64 t.v, .int .i64 t.f, .slice (some ⟨w.heap.size + 1 + 1 + 1, 0, none⟩) t.args.length t.args.length]) = .returned (.agg #[.int .i64 t.v, .int .i64 t.f, s]) ∧ t.Own (set3 wr (w.heap.size + 1) 0 u0 u1 u2) s B' ∧ B'.Nodup ∧
      (∀ k, k ∈ B' → w.heap.size ≤ k ∧ k < (set3 wr (w.heap.size + 1) 0 u0 u1 u2).heap.size) ∧ Below w.heap.size w (set3 wr (w.heap.size + 1) 0 u0 u1 u2) := by
  have hz := h.size
  have hown := h.own
  rw [List.take_length] at hown
  refine ⟨_, (w.heap.size + 1 + 1 + 1) :: B, rfl, ?_, ?_, ?_, below_set3 h.below (by omega) _ _ _⟩
  · refine Own_mono (w := wr) (fun k hk => ?_) (Own_iff.2 (Or.inr ⟨hne, _, B, rfl, rfl, h.fr, hown⟩))
    rcases List.mem_cons.1 hk with rfl | hk
    · exact set3_block (by omega)
    · have := h.rng k hk; exact set3_block (by omega)
  · rw [List.nodup_cons]
    exact ⟨fun hm => by have := h.rng _ hm; omega, h.nd⟩
  · intro k hk
    rw [set3_size]
    rcases List.mem_cons.1 hk with rfl | hk
    · omega
    · have := h.rng k hk; omega
set_option maxRecDepth 100000 in
set_option maxHeartbeats 400000 in
theorem copyOf_any (N : Nat) : ∀ (t : T) (a : Option Addr) (cap : Nat) (w : World), t.sz < N → t.sz ≤ 1000 → InL w t.args a →
    Calls Tryz.prog 153 #[.agg #[.int .i64 t.v, .int .i64 t.f, .slice a t.args.length cap]] w fun e w' =>
      ∃ s B, e = .returned (.agg #[.int .i64 t.v, .int .i64 t.f, s]) ∧ t.Own w' s B ∧ B.Nodup ∧ (∀ k, k ∈ B → w.heap.size ≤ k ∧ k < w'.heap.size) ∧ Below w.heap.size w w' := by
  induction N with
  | zero => intro t a cap w hN; omega
  | succ N ih =>
    intro t a cap w hN h1000 hin
    have Hih := hide ih
    clear ih
    have hlen3 : t.args.length ≤ 1000 := by have := T.length_le t.args; have := T.sz_eq t; omega
    by_cases hlen : t.args.length = 0
    · have hz : ((t.args.length : Int) == 0) = true := by rw [hlen]; rfl
      go_enter Tryz.func153, Tryz.ntmps153
      go_wp2_with fail
      exact bodyPost_ret (v := .agg #[.int .i64 t.v, .int .i64 t.f, .slice none 0 0]) (by simp [results, Tryz.results153, go_sem]) rfl ⟨.slice none 0 0, [], rfl, Own_iff.2 (Or.inl ⟨List.length_eq_zero_iff.1 hlen, rfl, rfl⟩), List.nodup_nil, by simp,
        ((below1 _ _).alloc (by simp) _).alloc (by simp; omega) _⟩
    · have hz : ((t.args.length : Int) == 0) = false := by simpa using hlen
      have hmk := run_make3 t.args.length (by omega)
      go_enter Tryz.func153, Tryz.ntmps153
      go_wp2_with fail
      go_loopw [24] (fun i wr => ∃ (k : Nat) (B : List Nat), k ≤ t.args.length ∧ i = .int .i64 k ∧ Copying w wr t k B) (fun i _ => t.args.length - (intOf i).toNat)
      case atStart => exact ⟨0, [], Nat.zero_le _, rfl, Copying.start w t _ _ _ _⟩
      case round =>
        obtain ⟨k, B, hk, rfl, hcop⟩ := hrel
        have Hcop := hide hcop
        have hb := hcop.below
        have hzr := hcop.size
        obtain ⟨c0, c1, c2, f0, f1, f2⟩ := hcop.made
        obtain ⟨d0, d1, d2, g0, g1, g2⟩ := hcop.res
        clear hcop hmk
        by_cases hlt : k < t.args.length
        · obtain ⟨b, off, rfl⟩ := InP_some hin (by omega)
          obtain ⟨c, hc⟩ : ∃ c, t.args[k]? = some c := ⟨t.args[k], List.getElem?_eq_getElem hlt⟩
          have hin' := InP_below hb hin
          obtain ⟨a1, cap1, _, k0, k1, k2, hin1⟩ := InP_at hin' hc
          have hcsz : c.sz < N ∧ c.sz ≤ 1000 := by
            have := T.szL_mem (List.mem_of_getElem? hc)
            have := T.sz_eq t
            omega
          have Hc := hide hc
          have Hcell := hide Hcop.out.cells
          have hfr := Hcop.out.fr
          clear hc hin' hin
          have Hcall := hide (copy_behind Hcop.out Hc.out)
          have hz1 : w.heap.size + 1 + 1 < wr.heap.size := by omega
          go_wp2_with fail
          go_region_with (go_at_call 153; refine (Hih.out c a1 cap1 _ hcsz.1 hcsz.2 (by exact InP_heap (w := wr.alloc _) rfl (InP_alloc _ hin1))).mono ?_; rintro e w2 ⟨s, Bc, rfl, hown, hnd, hrg, hb1⟩; have hb2 := below_undrew hb1; clear hb1; obtain ⟨a2, cap2, rfl, hin2⟩ := Own_in hown; obtain ⟨q2, ⟨v0, v1, v2, e0, e1, e2⟩, qf⟩ := Hcall.out _ w2 hb2; have q0 := qf (k * 3); have q1 := qf (k * 3 + 1); have q3 := qf (k * 3 + 2); clear qf hin2)
          all_goals
            go_wp2_with fail
            go_roundw
            case rel => exact ⟨k + 1, B ++ Bc, by omega, by go_num, Hcop.out.step Hc.out hb2 hown hnd hrg⟩
            case measure => simp [intOf]; omega
        · have hk2 : k = t.args.length := by omega
          subst hk2
          have hne : t.args ≠ [] := fun h => hlen (by rw [h]; rfl)
          have Hres := hide (Hcop.out.res.set (.int .i64 t.v) (.int .i64 t.f) (.slice (some ⟨w.heap.size + 1 + 1 + 1, 0, none⟩) t.args.length t.args.length))
          go_wp2_with fail
          exact bodyPost_ret (v := .agg #[.int .i64 t.v, .int .i64 t.f, .slice (some ⟨w.heap.size + 1 + 1 + 1, 0, none⟩) t.args.length t.args.length]) (by simp [results, Tryz.results153, go_sem, d0, d1, d2]) rfl (copy_done hne Hcop.out)
end Go.Proofs.YtbkedppkdhfpoabGreat

namespace Go.Proofs.YtbkedppkdhfpoabGreat
open Go.RowKit
def slFoot : Option Obj → Nat → Prop := fun o k => ∃ a n c t fr, o = some (.cells #[.slice (some a) n c] t fr) ∧ k = a.block
theorem own_same {w w' : World} {base : Nat} {e : TypeId} {size : Nat} {v : Value} {n : Nat} {xs : List Value} (h : w.ownsRow base e size v n xs) (hs : ∀ g, v.ownBlock = some g → w'.heap[g]? = w.heap[g]?) : w'.ownsRow base e size v n xs := by
  obtain ⟨h1, h2⟩ := h
  refine ⟨h1, ?_⟩
  rcases h2 with h2 | ⟨g, cap, cur, hv, hg, hh, r⟩
  · exact Or.inl h2
  · exact Or.inr ⟨g, cap, cur, hv, hg, by rw [hs g (by rw [hv]; rfl)]; exact hh, r⟩
theorem own_lt {w : World} {base : Nat} {e : TypeId} {size : Nat} {v : Value} {n : Nat} {xs : List Value} (h : w.ownsRow base e size v n xs) : ∀ g, v.ownBlock = some g → base ≤ g ∧ g < w.heap.size := by
  intro g hg
  rcases h.2 with ⟨rfl, _⟩ | ⟨g', cap, cur, rfl, hb, hh, _⟩
  · cases hg
  · simp only [Value.ownBlock, Option.some.injEq] at hg
    subst hg
    refine ⟨hb, ?_⟩
    rcases Nat.lt_or_ge g' w.heap.size with h | h
    · exact h
    · rw [Array.getElem?_eq_none h] at hh; cases hh
theorem own_shape {w : World} {base : Nat} {e : TypeId} {size : Nat} {v : Value} {n : Nat} {xs : List Value} (h : w.ownsRow base e size v n xs) : ∃ a c, v = .slice a n c := by
  rcases h.2 with ⟨rfl, rfl⟩ | ⟨g', cap, cur, rfl, _⟩
  · exact ⟨_, _, rfl⟩
  · exact ⟨_, _, rfl⟩
structure VarsAt (x B : Nat) (w : World) (zs : List Int) : Prop where
  ex : ∃ v, w.heap[x]? = some (.cells #[v] 22 (0, 0)) ∧ w.ownsRow B 3 1 v zs.length (zs.map (Value.int .i64))
theorem foot_of {x : Nat} {w : World} {v : Value} {e : TypeId} {fr : Nat × Nat} (h : w.heap[x]? = some (.cells #[v] e fr)) (k : Nat) : slFoot w.heap[x]? k ↔ v.ownBlock = some k := by
  rw [h]
  constructor
  · rintro ⟨a, n, c, t, fr', h1, rfl⟩
    simp only [Option.some.injEq, Obj.cells.injEq] at h1
    obtain ⟨h1, _, _⟩ := h1
    have : v = .slice (some a) n c := by simpa using h1
    rw [this]; rfl
  · intro h1
    cases v with
    | slice a n c =>
      cases a with
      | none => cases h1
      | some a => exact ⟨a, n, c, e, fr, rfl, by simpa [Value.ownBlock] using h1.symm⟩
    | _ => cases h1
theorem VarsAt.below {x B : Nat} {w w' : World} {zs : List Int} (h : VarsAt x B w zs) (hb : Below w.heap.size w w') : VarsAt x B w' zs := by
  obtain ⟨v, h1, h2⟩ := h
  have hx : x < w.heap.size := by
    rcases Nat.lt_or_ge x w.heap.size with h | h
    · exact h
    · rw [Array.getElem?_eq_none h] at h1; cases h1
  exact ⟨v, by rw [hb.block x hx]; exact h1, own_same h2 (fun g hg => hb.block g (own_lt h2 g hg).2)⟩
def varStep : List Int → T → List Int × Bool := fun zs t => (if t.v = 0 then zs else zs ++ [t.v], true)
theorem Tryz.info3 : (Tryz.prog.info? 3).map (fun i => (i.zero, i.size, i.bytes)) = some (some (.int .i64 0), 1, 8) := by kernel_rfl
theorem one_new {w : World} {v : Value} {e : TypeId} {n : Nat} (hn : n = w.heap.size) : ∀ (j : Nat) (u : Value), [v][j]? = some u → (w.alloc (.cells #[v] e)).cell? ((⟨n, 0, none⟩ : Addr).add j) = some u := by
  subst hn; exact cell_one_new _ _ _
theorem VarsAt.grown {x B : Nat} {w w2 : World} {zs : List Int} {v : Value} {n : Int} {g cap H : Nat} (hxB : x < B) (hB : B ≤ w.heap.size) (hv : w.heap[x]? = some (.cells #[v] 22 (0, 0))) (hown : w.ownsRow B 3 1 v zs.length (zs.map (Value.int .i64)))
    (hH : w.heap.size ≤ H) (W : World) (hW : Below w.heap.size w W)
    (hown2 : w2.ownsRow B 3 1 (.slice (some ⟨g, 0, none⟩) (zs.length + 1) cap) (zs.length + 1) (zs.map (Value.int .i64) ++ [.int .i64 n])) (hgr : W.grownBy w2 v.ownBlock) (hat : v.ownBlock = some g ∨ g = H) (hlt : g < w2.heap.size) :
    VarsAt x B (w2.setCell ⟨x, 0, none⟩ (.slice (some ⟨g, 0, none⟩) (zs.length + 1) cap)) (zs ++ [n]) ∧ Keeps x slFoot w (w2.setCell ⟨x, 0, none⟩ (.slice (some ⟨g, 0, none⟩) (zs.length + 1) cap)) := by
  have hx : x < w.heap.size := by omega
  have hxv : v.ownBlock ≠ some x := fun e => by have := (own_lt hown x e).1; omega
  have hwsz := hW.size
  have hgs := hgr.size
  have hx2 : w2.heap[x]? = some (.cells #[v] 22 (0, 0)) := by rw [hgr.block x (by omega) (fun e => hxv e.symm), hW.block x hx]; exact hv
  have hx3 : (w2.setCell ⟨x, 0, none⟩ (.slice (some ⟨g, 0, none⟩) (zs.length + 1) cap)).heap[x]? = some (.cells #[.slice (some ⟨g, 0, none⟩) (zs.length + 1) cap] 22 (0, 0)) := by
    simp [World.setCell, Array.getElem?_modify, hx2]
  have hg := own_lt hown2 g rfl
  refine ⟨⟨_, hx3, ?_⟩, hgr.os.trans hW.os, hgr.tape.trans hW.tape, hgr.output.trans hW.output, ?_, fun k hk hkx hkF => ?_, fun k hkF => ?_⟩
  · rw [List.length_append, List.map_append]
    exact ownsRow_setCell_below hown2 hxB _
  · simp [World.setCell]; omega
  · rw [foot_of hv] at hkF
    rw [Below.heap_setCell _ _ _ _ hkx, hgr.block k (by omega) (fun e => hkF e.symm), hW.block k hk]
  · rw [foot_of hx3] at hkF
    simp only [Value.ownBlock, Option.some.injEq] at hkF
    subst hkF
    rcases hat with hat | rfl
    · exact Or.inl ((foot_of hv _).2 hat)
    · exact Or.inr ⟨hH, by simp [World.setCell]; omega⟩
set_option maxRecDepth 100000 in
set_option maxHeartbeats 400000 in
theorem varsC_any (x B : Nat) (w : World) (zs : List Int) (t : T) (a : Option Addr) (cap : Nat) (hxB : x < B) (hB : B ≤ w.heap.size) (hz : zs.length < 1000) (h : VarsAt x B w zs) :
    Calls Tryz.prog 168 #[.agg #[.int .i64 t.v, .int .i64 t.f, .slice a t.args.length cap], .pointer (some ⟨x, 0, none⟩)] w fun e w' =>
      e = .returned (.bool (varStep zs t).2) ∧ VarsAt x B w' (varStep zs t).1 ∧ Keeps x slFoot w w' := by
  have hx : x < w.heap.size := by omega
  by_cases ht : t.v = 0
  · have h1 : varStep zs t = (zs, true) := by rw [varStep, if_pos ht]
    rw [h1]
    have ht' : (t.v != 0) = false := by simpa using ht
    have H := hide h
    clear h h1 ht
    go_enter Tryz.func168, Tryz.ntmps168
    go_wp2_with fail
    go_ret
    exact ⟨rfl, H.out.below (below1 _ _), Keeps.of_below hx (below1 _ _)⟩
  · have h1 : varStep zs t = (zs ++ [t.v], true) := by rw [varStep, if_neg ht]
    rw [h1]
    have ht' : (t.v != 0) = true := by simpa using ht
    obtain ⟨v, hv, hown⟩ := h
    obtain ⟨va, vc, rfl⟩ := own_shape hown
    have cv : w.cell? ⟨x, 0, none⟩ = some (.slice va zs.length vc) := by simp [World.cell?, hv]
    have Hv := hide hv
    have Hown := hide hown
    clear h1 ht hv hown
    obtain ⟨i, hi, hzz⟩ := Option.map_eq_some_iff.1 Tryz.info3
    simp only [Prod.mk.injEq] at hzz
    obtain ⟨hz0, hz1, hz2⟩ := hzz
    have HO := hide (fun o1 o2 => own_same Hown.out (w' := (w.alloc o1).alloc o2) (fun g hg => (below2 w o1 o2).block g (own_lt Hown.out g hg).2))
    go_enter Tryz.func168, Tryz.ntmps168
    go_wp2_with (at_builtin; go_must (refine wpList_append_lies _ rfl (.tmp 7) (.tmp 10) 22 rfl B 3 i (.int .i64 0) 1 8 Tryz.underlying22 hi hz0 hz1 hz2 rfl (by decide) (.slice va zs.length vc) zs.length (zs.map (Value.int .i64)) rfl (HO.out _ _) ⟨w.heap.size + 1, 0, none⟩ 1 1 [.int .i64 t.v] rfl rfl (one_new (by simp)) (by simp [Value.oneCell']) (by decide) (by unfold maxLen; omega) (by omega) (by simp; omega) _ rfl ?_))
    intro g cap2 w2 hown2 hgr hat hlt
    have hg := VarsAt.grown (H := w.heap.size + 1 + 1) hxB hB Hv.out Hown.out (by omega) _ (below2 _ _ _) hown2 hgr (by simpa using hat) hlt
    have Hg := hide hg
    have hx2 : w2.heap[x]? = some (.cells #[.slice va zs.length vc] 22 (0, 0)) := by
      have hne : (Value.slice va zs.length vc).ownBlock ≠ some x := fun e => by have := (own_lt Hown.out x e).1; omega
      rw [hgr.block x (by simp; omega) (fun e => hne e.symm), (below2 _ _ _).block x hx]; exact Hv.out
    have cv2 : w2.cell? ⟨x, 0, none⟩ = some (.slice va zs.length vc) := by simp [World.cell?, hx2]
    have fv2 : w2.frozen? ⟨x, 0, none⟩ = false := by simp [World.frozen?, hx2]
    clear hg hown2 hgr hat hx2 HO
    go_wp2_with fail
    go_ret
    exact ⟨rfl, Hg.out⟩
end Go.Proofs.YtbkedppkdhfpoabGreat

namespace Go.Proofs.YtbkedppkdhfpoabGreat
open Go.RowKit Go.Maps
theorem Tryz.key3 : Keyed Tryz.prog 3 := int_keyed Tryz.underlying3
def Rv : Value → Option (DataW Value × List MemPlace) := fun v => some (.held v, [])
theorem key_int {k : Int} (h0 : -9223372036854775808 ≤ k) (h1 : k ≤ 9223372036854775807) : keyOf Tryz.prog 3 (.int .i64 k) = some (.int .i64 k) :=
  keyOf_int_mk Tryz.underlying3 (WalkArith.wf_i64 (by omega))
def MapAt (w : World) (b n : Nat) (f : Int → Option Value) : Prop :=
  ∃ D : DataW Value, w.ownsMap Tryz.prog 3 Rv b n D ∧ ∀ k : Int, Maps.has D (.int .i64 k) = (f k).isSome ∧ ∀ v, f k = some v → ∀ z, D.atKey (.int .i64 k) z = .held v
theorem MapAt.lt {w : World} {b n : Nat} {f : Int → Option Value} (h : MapAt w b n f) : b < w.heap.size := by obtain ⟨D, hD, _⟩ := h; exact hD.lt
theorem MapAt.mono {w : World} {b n m : Nat} {f : Int → Option Value} (h : MapAt w b n f) (hm : n ≤ m) : MapAt w b m f := by obtain ⟨D, hD, hf⟩ := h; exact ⟨D, hD.mono hm, hf⟩
theorem MapAt.same {w w' : World} {b n : Nat} {f : Int → Option Value} (h : MapAt w b n f) (hs : w'.heap[b]? = w.heap[b]?) : MapAt w' b n f := by
  obtain ⟨D, ⟨es, clock, h1, h2⟩, hf⟩ := h
  exact ⟨D, ⟨es, clock, hs.trans h1, h2⟩, hf⟩
theorem MapAt.below {w w' : World} {b n : Nat} {f : Int → Option Value} (h : MapAt w b n f) (hb : Below w.heap.size w w') : MapAt w' b n f := h.same (hb.block b h.lt)
theorem MapAt.made (w : World) : MapAt (w.alloc (.map #[] 0)) w.heap.size 0 (fun _ => none) :=
  ⟨.map [], World.ownsMap_made w Tryz.prog 3 Rv, fun k => ⟨rfl, fun v h => by cases h⟩⟩
theorem MapAt.look_ok {w : World} {b n : Nat} {f : Int → Option Value} (h : MapAt w b n f) {t e : TypeId} (ht : Tryz.prog.underlying t = some (.map 3 e)) {z : Value} (hz : (zeroValue e).run Tryz.prog w = .ok z w) {k : Int} (h0 : -9223372036854775808 ≤ k) (h1 : k ≤ 9223372036854775807) :
    (Instr.lookup t (.map (some b)) (.int .i64 k) true).run Tryz.prog w = .ok (.tuple #[(f k).getD z, .bool (f k).isSome]) w := by
  obtain ⟨D, hD, hf⟩ := h
  obtain ⟨v, ps, hrun, hv⟩ := hD.look_ok Tryz.key3 ht hz (zd := .held z) (zp := []) rfl (key_int h0 h1)
  obtain ⟨g1, g2⟩ := hf k
  rw [g1] at hrun
  rw [hrun]
  simp only [Rv, Option.some.injEq, Prod.mk.injEq] at hv
  cases hfk : f k with
  | some u =>
    rw [g2 u hfk] at hv
    have : v = u := by simpa using hv.1
    rw [this]; rfl
  | none =>
    rw [hfk] at g1
    rw [Maps.atKey_of_not_has g1] at hv
    have : v = z := by simpa using hv.1
    rw [this]; rfl
theorem MapAt.look {w : World} {b n : Nat} {f : Int → Option Value} (h : MapAt w b n f) {t e : TypeId} (ht : Tryz.prog.underlying t = some (.map 3 e)) {z : Value} (hz : (zeroValue e).run Tryz.prog w = .ok z w) {k : Int} (h0 : -9223372036854775808 ≤ k) (h1 : k ≤ 9223372036854775807) :
    (Instr.lookup t (.map (some b)) (.int .i64 k) false).run Tryz.prog w = .ok ((f k).getD z) w := by
  obtain ⟨D, hD, hf⟩ := h
  obtain ⟨v, ps, hrun, hv⟩ := hD.lookup Tryz.key3 ht hz (zd := .held z) (zp := []) rfl (key_int h0 h1)
  obtain ⟨g1, g2⟩ := hf k
  rw [hrun]
  simp only [Rv, Option.some.injEq, Prod.mk.injEq] at hv
  cases hfk : f k with
  | some u =>
    rw [g2 u hfk] at hv
    have : v = u := by simpa using hv.1
    rw [this]; rfl
  | none =>
    rw [hfk] at g1
    rw [Maps.atKey_of_not_has g1] at hv
    have : v = z := by simpa using hv.1
    rw [this]; rfl
theorem MapAt.store {w : World} {b n : Nat} {f : Int → Option Value} (h : MapAt w b n f) {t e : TypeId} (ht : Tryz.prog.underlying t = some (.map 3 e)) (hn : n < maxLen) {k : Int} (h0 : -9223372036854775808 ≤ k) (h1 : k ≤ 9223372036854775807) (v : Value) :
    ∃ w', (Instr.mapUpdate t (.map (some b)) (.int .i64 k) v).run Tryz.prog w = .ok () w' ∧ MapAt w' b (n + 1) (fun j => if j = k then some v else f j) ∧ w.grownBy w' (some b) := by
  obtain ⟨D, hD, hf⟩ := h
  obtain ⟨w', hrun, hD', hg⟩ := hD.update Tryz.key3 ht hn (key_int h0 h1) (val := v) (d := .held v) (ps := []) rfl
  refine ⟨w', hrun, ⟨_, hD', fun j => ?_⟩, hg⟩
  by_cases e : j = k
  · subst e
    have hkl : WideAt.IsKeyLit (Lit.int .i64 j) := trivial
    simp only [if_pos]
    refine ⟨by rw [Maps.has_put_same hD.isMap hkl]; rfl, fun u hu z => ?_⟩
    rw [Maps.atKey_put_same hD.isMap hkl]
    simpa using hu
  · have hne : (Lit.int .i64 j) ≠ (Lit.int .i64 k) := fun e' => e (by injection e')
    simp only [if_neg e]
    refine ⟨by rw [Maps.has_put_other hne]; exact (hf j).1, fun u hu z => ?_⟩
    rw [Maps.atKey_put_other hne]
    exact (hf j).2 u hu z
end Go.Proofs.YtbkedppkdhfpoabGreat

namespace Go.Proofs.YtbkedppkdhfpoabGreat
open Go.RowKit
def parts : T → List T
  | ⟨v, f, args⟩ => partsL args ++ [⟨v, f, args⟩]
  where
  partsL : List T → List T
    | [] => []
    | t :: ts => parts t ++ partsL ts
theorem parts_eq (t : T) : parts t = parts.partsL t.args ++ [t] := by cases t; rfl
theorem partsL_cons (t : T) (ts : List T) : parts.partsL (t :: ts) = parts t ++ parts.partsL ts := rfl
structure Grw (w w' : World) (r r' : Option Nat) : Prop where
  gr : w.grownBy w' r
  row : r' = r ∨ ∃ g, r' = some g ∧ w.heap.size ≤ g
theorem Grw.refl (w : World) (r : Option Nat) : Grw w w r r := ⟨⟨rfl, rfl, rfl, Nat.le_refl _, fun _ _ _ => rfl⟩, Or.inl rfl⟩
theorem Grw.trans {a b c : World} {r r' r'' : Option Nat} (h : Grw a b r r') (k : Grw b c r' r'') : Grw a c r r'' := by
  have hs := h.gr.size
  refine ⟨⟨k.gr.os.trans h.gr.os, k.gr.tape.trans h.gr.tape, k.gr.output.trans h.gr.output, Nat.le_trans hs k.gr.size, fun i hi hne => ?_⟩, ?_⟩
  · rw [k.gr.block i (by omega) (fun e => ?_), h.gr.block i hi hne]
    rcases h.row with h1 | ⟨g, h1, h2⟩
    · exact hne (e.trans h1)
    · rw [h1] at e; simp at e; omega
  · rcases k.row with k1 | ⟨g, k1, k2⟩
    · rw [k1]; exact h.row
    · exact Or.inr ⟨g, k1, by omega⟩
theorem Grw.of_below {w w' : World} (r : Option Nat) (h : Below w.heap.size w w') : Grw w w' r r := ⟨⟨h.os, h.tape, h.output, h.size, fun k hk _ => h.block k hk⟩, Or.inl rfl⟩
theorem Grw.below {B : Nat} {w w' : World} {r r' : Option Nat} (h : Grw w w' r r') (hB : B ≤ w.heap.size) (hr : ∀ g, r = some g → B ≤ g) : Below B w w' :=
  ⟨h.gr.os, h.gr.tape, h.gr.output, h.gr.size, fun k hk => h.gr.block k (by omega) (fun e => by have := hr k e.symm; omega)⟩
end Go.Proofs.YtbkedppkdhfpoabGreat
