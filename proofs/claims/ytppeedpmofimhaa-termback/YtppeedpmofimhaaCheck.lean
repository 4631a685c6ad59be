/- The program's checks of terms, against the document's order of errors. -/
import Derived.Test.YtppeedpmofimhaaLook
namespace Go.Proofs.Ytppeedpmofimhaa
open Go.RowKit

theorem Keeps.of_below {x : Nat} {F : Option Obj → Nat → Prop} {w w' : World} (hx : x < w.heap.size) (h : Below w.heap.size w w') : Keeps x F w w' :=
  ⟨h.os, h.tape, h.output, h.size, fun k hk _ _ => h.block k hk, fun k hF => Or.inl (by rwa [h.block x hx] at hF)⟩
def noFoot : Option Obj → Nat → Prop := fun _ _ => False
theorem Keeps.setCell {x : Nat} {a w : World} (h : Keeps x noFoot a w) (j : Nat) (v : Value) : Keeps x noFoot a (w.setCell ⟨x, j, none⟩ v) :=
  h.trans ⟨rfl, rfl, rfl, by simp [World.setCell], fun k _ hk _ => Below.heap_setCell _ _ _ _ hk, fun _ hF => hF.elim⟩
theorem Foot.of (x B : Nat) (w : World) (hx : x < w.heap.size) (hB : B ≤ w.heap.size) : Foot x B noFoot w := ⟨hx, hB, fun _ h => h.elim⟩

/-- The numbers lie elsewhere than in block x. -/
def IntsOff (x : Nat) (w : World) (zs : List Int) (a : Option Addr) : Prop :=
  zs = [] ∨ ∃ b off, a = some ⟨b, off, none⟩ ∧ b ≠ x ∧ ∀ i, i < zs.length → w.cell? ⟨b, off + i, none⟩ = some (.int .i64 (zs.getD i 0))
theorem IntsOff.ints {x : Nat} {w : World} {zs : List Int} {a : Option Addr} (h : IntsOff x w zs a) : Ints w zs a := by
  rcases h with h | ⟨b, off, h1, _, h3⟩
  · exact Or.inl h
  · exact Or.inr ⟨b, off, h1, h3⟩
theorem IntsOff.keeps {x : Nat} {w w' : World} {zs : List Int} {a : Option Addr} (h : IntsOff x w zs a) (hk : Keeps x noFoot w w') : IntsOff x w' zs a := by
  rcases h with h | ⟨b, off, h1, h2, h3⟩
  · exact Or.inl h
  · exact Or.inr ⟨b, off, h1, h2, fun i hi => by
      rw [World.cell?_of_block (w := w) (a := ⟨b, off + i, none⟩) (hk.block b (lt_of_cell (h3 i hi)) h2 (fun h => h))]; exact h3 i hi⟩

/-- What the look at each part holds: the error so far, in the variable; the signature, in its own. -/
structure ErrAt (ar : List Int) (x xg : Nat) (ga : Option Addr) (gcap : Nat) (w : World) (e : Int) : Prop where
  ne : xg ≠ x
  ce : w.cell? ⟨x, 0, none⟩ = some (.int .i64 e)
  fe : w.frozen? ⟨x, 0, none⟩ = false
  cg : w.cell? ⟨xg, 0, none⟩ = some (.slice ga ar.length gcap)
  ig : IntsOff x w ar ga

theorem ErrAt.below {ar : List Int} {x xg : Nat} {ga : Option Addr} {gcap : Nat} {w w' : World} {e : Int} (h : ErrAt ar x xg ga gcap w e) (hb : Below w.heap.size w w') : ErrAt ar x xg ga gcap w' e := by
  have hx := lt_of_cell h.ce
  refine ⟨h.ne, ?_, ?_, ?_, h.ig.keeps (Keeps.of_below hx hb)⟩
  · rw [hb.cell (p := ⟨x, 0, none⟩) hx]; exact h.ce
  · rw [hb.frozen (p := ⟨x, 0, none⟩) hx]; exact h.fe
  · rw [hb.cell (p := ⟨xg, 0, none⟩) (lt_of_cell h.cg)]; exact h.cg

theorem ErrAt.set {ar : List Int} {x xg : Nat} {ga : Option Addr} {gcap : Nat} {w : World} {e : Int} (h : ErrAt ar x xg ga gcap w e) (e' : Int) : ErrAt ar x xg ga gcap (w.setCell ⟨x, 0, none⟩ (.int .i64 e')) e' := by
  refine ⟨h.ne, ?_, ?_, ?_, h.ig.keeps ((Keeps.refl _ _ _).setCell _ _)⟩
  · exact World.cell?_setCell_same _ _ _ h.ce
  · rw [World.frozen?_setCell]; exact h.fe
  · rw [World.cell?_setCell_other _ _ _ _ (fun h' => h.ne (by simp at h'; exact h'.symm))]; exact h.cg

def partStep (ar : List Int) : Int → T → Int × Bool := fun _ t => (partErr ar t.v t.f t.args.length, partErr ar t.v t.f t.args.length == 0)

set_option maxRecDepth 100000 in
set_option maxHeartbeats 400000 in
theorem checkTermC_any (ar : List Int) (x xg : Nat) (ga : Option Addr) (gcap : Nat) (w : World) (e0 : Int) (t : T) (a : Option Addr) (cap : Nat) (h : ErrAt ar x xg ga gcap w e0) :
    Calls Try.prog 102 #[.agg #[.int .i64 t.v, .int .i64 t.f, .slice a t.args.length cap], .pointer (some ⟨xg, 0, none⟩), .pointer (some ⟨x, 0, none⟩)] w fun e w' =>
      e = .returned (.bool (partStep ar e0 t).2) ∧ ErrAt ar x xg ga gcap w' (partStep ar e0 t).1 ∧ Keeps x noFoot w w' := by
  have hx := lt_of_cell h.ce
  have hxg := lt_of_cell h.cg
  have cg := h.cg
  unfold partStep
  obtain ⟨r, hr⟩ : ∃ r, partErr ar t.v t.f t.args.length = r := ⟨_, rfl⟩
  rw [hr]
  have Hr := hide hr
  clear hr
  go_enter Try.func102, Try.ntmps102
  go_wp2_with fail
  refine (checkPart_any ar ga gcap t.v t.f t.args.length a cap _ (Ints_alloc _ h.ig.ints)).mono ?_
  rw [Hr.out]
  rintro e w1 ⟨rfl, hbw⟩
  have h1 := h.below ((below1 _ _).trans (hbw.mono (by simp)))
  have hk1 : Keeps x noFoot w w1 := Keeps.of_below hx ((below1 _ _).trans (hbw.mono (by simp)))
  have ce := h1.ce
  have fe := h1.fe
  have h2 := h1.set r
  have hk2 := hk1.setCell 0 (.int .i64 r)
  have H2 := hide h2
  have HK2 := hide hk2
  have hce2 := h2.ce
  clear h2 hk2 hk1 hbw h1
  go_wp2_with fail
  go_ret
  exact ⟨rfl, H2, HK2⟩

theorem eg102 (args : Array Value) (w : World) : (callFunc 102 args).run Try.prog w = .ok (.enter 102 args) w := by kernel_rfl

/-- What is wrong with a term: too great; then the first part that is wrong. -/
def termErr (ar : List Int) (t : T) : Int := if 120 < t.sz then 2 else (lookT.lookL (partStep ar) 0 [t]).1

theorem InP_one {p : Nat → Prop} {w : World} {t : T} {b : Nat} {a : Option Addr} {cap : Nat} (hp : p b) (h : InP p w t.args a) (c0 : w.cell? ⟨b, 0, none⟩ = some (.int .i64 t.v)) (c1 : w.cell? ⟨b, 1, none⟩ = some (.int .i64 t.f))
    (c2 : w.cell? ⟨b, 2, none⟩ = some (.slice a t.args.length cap)) : InP p w [t] (some ⟨b, 0, none⟩) :=
  InP_cons.2 ⟨b, 0, _, rfl, hp, c0, c1, c2, In_iff.2 ⟨a, cap, rfl, h⟩, InP_nil⟩

/-- A term laid into a new block. -/
theorem InP_new1 {p : Nat → Prop} {w : World} {t : T} {a : Option Addr} {cap n : Nat} (e : TypeId) (hn : n = w.heap.size) (hp : p w.heap.size) (h : InP p w t.args a) :
    InP p (w.alloc (.cells #[.int .i64 t.v, .int .i64 t.f, .slice a t.args.length cap] e)) [t] (some ⟨n, 0, none⟩) := by
  subst hn
  exact InP_one hp (InP_alloc _ h) (World.cell?_alloc_mark _ _ _ _ _) (World.cell?_alloc_mark _ _ _ _ _) (World.cell?_alloc_mark _ _ _ _ _)

theorem bcell {W w1 : World} (hb : Below W.heap.size W w1) : (∀ b o, b < W.heap.size → w1.cell? ⟨b, o, none⟩ = W.cell? ⟨b, o, none⟩) ∧ (∀ b o, b < W.heap.size → w1.frozen? ⟨b, o, none⟩ = W.frozen? ⟨b, o, none⟩) :=
  ⟨fun b o h => hb.cell (p := ⟨b, o, none⟩) h, fun b o h => hb.frozen (p := ⟨b, o, none⟩) h⟩

theorem cell_alloc_lt {w : World} {o : Obj} {b j : Nat} (h : b < w.heap.size) : (w.alloc o).cell? ⟨b, j, none⟩ = w.cell? ⟨b, j, none⟩ := (below1 w o).cell (p := ⟨b, j, none⟩) h

theorem cell_new {w : World} {C : Array Value} {e : TypeId} {fr : Nat × Nat} {n : Nat} (j : Nat) (hn : n = w.heap.size) : (w.alloc (.cells C e fr)).cell? ⟨n, j, none⟩ = C[j]? := by
  subst hn; exact World.cell?_alloc_mark _ _ _ _ _

theorem frozen_new {w : World} {C : Array Value} {e : TypeId} {n : Nat} (j : Nat) (hn : n = w.heap.size) : (w.alloc (.cells C e)).frozen? ⟨n, j, none⟩ = false := by
  subst hn; simp

theorem Below.of_keeps {x B : Nat} {W w' : World} (h : Keeps x noFoot W w') (hx : B ≤ x) (hB : B ≤ W.heap.size) : Below B W w' :=
  ⟨h.os, h.tape, h.output, h.size, fun k hk => h.block k (by omega) (by omega) (fun h => h)⟩

theorem ErrAt.start {ar : List Int} {w : World} {xg : Nat} {ga : Option Addr} {gcap : Nat} (e : TypeId) (o : Obj) (cg : w.cell? ⟨xg, 0, none⟩ = some (.slice ga ar.length gcap)) (hg : Ints w ar ga) :
    ErrAt ar w.heap.size xg ga gcap ((w.alloc (.cells #[.int .i64 0] e)).alloc o) 0 := by
  have hlt := lt_of_cell cg
  have h1 : ErrAt ar w.heap.size xg ga gcap (w.alloc (.cells #[.int .i64 0] e)) 0 := by
    refine ⟨by omega, World.cell?_alloc_mark _ _ _ _ _, ?_, ?_, ?_⟩
    · simp
    · rw [(below1 w _).cell (p := ⟨xg, 0, none⟩) hlt]; exact cg
    · rcases hg with h | ⟨b, off, rfl, h⟩
      · exact Or.inl h
      · by_cases hz : ar = []
        · exact Or.inl hz
        · have hb := lt_of_cell (h 0 (List.length_pos_iff.2 hz))
          exact Or.inr ⟨b, off, rfl, by omega, fun i hi => by rw [(below1 w _).cell (p := ⟨b, off + i, none⟩) (lt_of_cell (h i hi))]; exact h i hi⟩
  exact h1.below (below1 _ _)

theorem look_check (ar : List Int) (x xg : Nat) (ga : Option Addr) (gcap B : Nat) (ts : List T) (a : Option Addr) (cap : Nat) (w : World) (h1000 : T.sz.szL ts ≤ 1000) (hf : Foot x B noFoot w) (hin : InP (fun k => k < B ∧ k ≠ x) w ts a)
    (hst : ErrAt ar x xg ga gcap w 0) :
    Calls Try.prog 54 #[.func (.func 102) #[] #[.pointer (some ⟨xg, 0, none⟩), .pointer (some ⟨x, 0, none⟩)], .slice a ts.length cap] w fun e w' =>
      e = .returned (.bool (lookT.lookL (partStep ar) 0 ts).2) ∧ ErrAt ar x xg ga gcap w' (lookT.lookL (partStep ar) 0 ts).1 ∧ Keeps x noFoot w w' :=
  look_any (partStep ar) 102 #[.pointer (some ⟨xg, 0, none⟩), .pointer (some ⟨x, 0, none⟩)] x B noFoot (ErrAt ar x xg ga gcap) eg102 (fun _ => 0) 1001 (fun _ _ => Nat.zero_le _) (fun _ _ _ _ h => h.below (below1 _ _))
    (fun w' s t' a' cap' _ _ h => checkTermC_any ar x xg ga gcap w' s t' a' cap' h) (T.sz.szL ts + 1) ts a cap w 0 (by omega) h1000 (by simp; omega) hf hin hst

set_option maxRecDepth 100000 in
set_option maxHeartbeats 400000 in
theorem checkTerm_any (ar : List Int) (ga : Option Addr) (gcap : Nat) (t : T) (a : Option Addr) (cap : Nat) (w : World) (hg : Ints w ar ga) (ht : InL w t.args a) :
    Calls Try.prog 86 #[.agg #[.slice ga ar.length gcap], .agg #[.int .i64 t.v, .int .i64 t.f, .slice a t.args.length cap]] w fun e w' => e = .returned (.int .i64 (termErr ar t)) ∧ Below w.heap.size w w' := by
  have hmf : ∀ (fn : Fn) (first cap : Array Value) (w : World), (Instr.makeFunc fn first cap).run Try.prog w = .ok (.func fn first cap) w := fun _ _ _ _ => rfl
  have hs1 : T.sz.szL [t] = t.sz := by rw [T.szL_cons, T.szL_nil]; omega
  have Hs1 := hide hs1
  clear hs1
  go_enter Try.func86, Try.ntmps86
  go_wp2_with fail
  refine (size_any (t.sz + 1) [t] 120 _ 1 _ (by rw [Hs1.out]; omega) (by omega) (by omega) (InP_new1 _ (by simp) trivial (InP_alloc _ (InP_alloc _ ht)))).mono ?_
  rintro e w1 ⟨rfl, hb1⟩
  rw [Hs1.out]
  have hbw : Below w.heap.size w w1 := (((below1 _ _).alloc (by simp) _).alloc (by simp; omega) _).trans (hb1.mono (by simp; omega))
  by_cases hbig : 120 < t.sz
  · have hm : min (t.sz : Int) (120 + 1) = 121 := by omega
    rw [hm]
    have hfin : termErr ar t = 2 := by rw [termErr, if_pos hbig]
    have Hfin := hide hfin
    clear hfin hm
    go_wp2_with fail
    go_ret
    exact ⟨by rw [Hfin.out]; rfl, hbw⟩
  · have hm : min (t.sz : Int) (120 + 1) = t.sz := by omega
    rw [hm]
    have hfin : termErr ar t = (lookT.lookL (partStep ar) 0 [t]).1 := by rw [termErr, if_neg hbig]
    have Hfin := hide hfin
    clear hfin hm
    obtain ⟨hc1, hf1⟩ := bcell hb1
    have hz1 : w.heap.size + 3 ≤ w1.heap.size := by have := hb1.size; simp at this; omega
    have cg : w1.cell? ⟨w.heap.size, 0, none⟩ = some (.slice ga ar.length gcap) := by
      rw [hc1 _ _ (by simp; omega), cell_alloc_lt (by simp; omega), cell_alloc_lt (by simp), World.cell?_alloc_mark]; rfl
    have hd : ∀ j, w1.cell? ⟨w.heap.size + 1, j, none⟩ = #[Value.int .i64 t.v, .int .i64 t.f, .slice a t.args.length cap][j]? := fun j => by
      rw [hc1 _ _ (by simp), cell_alloc_lt (by simp), cell_new _ (by simp)]
    have d0 := hd 0
    have d1 := hd 1
    have d2 := hd 2
    simp only [List.getElem?_toArray, List.getElem?_cons_zero, List.getElem?_cons_succ] at d0 d1 d2
    clear hd hc1 hf1
    have hz2 : w.heap.size + 1 < w1.heap.size := by omega
    have hin1 := InP_lt (InP_below hbw ht)
    have hin2 : ∀ e1 e2, InP (fun k => k < w1.heap.size + 2 ∧ k ≠ w1.heap.size) ((w1.alloc (.cells #[.int .i64 0] e1)).alloc (.cells #[.int .i64 t.v, .int .i64 t.f, .slice a t.args.length cap] e2)) [t] (some ⟨w1.heap.size + 1, 0, none⟩) :=
      fun e1 e2 => InP_new1 e2 (by simp) (by constructor <;> simp) (InP_alloc _ (InP_imp (fun k h => by omega) hin1))
    have hst : ∀ e1 e2, ErrAt ar w1.heap.size w.heap.size ga gcap ((w1.alloc (.cells #[.int .i64 0] e1)).alloc (.cells #[.int .i64 t.v, .int .i64 t.f, .slice a t.args.length cap] e2)) 0 :=
      fun e1 e2 => ErrAt.start e1 _ cg (Ints_below hbw hg)
    have hft : ∀ o1 o2, Foot w1.heap.size (w1.heap.size + 2) noFoot ((w1.alloc o1).alloc o2) := fun o1 o2 => Foot.of _ _ _ (by simp; omega) (by simp)
    have Hin2 := hide hin2
    have Hst := hide hst
    have Hft := hide hft
    clear hin1 hin2 hst hft
    go_wp2_with fail
    refine (look_check ar _ _ ga gcap (w1.heap.size + 2) [t] _ 1 _ (by rw [Hs1.out]; omega) (Hft.out _ _) (Hin2.out _ _) (Hst.out _ _)).mono ?_
    rintro e w2 ⟨rfl, herr, hkeep⟩
    have ce := herr.ce
    rw [← Hfin.out] at ce
    have hb2 := Below.of_keeps (B := w.heap.size) hkeep (by omega) (by simp; omega)
    have hsz2 := hkeep.size
    simp at hsz2
    clear herr hkeep cg
    go_wp2_with fail
    go_ret
    exact ⟨rfl, ((hbw.alloc (by omega) _).alloc (by simp; omega) _).trans hb2⟩

def termsErr (ar : List Int) : List T → Int
  | [] => 0
  | t :: ts => if termErr ar t = 0 then termsErr ar ts else termErr ar t
/-- What is wrong with a signature, then with some terms. -/
def allErr (ar : List Int) (ts : List T) : Int := if sigErr ar = 0 then termsErr ar ts else sigErr ar

theorem termsErr_append (ar : List Int) (a b : List T) : termsErr ar (a ++ b) = if termsErr ar a = 0 then termsErr ar b else termsErr ar a := by
  induction a with
  | nil => simp [termsErr]
  | cons t ts ih =>
    rw [List.cons_append, termsErr, termsErr]
    by_cases h : termErr ar t = 0
    · rw [if_pos h, if_pos h, ih]
    · rw [if_neg h, if_neg h, if_neg h]
theorem termsErr_step {ar : List Int} {ts : List T} {k : Nat} {t : T} (ht : ts[k]? = some t) (h : termsErr ar (ts.take k) = 0) :
    (termErr ar t = 0 → termsErr ar (ts.take (k + 1)) = 0) ∧ (termErr ar t ≠ 0 → termsErr ar ts = termErr ar t) := by
  have hlt : k < ts.length := by
    rcases Nat.lt_or_ge k ts.length with h | h
    · exact h
    · rw [List.getElem?_eq_none h] at ht; cases ht
  constructor
  · intro h2
    rw [List.take_add_one, ht, termsErr_append, if_pos h]
    simp [termsErr, h2]
  · intro h2
    have e : ts = ts.take k ++ t :: ts.drop (k + 1) := by
      rw [List.getElem?_eq_getElem hlt] at ht
      simp at ht
      rw [← ht, List.getElem_cons_drop, List.take_append_drop]
    rw [e, termsErr_append, if_pos h, termsErr, if_neg h2]

set_option maxRecDepth 100000 in
set_option maxHeartbeats 400000 in
theorem check_any (ar : List Int) (ga : Option Addr) (gcap : Nat) (ts : List T) (a : Option Addr) (cap : Nat) (w : World) (hg : Ints w ar ga) (hin : InL w ts a) (h1000 : ts.length ≤ 1000) :
    Calls Try.prog 52 #[.agg #[.slice ga ar.length gcap], .slice a ts.length cap] w fun e w' => e = .returned (.int .i64 (allErr ar ts)) ∧ Below w.heap.size w w' := by
  go_enter Try.func52, Try.ntmps52
  go_wp2_with fail
  refine (signature_any ar ga gcap _ (Ints_alloc _ hg)).mono ?_
  rintro e w1 ⟨rfl, hb1⟩
  have hz1 : w.heap.size < w1.heap.size := by have := hb1.size; simp at this; omega
  have hbw : Below w.heap.size w w1 := (below1 _ _).trans (hb1.mono (by simp))
  have cg : w1.cell? ⟨w.heap.size, 0, none⟩ = some (.slice ga ar.length gcap) := by
    rw [hb1.cell (p := ⟨w.heap.size, 0, none⟩) (by simp), cell_new _ rfl]; rfl
  by_cases hs : sigErr ar = 0
  · have hfin : allErr ar ts = termsErr ar ts := by rw [allErr, if_pos hs]
    have Hfin := hide hfin
    clear hfin
    rw [hs]
    clear hb1
    go_wp2_with fail
    go_loopw [7, 8, 16] (fun _ _ i wr => ∃ k : Nat, k ≤ ts.length ∧ i = .int .i64 k ∧ Hid (termsErr ar (ts.take k) = 0) ∧ Below w1.heap.size w1 wr) (fun _ _ i _ => ts.length - (intOf i).toNat)
    case atStart => exact ⟨0, Nat.zero_le _, rfl, rfl, Below.refl _ _⟩
    case round =>
      obtain ⟨k, hk, rfl, HL, hb⟩ := hrel
      have hzr := hb.size
      by_cases hlt : k < ts.length
      · have hin' := InP_below hb (InP_below hbw hin)
        have hg' := Ints_below hb (Ints_below hbw hg)
        obtain ⟨b, off, rfl⟩ := InP_some hin (by omega)
        obtain ⟨t, ht⟩ : ∃ t, ts[k]? = some t := ⟨ts[k], List.getElem?_eq_getElem hlt⟩
        obtain ⟨a1, cap1, _, c0, c1, c2, hin1⟩ := InP_at hin' ht
        have Hst := hide (termsErr_step ht HL.out)
        have cg' : wr.cell? ⟨w.heap.size, 0, none⟩ = some (.slice ga ar.length gcap) := by rw [hb.cell (p := ⟨w.heap.size, 0, none⟩) hz1]; exact cg
        have hzr' : w.heap.size < wr.heap.size := by omega
        clear ht
        go_wp2_with fail
        refine (checkTerm_any ar ga gcap t a1 cap1 _ (Ints_alloc _ hg') (InP_alloc _ hin1)).mono ?_
        rintro e w2 ⟨rfl, hb2⟩
        have hb3 : Below w1.heap.size w1 w2 := (hb.alloc hb.size _).trans (hb2.mono (by simp; omega))
        by_cases ht0 : termErr ar t = 0
        · have hgo := hide (Hst.out.1 ht0)
          rw [ht0]
          clear Hst hb2
          go_wp2_with fail
          go_roundw
          case rel => exact ⟨k + 1, by omega, by go_num, hgo, hb3⟩
          case measure => simp [intOf]; omega
        · have hgo := hide (Hst.out.2 ht0)
          have ht1 : (termErr ar t != 0) = true := by simpa using ht0
          clear Hst hb2 ht0
          go_wp2_with fail
          go_ret
          exact ⟨ret_int (by rw [Hfin.out, hgo.out]), hbw.trans (hb3.mono (by omega))⟩
      · go_wp2_with fail
        go_ret
        have hk2 : k = ts.length := by omega
        subst hk2
        rw [List.take_length] at HL
        exact ⟨ret_int (by rw [Hfin.out, HL.out]), hbw.trans (hb.mono (by omega))⟩
  · have hfin : allErr ar ts = sigErr ar := by rw [allErr, if_neg hs]
    have Hfin := hide hfin
    have hs1 : (sigErr ar != 0) = true := by simpa using hs
    clear hfin hs hb1
    go_wp2_with fail
    go_ret
    exact ⟨ret_int Hfin.out.symm, hbw⟩

set_option maxRecDepth 100000 in
set_option maxHeartbeats 400000 in
theorem Check_any (ar : List Int) (ga : Option Addr) (gcap : Nat) (t : T) (a : Option Addr) (cap : Nat) (w : World) (hg : Ints w ar ga) (hin : InL w t.args a) :
    Calls Try.prog 21 #[.agg #[.slice ga ar.length gcap], .agg #[.int .i64 t.v, .int .i64 t.f, .slice a t.args.length cap]] w fun e w' => e = .returned (.int .i64 (allErr ar [t])) ∧ Below w.heap.size w w' := by
  have Hg := hide (fun o1 o2 o3 => Ints_alloc o3 (Ints_alloc o2 (Ints_alloc o1 hg)))
  have Hin := hide (fun o1 o2 e => InP_new1 (n := w.heap.size + 1 + 1) (cap := cap) e (by simp) trivial (InP_alloc o2 (InP_alloc o1 hin)))
  clear hg hin
  go_enter Try.func21, Try.ntmps21
  go_wp2_with fail
  refine (check_any ar ga gcap [t] _ 1 _ (Hg.out _ _ _) (Hin.out _ _ _) (by simp)).mono ?_
  rintro e w1 ⟨rfl, hb1⟩
  go_wp2_with fail
  go_ret
  exact ⟨rfl, (((below1 _ _).alloc (by simp) _).alloc (by simp; omega) _).trans (hb1.mono (by simp; omega))⟩

end Go.Proofs.Ytppeedpmofimhaa
