/- What lies there while a term's parts are added to the unifier, and what is added. The unifier's add. What a part of the unifier has become, made. The contracts of the library that the program calls on keys, laid at this program in plain words. The keys of a map, sorted. The unifier's bindings, rising. What the program's Unify comes to, in pure words; the variables' numbers while parts are added. -/
import Derived.BigQuiet
import Derived.Deep.AppendLies
import Derived.Deep.RegionLaw
import Derived.Shelf.SlIterI.Nil
import Derived.Test.YtbkedppkdhfpoabGreatProg
import Derived.Test.YtbkedppkdhfpoabGreatJoined6
namespace Go.Proofs.YtbkedppkdhfpoabGreat
open Go.RowKit Go.Maps
theorem Tryz.under99 : Tryz.prog.underlying 106 = some (.map 3 3) := by kernel_rfl
theorem Tryz.zeroI (w : World) : (zeroValue 3).run Tryz.prog w = .ok (.int .i64 0) w := by kernel_rfl
theorem okP_le {ar : List Int} {t : T} (h : okP ar t) : 0 ≤ t.v ∧ t.v ≤ 1000 := by
  have h1 := (okP_iff.1 h).1
  rw [partErr] at h1
  by_cases hv : t.v = 0
  · omega
  · rw [if_pos hv] at h1
    by_cases h2 : t.v < 1 ∨ 1000 < t.v
    · rw [if_pos h2] at h1; cases h1
    · omega
theorem addT_known {t : T} {s : List Pt × List (Int × Nat)} {n : Nat} (h : lookN s.2 t.v = some n) : addT t s = (n, s) := by
  obtain ⟨v, f, args⟩ := t
  rw [addT, h]
theorem addT_new {t : T} {s : List Pt × List (Int × Nat)} (h : lookN s.2 t.v = none) : addT t s = ((addT.addL t.args s).2.1.length, (addT.addL t.args s).2.1 ++ [⟨t.v, t.f, (addT.addL t.args s).1, (addT.addL t.args s).2.1.length, 0⟩], if t.v = 0 then (addT.addL t.args s).2.2 else (t.v, (addT.addL t.args s).2.1.length) :: (addT.addL t.args s).2.2) := by
  obtain ⟨v, f, args⟩ := t
  rw [addT, h]
theorem addL_snoc (x : T) : ∀ (ts : List T) (s : List Pt × List (Int × Nat)), addT.addL (ts ++ [x]) s = ((addT.addL ts s).1 ++ [(addT x (addT.addL ts s).2).1], (addT x (addT.addL ts s).2).2) := by
  intro ts
  induction ts with
  | nil => intro s; rfl
  | cons t ts ih =>
    intro s
    show ((addT t s).1 :: (addT.addL (ts ++ [x]) (addT t s).2).1, (addT.addL (ts ++ [x]) (addT t s).2).2) = _
    rw [ih]; rfl
theorem addL_step {ts : List T} {k : Nat} {x : T} (h : ts[k]? = some x) (s : List Pt × List (Int × Nat)) : addT.addL (ts.take (k + 1)) s = ((addT.addL (ts.take k) s).1 ++ [(addT x (addT.addL (ts.take k) s).2).1], (addT x (addT.addL (ts.take k) s).2).2) := by
  rw [List.take_add_one, h]; exact addL_snoc x _ s
theorem addL_length : ∀ (ts : List T) (s : List Pt × List (Int × Nat)), (addT.addL ts s).1.length = ts.length := by
  intro ts
  induction ts with
  | nil => intro s; rfl
  | cons t ts ih => intro s; show (_ :: (addT.addL ts (addT t s).2).1).length = _; rw [List.length_cons, ih, List.length_cons]
theorem add_size : ∀ (n : Nat), (∀ (t : T) (s : List Pt × List (Int × Nat)), t.sz ≤ n → (addT t s).2.1.length ≤ s.1.length + t.sz ∧ (addT t s).2.2.length ≤ s.2.length + t.sz) ∧
    (∀ (ts : List T) (s : List Pt × List (Int × Nat)), T.sz.szL ts ≤ n → (addT.addL ts s).2.1.length ≤ s.1.length + T.sz.szL ts ∧ (addT.addL ts s).2.2.length ≤ s.2.length + T.sz.szL ts) := by
  intro n
  induction n with
  | zero =>
    refine ⟨fun t s h => by have := t.sz_pos; omega, fun ts s h => ?_⟩
    cases ts with
    | nil => exact ⟨Nat.le_add_right _ _, Nat.le_add_right _ _⟩
    | cons t ts => have := t.sz_pos; rw [T.szL_cons] at h; omega
  | succ n ih =>
    have h1 : ∀ (t : T) (s : List Pt × List (Int × Nat)), t.sz ≤ n + 1 → (addT t s).2.1.length ≤ s.1.length + t.sz ∧ (addT t s).2.2.length ≤ s.2.length + t.sz := fun t s h => by
      have he := T.sz_eq t
      cases hlk : lookN s.2 t.v with
      | some m => rw [addT_known hlk]; exact ⟨Nat.le_add_right _ _, Nat.le_add_right _ _⟩
      | none =>
        rw [addT_new hlk]
        have h9 := ih.2 t.args s (by omega)
        refine ⟨by rw [List.length_append, List.length_singleton]; omega, ?_⟩
        show (if t.v = 0 then _ else _ : List (Int × Nat)).length ≤ _
        split
        · omega
        · rw [List.length_cons]; omega
    refine ⟨h1, fun ts => ?_⟩
    induction ts with
    | nil => intro s _; exact ⟨Nat.le_add_right _ _, Nat.le_add_right _ _⟩
    | cons t ts iht =>
      intro s h
      rw [T.szL_cons] at h ⊢
      have h2 := h1 t s (by omega)
      have h3 := iht (addT t s).2 (by omega)
      show (addT.addL ts (addT t s).2).2.1.length ≤ _ ∧ (addT.addL ts (addT t s).2).2.2.length ≤ _
      omega
def OutsX (c : Nat → Prop) (base : Nat) (w : World) (l : Value) (P : List Pt) : Prop :=
  ∃ xs, w.ownsRow base 326 6 l P.length xs ∧ KidsU (fun k => c k ∧ l.ownBlock ≠ some k) w P xs
theorem OutsX.row {c : Nat → Prop} {base : Nat} {w : World} {l : Value} {P : List Pt} (h : OutsX c base w l P) : ∀ g, l.ownBlock = some g → base ≤ g ∧ g < w.heap.size := by
  obtain ⟨xs, h1, _⟩ := h
  exact own_lt h1
theorem OutsX.mono {c c2 : Nat → Prop} {base : Nat} {w w' : World} {l : Value} {P : List Pt} (h : OutsX c base w l P) (hk : ∀ k, c k → l.ownBlock ≠ some k → k < w.heap.size → c2 k ∧ w'.heap[k]? = w.heap[k]?) (hr : ∀ g, l.ownBlock = some g → w'.heap[g]? = w.heap[g]?) : OutsX c2 base w' l P := by
  obtain ⟨xs, h1, h2⟩ := h
  exact ⟨xs, own_same h1 hr, KidsU_mono (fun k hk' hlt => ⟨⟨(hk k hk'.1 hk'.2 hlt).1, hk'.2⟩, (hk k hk'.1 hk'.2 hlt).2⟩) h2⟩
theorem OutsX_step {c : Nat → Prop} {base : Nat} {w w' : World} {l l' : Value} {P : List Pt} {x : Pt} {xs : List Value} {ta : Option Addr} {tl tc : Nat} {aa : Option Addr} {ac : Nat} (hk : KidsU (fun k => c k ∧ l.ownBlock ≠ some k) w P xs)
    (hc : NumsQ (fun k => c k ∧ l.ownBlock ≠ some k) w x.args aa)
    (hown : w'.ownsRow base 326 6 l' (P.length + 1) (xs ++ [.int .i64 x.v, .int .i64 x.f, .slice ta tl tc, .slice aa x.args.length ac, .int .i64 (x.like : Int), .int .i64 x.size])) (hg : w.grownBy w' l.ownBlock) (hat : l'.ownBlock = l.ownBlock ∨ l'.ownBlock = some w.heap.size) :
    OutsX c base w' l' (P ++ [x]) := by
  refine ⟨_, by rw [List.length_append]; exact hown, KidsU_mono (p := fun k => c k ∧ l.ownBlock ≠ some k) (w := w) (fun k hp hlt => ⟨⟨hp.1, ?_⟩, hg.block k hlt (fun e => hp.2 e.symm)⟩) (KidsU_append hk ⟨ta, tl, tc, aa, ac, [], rfl, hc, rfl⟩)⟩
  rcases hat with hat | hat
  · rw [hat]; exact hp.2
  · rw [hat]; intro e; cases e; omega
structure AX (c : Nat → Prop) (base u mb : Nat) (w : World) (l : Value) (s : List Pt × List (Int × Nat)) : Prop where
  list : w.cell? ⟨u, 0, none⟩ = some l
  map : w.cell? ⟨u, 1, none⟩ = some (.map (some mb))
  outs : OutsX c base w l s.1
  mp : MapAt w mb s.2.length (fun v => (lookN s.2 v).map (fun n : Nat => Value.int .i64 (n : Int)))
  fru : ∀ k, w.frozen? ⟨u, k, none⟩ = false
  ub : u < base
  mbb : mb < base
  ne : u ≠ mb
theorem AX.mono {c c2 : Nat → Prop} {base u mb : Nat} {w w' : World} {l : Value} {s : List Pt × List (Int × Nat)} (h : AX c base u mb w l s) (hk : ∀ k, c k → l.ownBlock ≠ some k → k < w.heap.size → c2 k ∧ w'.heap[k]? = w.heap[k]?) (hr : ∀ g, l.ownBlock = some g → w'.heap[g]? = w.heap[g]?)
    (hu : w'.heap[u]? = w.heap[u]?) (hm : w'.heap[mb]? = w.heap[mb]?) : AX c2 base u mb w' l s :=
  ⟨(World.cell?_of_block (w := w) (a := ⟨u, 0, none⟩) hu).trans h.list, (World.cell?_of_block (w := w) (a := ⟨u, 1, none⟩) hu).trans h.map, h.outs.mono hk hr, h.mp.same hm, fun k => (World.frozen?_of_block (w := w) (a := ⟨u, k, none⟩) hu).trans (h.fru k), h.ub, h.mbb, h.ne⟩
theorem AX.below {c : Nat → Prop} {base u mb : Nat} {w w' : World} {l : Value} {s : List Pt × List (Int × Nat)} (h : AX c base u mb w l s) (hb : Below w.heap.size w w') : AX c base u mb w' l s :=
  h.mono (fun k hc _ hlt => ⟨hc, hb.block k hlt⟩) (fun g hg => hb.block g (h.outs.row g hg).2) (hb.block u (lt_of_cell h.list)) (hb.block mb h.mp.lt)
theorem AF.grown {u mb : Nat} {w w' w'' : World} {l l' : Value} {r : Option Nat} (h : AF u mb w l w' l') (hg : w'.grownBy w'' r) (hr : ∀ g, r = some g → w.heap.size ≤ g) : AF u mb w l w'' l' :=
  ⟨hg.os.trans h.os, hg.tape.trans h.tape, hg.output.trans h.output, Nat.le_trans h.size hg.size, fun k hk h1 h2 h3 => by
    rw [hg.block k (Nat.lt_of_lt_of_le hk h.size) (fun e => by have := hr k e.symm; omega)]; exact h.block k hk h1 h2 h3, h.row⟩
theorem numsQ_own {q : Nat → Prop} {B : Nat} {w : World} {lr : Value} {ns : List Nat} (h : OwnI B w lr (ns.map (fun n : Nat => (n : Int)))) (hq : ∀ g, lr.ownBlock = some g → q g) (hl : ns.length ≤ 100000) : ∃ aa ac, lr = .slice aa ns.length ac ∧ NumsQ q w ns aa := by
  by_cases h0 : ns = []
  · subst h0
    obtain ⟨a, c, e⟩ := own_shape h
    exact ⟨a, c, e, hl, Or.inl rfl⟩
  · have hp : 0 < (ns.map (fun n : Nat => (n : Int))).length := by rw [List.length_map]; exact List.length_pos_iff.2 h0
    obtain ⟨g, cap, e, _, _, hc⟩ := own_cellsN h hp
    rw [List.length_map] at e
    refine ⟨some ⟨g, 0, none⟩, cap, e, hl, Or.inr ⟨g, 0, rfl, hq g (by rw [e]; rfl), fun i hi => ?_⟩⟩
    rw [Nat.zero_add]
    refine hc i _ ?_
    rw [List.getElem?_map, List.getElem?_map, List.getElem?_eq_getElem hi, List.getD_eq_getElem?_getD, List.getElem?_eq_getElem hi]; rfl
theorem srcU_heap {w w' : World} {v0 v1 v2 v3 v4 v5 : Value} {e : TypeId} {n : Nat} (h : w'.heap = (w.alloc (.cells #[v0, v1, v2, v3, v4, v5] e)).heap) (hn : n = w.heap.size) (h1 : ∀ u, u ∈ [v0, v1, v2, v3, v4, v5] → u.oneCell' = true) : SrcU w' (.slice (some ⟨n, 0, none⟩) 1 1) 1 [v0, v1, v2, v3, v4, v5] :=
  Or.inr ⟨n, 0, 1, rfl, rfl, fun j u hu => by
    rw [Nat.zero_add, World.cell?_of_block (w := w.alloc (.cells #[v0, v1, v2, v3, v4, v5] e)) (a := ⟨n, j, none⟩) (by rw [h]), cell_new j hn]; simpa using hu, h1⟩
theorem MapAt.congr {w : World} {b n : Nat} {f g : Int → Option Value} (h : MapAt w b n f) (e : ∀ k, f k = g k) : MapAt w b n g := by
  have : f = g := funext e
  exact this ▸ h
theorem AX_push {c : Nat → Prop} {base u mb : Nat} {wr wa w6 : World} {l v6 : Value} {s : List Pt × List (Int × Nat)} {x : Pt} {xs : List Value} {ta : Option Addr} {tl tc : Nat} {aa : Option Addr} {ac : Nat}
    (hA : AX c base u mb wr l s) (hcb : ∀ k, c k → base ≤ k) (hba : Below wr.heap.size wr wa)
    (hkids : KidsU (fun k => c k ∧ l.ownBlock ≠ some k) wr s.1 xs) (hn : NumsQ (fun k => c k ∧ l.ownBlock ≠ some k) wr x.args aa)
    (hown : w6.ownsRow base 326 6 v6 (s.1.length + 1) (xs ++ [.int .i64 x.v, .int .i64 x.f, .slice ta tl tc, .slice aa x.args.length ac, .int .i64 (x.like : Int), .int .i64 x.size])) (hg : wa.grownBy w6 l.ownBlock) (hat : v6.ownBlock = l.ownBlock ∨ v6.ownBlock = some wa.heap.size) :
    AX c base u mb (w6.setCell ⟨u, 0, none⟩ v6) v6 (s.1 ++ [x], s.2) ∧ AF u mb wr l (w6.setCell ⟨u, 0, none⟩ v6) v6 ∧ w6.cell? ⟨u, 0, none⟩ = some l ∧ w6.frozen? ⟨u, 0, none⟩ = false ∧ w6.cell? ⟨u, 1, none⟩ = some (.map (some mb)) ∧ ∀ k, k < wr.heap.size → k ≠ u → l.ownBlock ≠ some k → w6.heap[k]? = wr.heap[k]? := by
  have hru := hA.outs.row
  have hul := lt_of_cell hA.list
  have hml := hA.mp.lt
  have hub := hA.ub
  have hmbb := hA.mbb
  have hza := hba.size
  have hz6 := hg.size
  have hkeep : ∀ k, k < wr.heap.size → l.ownBlock ≠ some k → w6.heap[k]? = wr.heap[k]? := fun k hk h => by rw [hg.block k (by omega) (fun e => h e.symm)]; exact hba.block k hk
  have hnu : l.ownBlock ≠ some u := fun e => by have := (hru u e).1; omega
  have hnm : l.ownBlock ≠ some mb := fun e => by have := (hru mb e).1; omega
  have eu := hkeep u hul hnu
  have c0 : w6.cell? ⟨u, 0, none⟩ = some l := (World.cell?_of_block (w := wr) (a := ⟨u, 0, none⟩) eu).trans hA.list
  have c1 : w6.cell? ⟨u, 1, none⟩ = some (.map (some mb)) := (World.cell?_of_block (w := wr) (a := ⟨u, 1, none⟩) eu).trans hA.map
  have hv6 : ∀ g, v6.ownBlock = some g → base ≤ g ∧ g < w6.heap.size := own_lt hown
  have hso : OutsX c base w6 v6 (s.1 ++ [x]) := OutsX_step (KidsU_mono (fun k hk hlt => ⟨hk, hba.block k hlt⟩) hkids) (NumsQ_mono (fun k hk hlt => ⟨hk, hba.block k hlt⟩) hn) hown hg hat
  have hset : ∀ k, k ≠ u → (w6.setCell ⟨u, 0, none⟩ v6).heap[k]? = w6.heap[k]? := fun k hk => Below.heap_setCell _ _ _ _ hk
  refine ⟨⟨World.cell?_setCell_same _ _ _ c0, by rw [World.cell?_setCell_other _ _ _ _ (addr_ne (by omega))]; exact c1, hso.mono (fun k hc _ _ => ⟨hc, hset k (by have := hcb k hc; omega)⟩) (fun g hg' => hset g (by have := (hv6 g hg').1; omega)), (hA.mp.same (hkeep mb hml hnm)).same (hset mb hA.ne.symm), fun k => by rw [World.frozen?_setCell, World.frozen?_of_block (w := wr) (a := ⟨u, k, none⟩) eu]; exact hA.fru k, hub, hmbb, hA.ne⟩, ⟨?_, ?_, ?_, ?_, fun k hk h1 h2 h3 => by rw [hset k h1]; exact hkeep k hk h3, ?_⟩, c0, by rw [World.frozen?_of_block (w := wr) (a := ⟨u, 0, none⟩) eu]; exact hA.fru 0, c1, fun k hk _ h3 => hkeep k hk h3⟩
  · show w6.os = _; exact hg.os.trans hba.os
  · show w6.tape = _; exact hg.tape.trans hba.tape
  · show w6.output = _; exact hg.output.trans hba.output
  · show wr.heap.size ≤ (w6.setCell ⟨u, 0, none⟩ v6).heap.size
    simp [World.setCell]; omega
  · rcases hat with h | h
    · exact Or.inl h
    · exact Or.inr ⟨_, h, hza⟩
end Go.Proofs.YtbkedppkdhfpoabGreat

namespace Go.Proofs.YtbkedppkdhfpoabGreat
open Go.RowKit Go.Maps
def AddUp (ar : List Int) (base lo u mb N : Nat) : Prop := ∀ (t : T) (a : Option Addr) (cap : Nat) (s : List Pt × List (Int × Nat)) (l : Value) (c : Nat → Prop) (w : World), t.sz < N → okP ar t → s.1.length + t.sz ≤ 1000 → s.2.length + t.sz ≤ 1000 → base ≤ w.heap.size → (∀ k, c k → base ≤ k) → (∀ k, w.heap.size ≤ k → c k) → AX c base u mb w l s → InP (fun k => k < lo) w t.args a →
    Calls Tryz.prog 259 #[.pointer (some ⟨u, 0, none⟩), .agg #[.int .i64 t.v, .int .i64 t.f, .slice a t.args.length cap]] w fun e w' => ∃ l', e = .returned (.int .i64 ((addT t s).1 : Nat)) ∧ AX c base u mb w' l' (addT t s).2 ∧ AF u mb w l w' l'
structure AL (c : Nat → Prop) (base u mb : Nat) (W1 : World) (l : Value) (args : List T) (s : List Pt × List (Int × Nat)) (k : Nat) (lr : Value) (wr : World) (l' : Value) : Prop where
  nums : OwnI W1.heap.size wr lr ((addT.addL (args.take k) s).1.map (fun n : Nat => (n : Int)))
  ax : AX (fun j => c j ∧ lr.ownBlock ≠ some j) base u mb wr l' (addT.addL (args.take k) s).2
  af : AF u mb W1 l wr l'
  dis : ∀ g, lr.ownBlock = some g → l'.ownBlock ≠ some g
theorem AL.step {c : Nat → Prop} {base u mb : Nat} {W1 : World} {l : Value} {args : List T} {s : List Pt × List (Int × Nat)} {k : Nat} {lr : Value} {wr w5 w6 : World} {l' l5 v6 : Value} {x : T} {o1 o2 : Obj} (h : AL c base u mb W1 l args s k lr wr l') (hx : args[k]? = some x) (hbase : base ≤ W1.heap.size)
    (hA5 : AX (fun j => c j ∧ lr.ownBlock ≠ some j) base u mb w5 l5 (addT x (addT.addL (args.take k) s).2).2) (hF5 : AF u mb (wr.alloc o1) l' w5 l5)
    (hown : OwnI W1.heap.size w6 v6 ((addT.addL (args.take k) s).1.map (fun n : Nat => (n : Int)) ++ [((addT x (addT.addL (args.take k) s).2).1 : Int)])) (hg : (w5.alloc o2).grownBy w6 lr.ownBlock) (hat : v6.ownBlock = lr.ownBlock ∨ v6.ownBlock = some (w5.alloc o2).heap.size) : AL c base u mb W1 l args s (k + 1) v6 w6 l5 := by
  have hl5 := hA5.outs.row
  have hlr : ∀ g, lr.ownBlock = some g → W1.heap.size ≤ g ∧ g < wr.heap.size := own_lt h.nums
  have hdis5 : ∀ g, lr.ownBlock = some g → l5.ownBlock ≠ some g := fun g hg' e => by
    rcases hF5.row with h1 | ⟨g', h1, h2⟩
    · exact h.dis g hg' (h1.symm.trans e)
    · rw [h1] at e; cases e
      have := (hlr g hg').2
      rw [World.size_alloc] at h2; omega
  have hub := hA5.ub
  have hmbb := hA5.mbb
  have hul := lt_of_cell hA5.list
  have hml := hA5.mp.lt
  have hkeep : ∀ j, j < w5.heap.size → lr.ownBlock ≠ some j → w6.heap[j]? = w5.heap[j]? := fun j hj hne => by
    rw [hg.block j (by rw [World.size_alloc]; omega) (fun e => hne e.symm)]; exact (below1 w5 o2).block j hj
  refine ⟨?_, ?_, ?_, ?_⟩
  · rw [addL_step hx, List.map_append]; exact hown
  · rw [addL_step hx]
    refine hA5.mono (fun j hc hj hlt => ⟨⟨hc.1, ?_⟩, hkeep j hlt hc.2⟩) (fun g hg' => hkeep g (hl5 g hg').2 (fun e => hdis5 g e hg')) (hkeep u hul (fun e => by have := (hlr u e).1; omega)) (hkeep mb hml (fun e => by have := (hlr mb e).1; omega))
    rcases hat with h1 | h1
    · rw [h1]; exact hc.2
    · rw [h1, World.size_alloc]; intro e; cases e; omega
  · refine AF.grown ((h.af.trans (AF.of_below (below1 wr o1))).trans (hF5.trans (AF.of_below (below1 w5 o2)))) hg (fun g hg' => (hlr g hg').1)
  · intro g hg' e
    rcases hat with h1 | h1
    · exact hdis5 g (h1.symm.trans hg') e
    · have h2 := (hl5 g e).2
      rw [h1, World.size_alloc] at hg'; cases hg'; omega
theorem AX.stored {c : Nat → Prop} {base u mb : Nat} {w w7 : World} {l : Value} {P : List Pt} {vs : List (Int × Nat)} {v : Int} {n : Nat} (h : AX c base u mb w l (P, vs)) (hcb : ∀ k, c k → base ≤ k) (hM : MapAt w7 mb (vs.length + 1) (fun j => if j = v then some (.int .i64 (n : Int)) else (lookN vs j).map (fun n : Nat => Value.int .i64 (n : Int)))) (hg : w.grownBy w7 (some mb)) : AX c base u mb w7 l (P, (v, n) :: vs) ∧ AF u mb w l w7 l := by
  have hne := h.ne
  have hmbb := h.mbb
  have hrow := h.outs.row
  have hul := lt_of_cell h.list
  have hk : ∀ k, k < w.heap.size → k ≠ mb → w7.heap[k]? = w.heap[k]? := fun k hk hm => hg.block k hk (fun e => hm (by simpa using e))
  have hu := hk u hul hne
  refine ⟨⟨(World.cell?_of_block (w := w) (a := ⟨u, 0, none⟩) hu).trans h.list, (World.cell?_of_block (w := w) (a := ⟨u, 1, none⟩) hu).trans h.map, h.outs.mono (fun k hc _ hlt => ⟨hc, hk k hlt (by have := hcb k hc; omega)⟩) (fun g hg' => hk g (hrow g hg').2 (by have := (hrow g hg').1; omega)), ?_, fun k => (World.frozen?_of_block (w := w) (a := ⟨u, k, none⟩) hu).trans (h.fru k), h.ub, h.mbb, h.ne⟩, hg.os, hg.tape, hg.output, hg.size, fun k hk' _ h2 _ => hk k hk' h2, Or.inl rfl⟩
  refine hM.congr (fun k => ?_)
  show _ = (if v = k then some n else lookN vs k).map _
  by_cases e : k = v
  · rw [if_pos e, if_pos e.symm]; rfl
  · rw [if_neg e, if_neg (fun e' => e e'.symm)]
set_option maxRecDepth 100000 in
set_option maxHeartbeats 2000000 in
theorem add_any (ar : List Int) (base lo u mb : Nat) (hlu : lo ≤ u) (hlm : lo ≤ mb) (N : Nat) : AddUp ar base lo u mb N := by
  induction N with
  | zero => intro t a cap s l c w h; omega
  | succ N ih =>
    intro t a cap s l c w hN hok hs1 hs2 hbase hcb hcn hS hin
    have hv := okP_le hok
    have hub := hS.ub
    have hul : u < w.heap.size := lt_of_cell hS.list
    have cu1 := hS.map
    have hlook := fun o => (hS.mp.below (below1 w o)).look_ok (t := 106) Tryz.under99 (Tryz.zeroI _) (k := t.v) (by omega) (by omega)
    have hlook2 := fun o => (hS.mp.below (Below.drew (below1 w o))).look_ok (t := 106) Tryz.under99 (Tryz.zeroI _) (k := t.v) (by omega) (by omega)
    have HS := hide hS
    cases hlk : lookN s.2 t.v with
    | some n =>
      rw [addT_known hlk]
      rw [hlk] at hlook hlook2
      have HbA := hide (fun o n => below_drewN (below1 w o) n)
      clear hlk hin hok ih hS hcb hcn
      go_enter Tryz.func259, Tryz.ntmps259
      go_wp2_with fail
      go_region
      go_wp2_with fail
      go_ret
      exact ⟨l, rfl, HS.out.below (HbA.out _ 1), AF.of_below (HbA.out _ 1)⟩
    | none =>
      have hts := T.sz_eq t
      have htl : t.args.length ≤ 1000 := by have := T.length_le t.args; omega
      rw [addT_new hlk]
      rw [hlk] at hlook hlook2
      obtain ⟨ns, P, vs, hR⟩ : ∃ ns P vs, addT.addL t.args s = (ns, P, vs) := ⟨_, _, _, rfl⟩
      have hnl : ns.length ≤ 1000 := by have h9 := addL_length t.args s; rw [hR] at h9; have h9 : ns.length = t.args.length := h9; omega
      have hPl : P.length ≤ 1000 ∧ vs.length ≤ 1000 := by have h9 := (add_size _).2 t.args s (Nat.le_refl _); rw [hR] at h9; have h9 : P.length ≤ _ ∧ vs.length ≤ _ := h9; omega
      rw [hR]
      show Calls _ _ _ _ fun e w' => ∃ l', e = .returned (.int .i64 (P.length : Nat)) ∧ AX c base u mb w' l' (P ++ [⟨t.v, t.f, ns, P.length, 0⟩], if t.v = 0 then vs else (t.v, P.length) :: vs) ∧ AF u mb w l w' l'
      obtain ⟨V, hV⟩ : ∃ V, V = if t.v = 0 then vs else (t.v, P.length) :: vs := ⟨_, rfl⟩
      rw [← hV]
      have HV := hide hV
      have HR := hide hR
      clear hR hV
      have Hih := hide ih
      have Hcb := hide hcb
      have Hcn := hide hcn
      have Hin := hide hin
      have Hok := hide (okP_iff.1 hok).2
      obtain ⟨W1, hW1⟩ : ∃ W1, W1 = w.alloc (.cells #[.int .i64 t.v, .int .i64 t.f, .slice a t.args.length cap] 77) := ⟨_, rfl⟩
      have HW1 := hide hW1
      have H3 : Hid (Three W1 w.heap.size (.int .i64 t.v) (.int .i64 t.f) (.slice a t.args.length cap)) := by rw [hW1]; exact Three.new 77 rfl
      have HB1 : Hid (Below w.heap.size w W1) := by rw [hW1]; exact below1 _ _
      have HZ1 : Hid (W1.heap.size = w.heap.size + 1) := by rw [hW1]; exact World.size_alloc _ _
      have hlr0 := HS.out.outs.row
      have Hl0 := hide hlr0
      clear hlk hin hok ih hS hcb hcn hW1 hlr0
      go_enter Tryz.func259, Tryz.ntmps259
      go_wp2_with fail
      go_region
      go_wp2_with fail
      go_loopw [7, 26] (fun lv i wr => ∃ (k : Nat) (l' lr : Value), k ≤ t.args.length ∧ i = .int .i64 k ∧ lv = lr ∧ AL c base u mb W1 l t.args s k lr wr l') (fun _ i _ => t.args.length - (intOf i).toNat)
      case atStart =>
        refine ⟨0, l, .slice none 0 0, Nat.zero_le _, rfl, rfl, ⟨rfl, Or.inl ⟨rfl, rfl⟩⟩, ?_, ?_, fun g hg => by cases hg⟩
        · rw [← HW1.out]
          exact (HS.out.below HB1.out).mono (fun k hc _ _ => ⟨⟨hc, fun e => by cases e⟩, rfl⟩) (fun _ _ => rfl) rfl rfl
        · rw [← HW1.out]
          exact AF.of_below ⟨rfl, rfl, rfl, Nat.le_refl _, fun _ _ => rfl⟩
      case round =>
        obtain ⟨k, l', lr, hk, rfl, hlv, hal⟩ := hrel
        obtain rfl := hlv.symm
        clear hlv
        have Hal := hide hal
        have hmbb := HS.out.mbb
        have H3r := hide (H3.out.same (w' := wr) (hal.af.block w.heap.size (by rw [HZ1.out]; omega) (by omega) (by omega) (fun e => by have := (Hl0.out _ e).2; omega)))
        obtain ⟨b0, b1, b2, _, _, _⟩ := H3r.out
        have hzW : W1.heap.size ≤ wr.heap.size := hal.af.size
        have hzr : w.heap.size + 1 ≤ wr.heap.size := by have := HZ1.out; omega
        have hbW : base ≤ W1.heap.size := by have := HZ1.out; omega
        by_cases hlt : k < t.args.length
        · obtain ⟨b, off, rfl⟩ := InP_some Hin.out (by omega)
          obtain ⟨x, hx⟩ : ∃ x, t.args[k]? = some x := ⟨t.args[k], List.getElem?_eq_getElem hlt⟩
          have hinr : InP (fun j => j < lo) wr t.args (some ⟨b, off, none⟩) := InP_same (w := w) (fun j hj hjl => by
            have hj : j < lo := hj
            rw [hal.af.block j (by omega) (by omega) (by omega) (fun e => by have := (Hl0.out j e).1; omega)]; exact HB1.out.block j hjl) Hin.out
          obtain ⟨a3, cap3, _, k0, k1, k2, hin3⟩ := InP_at hinr hx
          obtain ⟨hs3, hs4⟩ := szL_take hx
          have hxe := T.sz_eq x
          have hsk := (add_size _).2 (t.args.take k) s (Nat.le_refl _)
          have hxok := okL_mem.1 Hok.out x (List.mem_of_getElem? hx)
          have Hx := hide (fun o1 => Hih.out x a3 cap3 (addT.addL (t.args.take k) s).2 l' (fun j => c j ∧ lr.ownBlock ≠ some j) (wr.alloc o1) (by omega) hxok (by omega) (by omega) (by rw [World.size_alloc]; omega) (fun j hj => Hcb.out j hj.1) (fun j hj => ⟨Hcn.out j (by rw [World.size_alloc] at hj; omega), fun e => by have := (own_lt hal.nums j e).2; rw [World.size_alloc] at hj; omega⟩) (hal.ax.below (below1 wr o1)) (InP_alloc o1 hin3))
          have Hxk := hide hx
          have hkI : (k : Int) < t.args.length := by omega
          have hk0 : (0 : Int) ≤ k := by omega
          clear hx hinr hin3 hs3 hs4 hxe hsk hxok hal
          go_wp2_with fail
          refine (Hx.out _).mono ?_
          rintro e w5 ⟨l5, rfl, hA5, hF5⟩
          have hz5 : wr.heap.size + 1 ≤ w5.heap.size := by have := hF5.size; rw [World.size_alloc] at this; exact this
          have hO5 : OwnI W1.heap.size w5 lr ((addT.addL (t.args.take k) s).1.map (fun n : Nat => (n : Int))) := own_same Hal.out.nums (fun g hg => by
            have h1 := own_lt Hal.out.nums g hg
            rw [hF5.block g (by rw [World.size_alloc]; omega) (by omega) (by omega) (Hal.out.dis g hg)]; exact (below1 wr _).block g h1.2)
          have HO5 := hide (fun o2 => OwnI.below hO5 (below1 w5 o2))
          have HA5 := hide hA5
          have HF5 := hide hF5
          have HL : Hid ((addT.addL (t.args.take k) s).1.length ≤ 1000) := by show _ ≤ _; rw [addL_length, List.length_take]; omega
          clear hO5 hA5 hF5 Hx
          go_wp2_with (at_builtin; go_must (refine wpList_append_ints rfl (.tmp 30) (.tmp 34) rfl W1.heap.size lr ((addT.addL (t.args.take k) s).1.map (fun n : Nat => (n : Int))) rfl (HO5.out _) (.slice (some ⟨w5.heap.size, 0, none⟩) 1 1) [((addT x (addT.addL (t.args.take k) s).2).1 : Int)] rfl (src_one (cell_new 0 rfl)) (by have := HL.out; rw [List.length_map, List.length_singleton]; omega) (by rw [World.size_alloc]; omega) ?_))
          intro v6 w6 hown6 hgr6 hat6
          have Hst := hide (Hal.out.step Hxk.out hbW HA5.out HF5.out hown6 hgr6 (by rw [World.size_alloc]; exact hat6))
          clear hown6 hgr6 hat6
          go_wp2_with fail
          go_roundw
          case rel => exact ⟨k + 1, l5, v6, by omega, by go_num, rfl, Hst.out⟩
          case measure => simp [intOf]; omega
        · have hk2 : k = t.args.length := by omega
          subst hk2
          obtain ⟨hn0, hx0, hf0, hd0⟩ := hal
          rw [List.take_length, HR.out] at hn0 hx0
          have hq0 : ∀ g, lr.ownBlock = some g → c g ∧ l'.ownBlock ≠ some g := fun g hg => ⟨Hcn.out g (by have := (own_lt hn0 g hg).1; have := HZ1.out; omega), hd0 g hg⟩
          obtain ⟨aa, ac, hlr, hnq⟩ := numsQ_own (ns := ns) (q := fun g => c g ∧ l'.ownBlock ≠ some g) hn0 hq0 (by omega)
          have hxc : AX c base u mb wr l' (P, vs) := hx0.mono (fun j hj _ _ => ⟨hj.1, rfl⟩) (fun _ _ => rfl) rfl rfl
          obtain ⟨xs, hown, hkids⟩ := hxc.outs
          obtain ⟨la, lc, hl'⟩ := own_shape hown
          subst hlr
          subst hl'
          have hru := hide hxc.outs.row
          have q0 := hxc.list
          have q1 := hxc.map
          have q2 := hxc.fru 0
          have HXC := hide hxc
          have HN := hide hnq
          have HK := hide hkids
          have HF := hide hf0
          have HO := hide (fun (o1 : Obj) (w' : World) (h : w'.heap = (wr.alloc o1).heap) => own_same hown (w' := w') (fun g hg => by rw [h]; exact (below1 wr o1).block g (own_lt hown g hg).2))
          have hur : u < wr.heap.size := by omega
          have HB0 : Hid ((Value.slice la P.length lc).ownBlock ≠ some w.heap.size) := fun e => by
            rcases hf0.row with h | ⟨g, h, h'⟩
            · have := (Hl0.out _ (h.symm.trans e)).2; omega
            · rw [h] at e; cases e; have := HZ1.out; omega
          clear hn0 hx0 hf0 hd0 hq0 hnq hxc hkids hown Hal
          go_wp2_with fail
          go_region_law ((first
            | (refine step_append_u rfl (.tmp 46) (.tmp 51) rfl base P.length 1 (.slice la P.length lc) xs [.int .i64 t.v, .int .i64 t.f, .slice a t.args.length cap, .slice aa ns.length ac, .int .i64 (P.length : Int), .int .i64 0] rfl (HO.out (.cells #[.int .i64 t.v, .int .i64 t.f, .slice a t.args.length cap, .slice aa ns.length ac, .int .i64 (P.length : Int), .int .i64 0] 326) _ rfl) (.slice (some ⟨wr.heap.size, 0, none⟩) 1 1) rfl (srcU_heap (w := wr) (e := 326) rfl rfl (by simp [Value.oneCell'])) (by omega) (by simp; omega) ?_
               intro v6 w6 hown6 hgr6 hat6
               obtain ⟨va6, vc6, hv6⟩ := own_shape hown6
               subst hv6
               have HP := hide (AX_push (x := ⟨t.v, t.f, ns, P.length, 0⟩) HXC.out Hcb.out (by exact ⟨rfl, rfl, rfl, (below1 wr _).size, (below1 wr _).block⟩) HK.out HN.out hown6 hgr6 (by first | exact hat6 | (rw [World.size_alloc]; exact hat6)))
               obtain ⟨_, _, y0, y1, y2, y3⟩ := HP.out
               have z0 : w6.cell? ⟨w.heap.size, 0, none⟩ = some (.int .i64 t.v) := (World.cell?_of_block (w := wr) (a := ⟨w.heap.size, 0, none⟩) (y3 w.heap.size (by omega) (by omega) HB0.out)).trans b0
               clear y3 hown6 hgr6 hat6)))
          all_goals
            by_cases hv0 : t.v = 0
            · have e0 : (t.v != 0) = false := by simpa using hv0
              have HV0 : Hid (V = vs) := by show _ = _; rw [HV.out, if_pos hv0]
              clear hv0
              go_wp2_with fail
              go_ret
              exact ⟨rfl, _, by rw [HV0.out]; exact HP.out.1, (AF.of_below HB1.out).trans (HF.out.trans HP.out.2.1)⟩
            · have e0 : (t.v != 0) = true := by simpa using hv0
              have HV0 : Hid (V = (t.v, P.length) :: vs) := by show _ = _; rw [HV.out, if_neg hv0]
              have HM := hide (fun (w' : World) (h : w'.heap = (w6.setCell ⟨u, 0, none⟩ (.slice va6 (P.length + 1) vc6)).heap) => HP.out.1.mp.same (w' := w') (by rw [h]))
              obtain ⟨w7, hrun, hM7, hg7⟩ := (HM.out ((w6.setCell ⟨u, 0, none⟩ (.slice va6 (P.length + 1) vc6)).drew) rfl).store Tryz.under99 (show vs.length < maxLen by unfold maxLen; omega) (k := t.v) (by omega) (by omega) (.int .i64 (P.length : Int))
              have HQ := hide (HP.out.1.stored Hcb.out hM7 ⟨hg7.os, hg7.tape, hg7.output, hg7.size, hg7.block⟩)
              clear hv0 hM7 hg7 HM
              go_wp2_with fail
              go_region
              all_goals
                go_wp2_with fail
                go_ret
                exact ⟨_, rfl, by rw [HV0.out]; exact HQ.out.1, (AF.of_below HB1.out).trans (HF.out.trans (HP.out.2.1.trans HQ.out.2))⟩
end Go.Proofs.YtbkedppkdhfpoabGreat

namespace Go.Proofs.YtbkedppkdhfpoabGreat
open Go.RowKit
structure Md (w wr : World) (v f : Int) (n : Nat) (L : List T) (k g b7 : Nat) : Prop where
  kids : ∃ cs, Kids (fun x => w.heap.size < x ∧ x ≠ g) wr (L.take k) cs ∧ ∀ j u, cs[j]? = some u → wr.cell? ⟨g, j, none⟩ = some u
  cells : ∀ j, j < n * 3 → ∃ u, wr.cell? ⟨g, j, none⟩ = some u
  fr : ∀ j, wr.frozen? ⟨g, j, none⟩ = false
  made : Three wr b7 (.int .i64 v) (.int .i64 f) (.slice (some ⟨g, 0, none⟩) n n)
  res : Three wr (w.heap.size) (.int .i64 0) (.int .i64 0) (.slice none 0 0)
  below : Below w.heap.size w wr
  gg : w.heap.size < g
  gl : g < wr.heap.size
  bb : w.heap.size < b7
  ne : b7 ≠ g
theorem Md.step {w wr w2 : World} {v f : Int} {n k g b7 : Nat} {L : List T} {c : T} {a2 : Option Addr} {cap2 : Nat} (h : Md w wr v f n L k g b7) (hL : L.length = n) (hc : L[k]? = some c) (hb : Below wr.heap.size wr w2) (hi : InP (fun x => wr.heap.size ≤ x) w2 c.args a2) :
    Md w (set3 w2 g (k * 3) (.int .i64 c.v) (.int .i64 c.f) (.slice a2 c.args.length cap2)) v f n L (k + 1) g b7 := by
  have hk : k < n := by
    rcases Nat.lt_or_ge k L.length with h | h
    · omega
    · rw [List.getElem?_eq_none h] at hc; cases hc
  have hgl := h.gl
  have hgg := h.gg
  have hwb := h.below.size
  have hb' : Below wr.heap.size wr w2 := hb
  have hs2 := hb'.size
  obtain ⟨cs, hk1, hk2⟩ := h.kids
  have hcl := Kids_length hk1
  rw [List.length_take_of_le (by omega)] at hcl
  have hcells : ∀ j, j < n * 3 → ∃ u, w2.cell? ⟨g, j, none⟩ = some u := fun j hj => by
    rw [hb'.cell (p := ⟨g, j, none⟩) hgl]; exact h.cells j hj
  have hsame := set3_same (w := w2) (b := g) (off := k * 3) (u0 := .int .i64 c.v) (u1 := .int .i64 c.f) (u2 := .slice a2 c.args.length cap2) (fun j _ hj2 => hcells j (by omega))
  refine ⟨⟨cs ++ [.int .i64 c.v, .int .i64 c.f, .slice a2 c.args.length cap2], ?_, ?_⟩, ?_, ?_, (h.made.below hb').same (set3_block h.ne), (h.res.below hb').same (set3_block (by have := h.gg; omega)), below_set3 (h.below.trans (hb'.mono hwb)) (by have := h.gg; omega) _ _ _, h.gg, by rw [set3_size]; omega, h.bb, h.ne⟩
  · rw [List.take_add_one, hc]
    refine Kids_append (Kids_mono (fun x hx hxl => ⟨hx, by rw [set3_block hx.2]; exact hb'.block x hxl⟩) hk1) ⟨a2, cap2, [], rfl, ?_, rfl⟩
    refine InP_mono (fun b o v hp hv => ?_) _ _ _ (Nat.le_refl _) hi
    have hp : wr.heap.size ≤ b := hp
    exact ⟨⟨by omega, by omega⟩, by rw [World.cell?_of_block (w := w2) (a := ⟨b, o, none⟩) (set3_block (show b ≠ g by omega))]; exact hv⟩
  · intro j u hu
    rcases Nat.lt_or_ge j cs.length with hj | hj
    · rw [List.getElem?_append_left hj] at hu
      rw [set3_cell (by omega), hb'.cell (p := ⟨g, j, none⟩) hgl]; exact hk2 j u hu
    · rw [List.getElem?_append_right hj, hcl] at hu
      have hj3 : j - k * 3 = 0 ∨ j - k * 3 = 1 ∨ j - k * 3 = 2 := by
        rcases Nat.lt_or_ge (j - k * 3) 3 with h9 | h9
        · omega
        · rw [List.getElem?_eq_none (by simpa using h9)] at hu; cases hu
      rcases hj3 with e | e | e
      · rw [e] at hu
        obtain rfl : Value.int .i64 c.v = u := by simpa using hu
        rw [show j = k * 3 by omega]; exact hsame.1
      · rw [e] at hu
        obtain rfl : Value.int .i64 c.f = u := by simpa using hu
        rw [show j = k * 3 + 1 by omega]; exact hsame.2.1
      · rw [e] at hu
        obtain rfl : Value.slice a2 c.args.length cap2 = u := by simpa using hu
        rw [show j = k * 3 + 2 by omega]; exact hsame.2.2
  · intro j hj
    by_cases h3 : j < k * 3 ∨ k * 3 + 2 < j
    · rw [set3_cell h3]; exact hcells j hj
    · have : j = k * 3 ∨ j = k * 3 + 1 ∨ j = k * 3 + 2 := by omega
      rcases this with rfl | rfl | rfl
      · exact ⟨_, hsame.1⟩
      · exact ⟨_, hsame.2.1⟩
      · exact ⟨_, hsame.2.2⟩
  · intro j
    rw [set3_frozen, hb'.frozen (p := ⟨g, j, none⟩) hgl]; exact h.fr j
theorem Md.fin {w wr : World} {v f : Int} {n g b7 : Nat} {L : List T} (h : Md w wr v f n L n g b7) (hL : L.length = n) : InP (fun x => w.heap.size < x) wr L (some ⟨g, 0, none⟩) := by
  obtain ⟨cs, h1, h2⟩ := h.kids
  rw [← hL, List.take_length] at h1
  exact Kids_in h.gg (Kids_mono (fun x hx _ => ⟨hx.1, rfl⟩) h1) (fun j u hu => by rw [Nat.zero_add]; exact h2 j u hu)
theorem Md.start {w wr : World} {v f : Int} {n g b7 : Nat} {L : List T} (hg : wr.heap[g]? = some (.cells (row3 n) 77)) (h7 : Three wr b7 (.int .i64 v) (.int .i64 f) (.slice (some ⟨g, 0, none⟩) n n)) (hr : Three wr (w.heap.size) (.int .i64 0) (.int .i64 0) (.slice none 0 0)) (hb : Below w.heap.size w wr) (h1 : w.heap.size < g) (h2 : w.heap.size < b7) (h3 : b7 ≠ g) : Md w wr v f n L 0 g b7 := by
  refine ⟨⟨[], rfl, fun j u hu => by simp at hu⟩, fun j hj => ?_, fun j => frozen_of_heap hg j, h7, hr, hb, h1, (Array.getElem?_eq_some_iff.1 hg).1, h2, h3⟩
  have hs : j < (row3 n).size := by rw [size_row3]; exact hj
  refine ⟨(row3 n)[j], ?_⟩
  unfold World.cell?
  rw [hg]
  simp [hs]
theorem Md.behind {w wr : World} {v f : Int} {n k g b7 : Nat} {L : List T} (h : Md w wr v f n L k g b7) (hk : k < n) : ∀ (w2 : World), Below wr.heap.size wr w2 → (w2.cell? ⟨b7, 2, none⟩ = some (.slice (some ⟨g, 0, none⟩) n n)) ∧
      (∃ v0 v1 v2, w2.cell? ⟨g, k * 3, none⟩ = some v0 ∧ w2.cell? ⟨g, k * 3 + 1, none⟩ = some v1 ∧ w2.cell? ⟨g, k * 3 + 2, none⟩ = some v2) ∧ (∀ j, w2.frozen? ⟨g, j, none⟩ = false) := by
  intro w2 hb
  have hb' : Below wr.heap.size wr w2 := hb
  have hgl := h.gl
  obtain ⟨v0, e0⟩ := h.cells (k * 3) (by omega)
  obtain ⟨v1, e1⟩ := h.cells (k * 3 + 1) (by omega)
  obtain ⟨v2, e2⟩ := h.cells (k * 3 + 2) (by omega)
  exact ⟨(h.made.below hb').c2, ⟨v0, v1, v2, cell_below hb' e0, cell_below hb' e1, cell_below hb' e2⟩, fun j => by rw [hb'.frozen (p := ⟨g, j, none⟩) hgl]; exact h.fr j⟩
def madeL (rec : Nat → Option T) : List Nat → Option (List T)
  | [] => some []
  | a :: l => match rec a with
    | none => none
    | some t => match madeL rec l with
      | none => none
      | some ts => some (t :: ts)
def madeF (P : List Pt) : Nat → Nat → Option T
  | 0, _ => none
  | n + 1, k => match headF P (P.length + 1) k with
    | none => none
    | some h => match P[h]? with
      | none => none
      | some p => match madeL (madeF P n) p.args with
        | none => none
        | some ts => some ⟨p.v, p.f, ts⟩
theorem madeF_some {P : List Pt} {n k : Nat} {t : T} (hm : madeF P n k = some t) : ∃ m h p ts, n = m + 1 ∧ headF P (P.length + 1) k = some h ∧ P[h]? = some p ∧ madeL (madeF P m) p.args = some ts ∧ t = ⟨p.v, p.f, ts⟩ := by
  cases n with
  | zero => cases hm
  | succ n =>
    rw [madeF] at hm
    split at hm
    · cases hm
    · rename_i h hh
      split at hm
      · cases hm
      · rename_i p hp
        split at hm
        · cases hm
        · rename_i ts hts
          exact ⟨n, h, p, ts, rfl, hh, hp, hts, (Option.some.inj hm).symm⟩
theorem madeL_at {rec : Nat → Option T} : ∀ {l : List Nat} {ts : List T}, madeL rec l = some ts → ts.length = l.length ∧ ∀ k, k < l.length → ∃ c, ts[k]? = some c ∧ rec (l.getD k 0) = some c := by
  intro l
  induction l with
  | nil => intro ts h; rw [madeL] at h; cases h; exact ⟨rfl, fun k hk => by simp at hk⟩
  | cons a l ih =>
    intro ts h
    rw [madeL] at h
    split at h
    · cases h
    · rename_i t ht
      split at h
      · cases h
      · rename_i us hus
        cases h
        obtain ⟨h1, h2⟩ := ih hus
        refine ⟨by simp [h1], fun k hk => ?_⟩
        cases k with
        | zero => exact ⟨t, rfl, ht⟩
        | succ k =>
          obtain ⟨c, hc, hr⟩ := h2 k (by simpa using hk)
          exact ⟨c, by simpa using hc, by simpa using hr⟩
theorem UAt.alloc {q : Nat → Prop} {w : World} {u b c : Nat} {P : List Pt} (h : UAt q w u b c P) (o : Obj) : UAt q (w.alloc o) u b c P := h.below (below1 _ _)
theorem UAt.drew {q : Nat → Prop} {w : World} {u b c : Nat} {P : List Pt} (h : UAt q w u b c P) : UAt q w.drew u b c P := h.below (Below.drew (Below.refl _ _))
attribute [local go_sem ↓] Go.wp_at_zero Go.wp_at_succ
set_option maxRecDepth 100000 in
set_option maxHeartbeats 2000000 in
theorem made_any (q : Nat → Prop) (u b c : Nat) (P : List Pt) (N : Nat) : ∀ (k : Nat) (t : T) (w : World), UAt q w u b c P → madeF P N k = some t →
    Calls Tryz.prog 289 #[.pointer (some ⟨u, 0, none⟩), .int .i64 (k : Int)] w fun e w' =>
      ∃ a' cap', e = .returned (.agg #[.int .i64 t.v, .int .i64 t.f, .slice a' t.args.length cap']) ∧ InP (fun k => w.heap.size ≤ k) w' t.args a' ∧ Below w.heap.size w w' := by
  induction N with
  | zero => intro k t w _ h; cases h
  | succ N ih =>
    intro k t w hU hm
    obtain ⟨m, h, p, L, hN, hh, hp, hts, rfl⟩ := madeF_some hm
    obtain rfl : N = m := by omega
    obtain ⟨hLl, hLk⟩ := madeL_at hts
    simp only
    obtain ⟨W0, hW0⟩ : ∃ W0, W0 = w.alloc (.cells #[.int .i64 0, .int .i64 0, .slice none 0 0] 77) := ⟨_, rfl⟩
    have hb0 : Below w.heap.size w W0 := by rw [hW0]; exact below1 _ _
    have hz0 : W0.heap.size = w.heap.size + 1 := by rw [hW0]; simp
    have hR0 : Hid (Three W0 w.heap.size (.int .i64 0) (.int .i64 0) (.slice none 0 0)) := by rw [hW0]; exact Three.new 77 rfl
    have HU0 := hide (hU.below hb0)
    have hhl := (List.getElem?_eq_some_iff.1 hp).1
    obtain ⟨ta, tl, tc, aa, ac, y0, y1, y2, y3, y4, y5, hnx⟩ := hU.at6 h p hp
    have x0 := cell_below hb0 y0
    have x1 := cell_below hb0 y1
    have x2 := cell_below hb0 y2
    have x3 := cell_below hb0 y3
    have x4 := cell_below hb0 y4
    have x5 := cell_below hb0 y5
    have HUw := hide hU
    have cu := HU0.out.list
    have hlen := HU0.out.len
    have hub0 : u < W0.heap.size := lt_of_cell cu
    have hbb0 : b < W0.heap.size := HU0.out.ltb
    have hhI : (h : Int) < P.length := by omega
    have hh0 : (0 : Int) ≤ h := by omega
    have hal := hnx.1
    have Hnx := hide hnx
    have Hh := hide hh
    have HLk := hide hLk
    have Hih := hide ih
    have HW0 := hide hW0
    have Hb0 := hide hb0
    have Hz0 := hide hz0
    clear y0 y1 y2 y3 y4 y5 hz0 hm hU hN hh hp hts hLk hW0 hnx ih hb0
    go_enter Tryz.func289, Tryz.ntmps289
    go_upto_region 1 with fail
    rw [← HW0.out]
    go_cut [5] (fun v5 wc => ∃ n5, v5 = .pointer (some ⟨n5, 0, none⟩) ∧ Six wc n5 (.int .i64 p.v) (.int .i64 p.f) (.slice ta tl tc) (.slice aa p.args.length ac) (.int .i64 (p.like : Int)) (.int .i64 p.size) ∧ Hid (Below W0.heap.size W0 wc))
    case first => as_aux_lemma =>
      go_region_with (go_at_call 286; refine (head_any q _ u b c P (P.length + 1) k h ?_ Hh.out).mono ?_; (focus ((repeat' (first | with_reducible exact HU0.out | with_reducible refine UAt.alloc ?_ _ | with_reducible refine UAt.drew ?_)); done)); rintro e w' ⟨rfl, hw'⟩; obtain rfl := hw'.symm; clear hw')
      all_goals (go_wp2_with fail; go_meet; refine ⟨_, rfl, ?_, ?_⟩)
      all_goals first | exact Below.drew (below1 _ _) | exact below1 _ _ | (refine Six.below ?_ (Below.drew (Below.refl _ _)); exact Six.new _ (by simp)) | exact Six.new _ rfl
    case rest => as_aux_lemma =>
      obtain ⟨n5, rfl, h5, HBc⟩ := hcut
      obtain ⟨W2, hW2⟩ : ∃ W2, W2 = wc := ⟨_, rfl⟩
      subst hW2
      have hmk := run_make3 p.args.length (by omega)
      have Hb2 : Hid (Below w.heap.size w W2) := Hb0.out.trans (HBc.out.mono (by have := Hz0.out; omega))
      have hzw : w.heap.size < W2.heap.size := by have h1 := Hz0.out; have h2 := HBc.out.size; omega
      have HR2 := hide (hR0.out.below HBc.out)
      have H52 := hide h5
      obtain ⟨s0, s1, s2, s3, s4, s5⟩ := h5
      have hn5 := lt_of_cell s0
      clear hub0 hbb0 cu x0 x1 x2 x3 x4 x5 HU0 HW0 hR0 HBc Hb0
      go_upto_region 2 with fail
      go_cut [6] (fun v6 wd => ∃ g b6, v6 = .pointer (some ⟨b6, 0, none⟩) ∧ Md w wd p.v p.f p.args.length L 0 g b6 ∧ Hid (Below W2.heap.size W2 wd))
      case first => as_aux_lemma =>
        go_region
        all_goals (go_wp2_with fail; go_meet)
        · refine ⟨W2.heap.size, W2.heap.size + 1, rfl, Md.start ?_ ?_ ?_ ?_ (by omega) (by omega) (by omega), ?_⟩
          · exact (Below.heap_alloc (W2.alloc _) _ _ (by simp)).trans (heap_alloc_new W2 _)
          · exact Three.same (Three.new 77 (by rw [World.size_alloc])) rfl
          · exact Three.same ((HR2.out.alloc _).alloc _) rfl
          · exact Below.drew (Hb2.out.trans ((below2 _ _ _).mono (by omega)))
          · exact Below.drew (below2 _ _ _)
        · refine ⟨W2.heap.size + 1, W2.heap.size, rfl, Md.start ?_ ?_ ?_ ?_ (by omega) (by omega) (by omega), ?_⟩
          · have h9 := heap_alloc_new (W2.alloc (.cells #[.int .i64 p.v, .int .i64 p.f, .slice (some ⟨W2.heap.size + 1, 0, none⟩) p.args.length p.args.length] 77)) (.cells (row3 p.args.length) 77)
            rw [World.size_alloc] at h9
            exact h9
          · exact Three.same ((Three.new 77 rfl).alloc _) rfl
          · exact Three.same ((HR2.out.alloc _).alloc _) rfl
          · exact Below.drew (Hb2.out.trans ((below2 _ _ _).mono (by omega)))
          · exact Below.drew (below2 _ _ _)
      case rest => as_aux_lemma =>
        obtain ⟨g, b6, rfl, hmd0, HBd⟩ := hcut
        have Hmd0 := hide hmd0
        obtain ⟨r0, r1, r2, r3, r4, r5⟩ := H52.out.below HBd.out
        obtain ⟨WD, hWD⟩ : ∃ WD, WD = wc := ⟨_, rfl⟩
        subst hWD
        clear hmd0 hmk s0 s1 s2 s3 s4 s5 HR2 H52 HBd
        go_wp2_with fail
        go_loopw [32] (fun i wr => ∃ (j : Nat), j ≤ p.args.length ∧ i = .int .i64 j ∧ Md w wr p.v p.f p.args.length L j g b6) (fun i _ => p.args.length - (intOf i).toNat)
        case atStart => exact ⟨0, Nat.zero_le _, rfl, Hmd0.out⟩
        case round =>
          obtain ⟨j, hj, rfl, hmd⟩ := hrel
          have Hmd := hide hmd
          have HUr := hide (HUw.out.below hmd.below)
          obtain ⟨d0, d1, d2, g0, g1, g2⟩ := hmd.res
          obtain ⟨p0, p1, p2, _, _, _⟩ := hmd.made
          have hgl := hmd.gl
          have hbl := hmd.made.lt
          have hgg := hmd.gg
          have Hnr := hide (NumsQ_below hmd.below Hnx.out)
          clear hmd r0 r1 r2 r3 r4 r5
          by_cases hlt : j < p.args.length
          · obtain ⟨nb, noff, rfl, _, hcell⟩ := NumsQ_at Hnr.out (show 0 < p.args.length by omega)
            have cj := hcell j hlt
            obtain ⟨cT, hcT, hrec⟩ := HLk.out j hlt
            have HLc := hide hcT
            have Hrec := hide hrec
            have Hcall := hide (Hmd.out.behind hlt)
            generalize p.args.getD j 0 = aj at *
            have hjI : (j : Int) < p.args.length := by omega
            have hj0 : (0 : Int) ≤ j := by omega
            have hj3 : j ≤ 100000 := by omega
            clear hcell hcT hrec
            go_wp2_with fail
            go_region_with (go_at_call 289; refine (Hih.out aj cT _ ?_ Hrec.out).mono ?_; (focus (first | with_reducible exact HUr.out | exact HUr.out.drew)); rintro e w2 ⟨a2, cap2, rfl, hin2, hb1⟩; have hb2 : Below wr.heap.size wr w2 := below_undrew hb1; clear hb1; obtain ⟨q2, ⟨v0, v1, v2, e0, e1, e2⟩, qf⟩ := Hcall.out w2 hb2; have q0 := qf (j * 3); have q1 := qf (j * 3 + 1); have q3 := qf (j * 3 + 2); clear qf)
            all_goals
              go_wp2_with fail
              go_roundw
              case rel => exact ⟨j + 1, by omega, by go_num, Hmd.out.step hLl HLc.out hb2 hin2⟩
              case measure => simp [intOf]; omega
          · have hk2 : j = p.args.length := by omega
            subst hk2
            have HF := hide (Hmd.out.fin hLl)
            have Hres := hide (Hmd.out.res.set (.int .i64 p.v) (.int .i64 p.f) (.slice (some ⟨g, 0, none⟩) p.args.length p.args.length))
            have Hbw := hide Hmd.out.below
            go_wp2_with fail
            obtain ⟨z0, z1, z2, _, _, _⟩ := Hres.out
            simp only [set3, Nat.zero_add] at z0 z1 z2
            exact bodyPost_ret (v := .agg #[.int .i64 p.v, .int .i64 p.f, .slice (some ⟨g, 0, none⟩) p.args.length p.args.length]) (by simp [results, Tryz.results289, go_sem, z0, z1, z2]) rfl ⟨some ⟨g, 0, none⟩, p.args.length, by rw [hLl], InP_imp (fun j hj => by omega) (InP_same (fun j hj _ => set3_block (b := w.heap.size) (off := 0) (show j ≠ _ by omega)) HF.out), below_set3 (b := w.heap.size) (off := 0) Hbw.out (by omega) _ _ _⟩
end Go.Proofs.YtbkedppkdhfpoabGreat

namespace Go.Proofs
open Go.Shelf
def Tryz.keysB_ren : Go.Shelf.Ren := ⟨fun | 7 => 306 | 10 => 315 | n => n, fun | 23 => 319 | 26 => 3 | 3 => 77 | 28 => 284 | 0 => 0 | 27 => 283 | 33 => 214 | 4 => 4 | n => n, fun | n => n⟩
theorem Tryz.keysB : Go.Proofs.SlLaysZI.n7 Tryz.prog Tryz.keysB_ren := {
  mixed := by kernel_rfl
  f7 := ⟨Tryz.f306.name, by decide, Tryz.func306.trans (congrArg some (by kernel_rfl))⟩
  f10 := ⟨Tryz.f315.name, by decide, Tryz.func315.trans (congrArg some (by kernel_rfl))⟩
  t0 := Tryz.underlying0
  a0 := Tryz.isAgg0
  z0 := Tryz.sizeOf0
  v0 := Tryz.zeroValue0
  t4 := Tryz.underlying4
  a4 := Tryz.isAgg4
  z4 := Tryz.sizeOf4
  v4 := Tryz.zeroValue4
  t23 := Tryz.underlying319
  a23 := Tryz.isAgg319
  z23 := Tryz.sizeOf319
  v23 := Tryz.zeroValue319
  t26 := Tryz.underlying3
  a26 := Tryz.isAgg3
  z26 := Tryz.sizeOf3
  v26 := Tryz.zeroValue3
  t27 := Tryz.underlying283
  a27 := Tryz.isAgg283
  z27 := Tryz.sizeOf283
  v27 := Tryz.zeroValue283
  t28 := Tryz.underlying284
  a28 := Tryz.isAgg284
  z28 := Tryz.sizeOf284
  v28 := Tryz.zeroValue284
  t33 := Tryz.underlying214
  a33 := Tryz.isAgg214
  z33 := Tryz.sizeOf214
  v33 := Tryz.zeroValue214 }
def Tryz.keysI_ren : Go.Shelf.Ren := ⟨fun | 7 => 288 | 10 => 307 | n => n, fun | 23 => 106 | 26 => 3 | 3 => 3 | 28 => 284 | 0 => 0 | 27 => 283 | 33 => 214 | 4 => 4 | n => n, fun | n => n⟩
theorem Tryz.keysI : Go.Proofs.SlLaysZI.n7 Tryz.prog Tryz.keysI_ren := {
  mixed := by kernel_rfl
  f7 := ⟨Tryz.f288.name, by decide, Tryz.func288.trans (congrArg some (by kernel_rfl))⟩
  f10 := ⟨Tryz.f307.name, by decide, Tryz.func307.trans (congrArg some (by kernel_rfl))⟩
  t0 := Tryz.underlying0
  a0 := Tryz.isAgg0
  z0 := Tryz.sizeOf0
  v0 := Tryz.zeroValue0
  t4 := Tryz.underlying4
  a4 := Tryz.isAgg4
  z4 := Tryz.sizeOf4
  v4 := Tryz.zeroValue4
  t23 := Tryz.underlying106
  a23 := Tryz.isAgg106
  z23 := Tryz.sizeOf106
  v23 := Tryz.zeroValue106
  t26 := Tryz.underlying3
  a26 := Tryz.isAgg3
  z26 := Tryz.sizeOf3
  v26 := Tryz.zeroValue3
  t27 := Tryz.underlying283
  a27 := Tryz.isAgg283
  z27 := Tryz.sizeOf283
  v27 := Tryz.zeroValue283
  t28 := Tryz.underlying284
  a28 := Tryz.isAgg284
  z28 := Tryz.sizeOf284
  v28 := Tryz.zeroValue284
  t33 := Tryz.underlying214
  a33 := Tryz.isAgg214
  z33 := Tryz.sizeOf214
  v33 := Tryz.zeroValue214 }
def Tryz.sortedB_ren : Go.Shelf.Ren := ⟨fun | 6 => 240 | 8 => 272 | 9 => 130 | 11 => 302 | 13 => 173 | 12 => 172 | 23 => 222 | 24 => 223 | 14 => 213 | 15 => 214 | 16 => 215 | 17 => 216 | 18 => 217 | 19 => 218 | 20 => 219 | 21 => 220 | 22 => 221 | 25 => 252 | 26 => 253 | 27 => 254 | 28 => 255 | 29 => 256 | 30 => 257 | 31 => 285 | n => n, fun | 26 => 3 | 28 => 284 | 24 => 22 | 0 => 0 | 3 => 3 | 37 => 218 | 48 => 267 | 50 => 269 | 4 => 4 | 40 => 260 | 39 => 259 | 45 => 264 | 5 => 5 | 9 => 9 | 51 => 290 | 55 => 294 | 57 => 321 | 58 => 322 | 33 => 214 | n => n, fun | n => n⟩
theorem Tryz.sortedB : Go.Proofs.SlLaysZI.n6 Tryz.prog Tryz.sortedB_ren := {
  mixed := by kernel_rfl
  f6 := ⟨Tryz.f240.name, by decide, Tryz.func240.trans (congrArg some (by kernel_rfl))⟩
  f8 := ⟨Tryz.f272.name, by decide, Tryz.func272.trans (congrArg some (by kernel_rfl))⟩
  f11 := ⟨Tryz.f302.name, by decide, Tryz.func302.trans (congrArg some (by kernel_rfl))⟩
  t0 := Tryz.underlying0
  a0 := Tryz.isAgg0
  z0 := Tryz.sizeOf0
  v0 := Tryz.zeroValue0
  t24 := Tryz.underlying22
  a24 := Tryz.isAgg22
  z24 := Tryz.sizeOf22
  v24 := Tryz.zeroValue22
  t26 := Tryz.underlying3
  a26 := Tryz.isAgg3
  z26 := Tryz.sizeOf3
  v26 := Tryz.zeroValue3
  t28 := Tryz.underlying284
  a28 := Tryz.isAgg284
  z28 := Tryz.sizeOf284
  v28 := Tryz.zeroValue284
  i26 := by kernel_rfl }
end Go.Proofs

namespace Go.Proofs.YtbkedppkdhfpoabGreat
open Go.RowKit Go.Maps Go.Sort Go.Shelf
theorem sorts_any (m : Nat) : AnyZI.SortsIn Tryz.prog Tryz.sortedB_ren Fence.wide m :=
  ⟨fun blk off cap ss W hH hblk hsz => callsIn_wide.2 (Go.Proofs.Tryz.slices_Sort_int blk off cap ss W hH hblk hsz),
   fun p cap W => callsIn_wide.2 (Go.Proofs.Tryz.slices_Sort_int_none p cap W)⟩
theorem keys_perm {w : World} {b n : Nat} {D : DataW Value} {f : Int → Option Value} (hD : w.ownsMap Tryz.prog 3 Rv b n D) (hf : ∀ k : Int, Maps.has D (.int .i64 k) = (f k).isSome ∧ ∀ v, f k = some v → ∀ z, D.atKey (.int .i64 k) z = .held v)
    {K : List Int} (hnd : K.Nodup) (hK : ∀ x, x ∈ K ↔ (f x).isSome = true) : K.Perm (intKeys D) :=
  CollectedI.perm (left := fun _ => false) ⟨hnd, fun x => by rw [hK x, (hf x).1]; simp⟩ hD Tryz.key3 Tryz.underlying3 (fun _ => rfl)
theorem keysI_any (mb : Option Nat) (w : World) : Calls Tryz.prog 288 #[.map mb] w fun e w' => e = .returned (.func (.func 307) #[] #[.pointer (some ⟨w.heap.size, 0, none⟩)]) ∧ w' = w.alloc (.cells #[.map mb] 106) :=
  (callsIn_wide (n := 5)).1 (AnyZI.keys_in Tryz.keysI Fence.wide 5 trivial rfl mb w)
theorem sorted_of (g : Nat) (eg : ∀ args w, (callFunc g args).run Tryz.prog w = .ok (.enter g args) w) (Bm : Nat) (w : World) (K : List Int) (D : DataW Value) (N : Nat) (hN : N ≤ 100000) (hp : K.Perm (intKeys D))
    (hseq : SeqGives Fence.wide 2 Tryz.prog g #[.pointer (some ⟨Bm, 0, none⟩)] encZ (fun ss => ss.Perm (intKeys D)) N w) :
    Calls Tryz.prog 240 #[.func (.func g) #[] #[.pointer (some ⟨Bm, 0, none⟩)]] w fun e w' => ∃ v, e = .returned v ∧ OwnI w.heap.size w' v (K.mergeSort (fun x y => decide (x ≤ y))) ∧ Below w.heap.size w w' := by
  refine (callsIn_wide (n := 5)).1 ?_
  have cS := AnyZI.sorted_in Tryz.sortedB Fence.wide 5 trivial trivial trivial trivial rfl (by omega) (sorts_any _) (enters_of Tryz.func130 (by kernel_rfl) rfl) g #[.pointer (some ⟨Bm, 0, none⟩)] trivial eg _ N (by unfold maxLen; omega) (by omega) _ hseq
  change CallsIn _ _ Tryz.prog 240 _ _ _ at cS
  refine cS.mono ?_
  rintro e w' ⟨v, ss, rfl, hS, hrow, _, hb⟩
  have hpp : ss.Perm K := hS.trans hp.symm
  have e1 := mergeSort_of_perm_i hpp
  rw [show (fun x y : Int => decide (x ≤ y)) = leI from rfl, e1] at hrow
  have e2 : ss.length = (K.mergeSort leI).length := by rw [List.length_mergeSort, hpp.length_eq]
  rw [e2] at hrow
  exact ⟨v, rfl, hrow, hb⟩
theorem sortedI_any (b n : Nat) (f : Int → Option Value) (K : List Int) (hn : n ≤ 100000) (hnd : K.Nodup) (hK : ∀ x, x ∈ K ↔ (f x).isSome = true) (Bm : Nat) (w : World) (hM : MapAt w b n f) (hc : w.cell? ⟨Bm, 0, none⟩ = some (.map (some b))) :
    Calls Tryz.prog 240 #[.func (.func 307) #[] #[.pointer (some ⟨Bm, 0, none⟩)]] w fun e w' => ∃ v, e = .returned v ∧ OwnI w.heap.size w' v (K.mergeSort (fun x y => decide (x ≤ y))) ∧ Below w.heap.size w w' := by
  obtain ⟨D, hD, hf⟩ := hM
  have hsz := hD.size_le
  exact sorted_of 307 (enters_of Tryz.func307 (by kernel_rfl) rfl) Bm w K D (Maps.size D) (by omega) (keys_perm hD hf hnd hK)
    (AnyZI.keys_gives (ρ := Tryz.keysI_ren) { Tryz.keysI with } Fence.wide _ trivial rfl (by omega) Bm b n D w (lt_of_cell hc) hc hD)
end Go.Proofs.YtbkedppkdhfpoabGreat

namespace Go.Proofs.YtbkedppkdhfpoabGreat
open Go.RowKit Go.Maps
theorem Tryz.underlying106 : Tryz.prog.underlying 106 = some (.map 3 3) := by kernel_rfl
theorem Tryz.zero3 (w : World) : (zeroValue 3).run Tryz.prog w = .ok (.int .i64 0) w := by kernel_rfl
def outF (P : List Pt) (M : Nat) (vn : Int → Nat) : List Int → Option (List (Int × T))
  | [] => some []
  | v :: l => match headF P (P.length + 1) (vn v) with
    | none => none
    | some h => if h = vn v then outF P M vn l else match madeF P M (vn v) with
      | none => none
      | some t => match outF P M vn l with
        | none => none
        | some bs => some ((v, t) :: bs)
theorem outF_cons {P : List Pt} {M : Nat} {vn : Int → Nat} {v : Int} {l : List Int} {bs : List (Int × T)} (hm : outF P M vn (v :: l) = some bs) : ∃ h, headF P (P.length + 1) (vn v) = some h ∧
    ((h = vn v ∧ outF P M vn l = some bs) ∨ (h ≠ vn v ∧ ∃ t bs', madeF P M (vn v) = some t ∧ outF P M vn l = some bs' ∧ bs = (v, t) :: bs')) := by
  rw [outF] at hm
  split at hm
  · cases hm
  · rename_i h hh
    refine ⟨h, hh, ?_⟩
    split at hm
    · rename_i e; exact Or.inl ⟨e, hm⟩
    · rename_i e
      split at hm
      · cases hm
      · rename_i t ht
        split at hm
        · cases hm
        · rename_i bs' hbs
          exact Or.inr ⟨e, t, bs', ht, hbs, (Option.some.inj hm).symm⟩
set_option maxRecDepth 100000 in
set_option maxHeartbeats 2000000 in
theorem bindU_any (q : Nat → Prop) (u b c : Nat) (P : List Pt) (M mb n : Nat) (f : Int → Option Value) (K : List Int) (vn : Int → Nat) (bs : List (Int × T)) (w : World) (hU : UAt q w u b c P) (hmc : w.cell? ⟨u, 1, none⟩ = some (.map (some mb))) (hM : MapAt w mb n f) (hn : n ≤ 100000) (hnd : K.Nodup) (hK : ∀ x, x ∈ K ↔ (f x).isSome = true)
    (hf : ∀ x, x ∈ K → f x = some (.int .i64 (vn x : Nat)) ∧ 0 ≤ x ∧ x ≤ 100000) (hlK : K.length ≤ 100000) (ho : outF P M vn (K.mergeSort (fun x y => decide (x ≤ y))) = some bs) :
    Calls Tryz.prog 262 #[.pointer (some ⟨u, 0, none⟩)] w fun e w' => ∃ a cap, e = .returned (.slice a bs.length cap) ∧ Binds (fun k => w.heap.size ≤ k) w' bs a ∧ Below w.heap.size w w' := by
  obtain ⟨KS, hKS⟩ : ∃ KS, KS = K.mergeSort (fun x y => decide (x ≤ y)) := ⟨_, rfl⟩
  have hKl : KS.length = K.length := by rw [hKS, List.length_mergeSort]
  have HKm := hide (show ∀ x, x ∈ KS → x ∈ K from fun x hx => by rw [hKS, List.mem_mergeSort] at hx; exact hx)
  rw [← hKS] at ho
  have HKS := hide hKS
  have HU := hide hU
  have HM := hide hM
  have HK := hide hK
  have Hf := hide hf
  have Ho := hide ho
  have Hnd := hide hnd
  obtain ⟨ti, hi, hzz⟩ := Option.map_eq_some_iff.1 Tryz.info93
  simp only [Prod.mk.injEq] at hzz
  obtain ⟨hz0, hz1, hz2⟩ := hzz
  have hul := lt_of_cell hmc
  clear hU hM hK hf ho hnd hKS
  go_enter Tryz.func262, Tryz.ntmps262
  go_wp2_with (first
    | (go_at_call 288; refine (keysI_any _ _).mono ?_; rintro e w' ⟨rfl, rfl⟩)
    | (go_at_call 240; refine (sortedI_any mb n f K hn Hnd.out HK.out _ _ (HM.out.below (below1 _ _)) (by rw [cell_new 0 (by simp)]; rfl)).mono ?_; rintro e w1 ⟨v1, rfl, hown1, hb1⟩; rw [← HKS.out] at hown1; obtain ⟨va, vc, rfl, hints1, _⟩ := own_ints hown1))
  have hz1' : w.heap.size + 1 ≤ w1.heap.size := by have := hb1.size; simp at this; omega
  have Hbw1 : Hid (Below w.heap.size w w1) := (below1 _ _).trans (hb1.mono (by simp))
  have Hints := hide hints1
  have hmc1 : w1.cell? ⟨u, 1, none⟩ = some (.map (some mb)) := cell_below Hbw1.out hmc
  clear hb1 hown1 hints1 hmc
  go_loopw [3, 14] (fun l i wr => ∃ (k : Nat) (acc rest : List (Int × T)), k ≤ K.length ∧ i = .int .i64 k ∧ acc.length ≤ k ∧ Hid (outF P M vn (KS.drop k) = some rest) ∧ Hid (bs = acc ++ rest) ∧ OutsB (fun _ => False) w.heap.size wr l acc ∧ Grw w1 wr none l.ownBlock) (fun _ i _ => K.length - (intOf i).toNat)
  case atStart => exact ⟨0, [], bs, Nat.zero_le _, rfl, Nat.le_refl _, Ho, rfl, OutsB_nil, Grw.refl _ _⟩
  case round =>
    obtain ⟨k, acc, rest, hk, rfl, hacc, HL, Hbs, hout, hgrw⟩ := hrel
    have Hout := hide hout
    have Hgrw := hide hgrw
    have hzr := hgrw.gr.size
    have HbR1 : Hid (Below w1.heap.size w1 wr) := hgrw.below (Nat.le_refl _) (fun g hg => by cases hg)
    clear hout hgrw
    have HbR : Hid (Below w.heap.size w wr) := Hbw1.out.trans (HbR1.out.mono (by omega))
    by_cases hlt : k < K.length
    · have hlt2 : k < KS.length := by omega
      obtain ⟨v, hv⟩ : ∃ v, KS[k]? = some v := ⟨KS[k], List.getElem?_eq_getElem hlt2⟩
      obtain ⟨b1, off1, rfl, hc⟩ := Ints_some Hints.out (show 0 < KS.length by omega)
      have hcr : wr.cell? ⟨b1, off1 + k, none⟩ = some (.int .i64 v) := by
        have h1 := hc k hlt2
        rw [List.getD_eq_getElem?_getD, hv] at h1
        exact cell_below HbR1.out h1
      obtain ⟨hfv, hv0, hv1⟩ := Hf.out v (HKm.out v (List.mem_of_getElem? hv))
      have hlook := (HM.out.below HbR.out).look (t := 106) Tryz.underlying106 (Tryz.zero3 _) (k := v) (by omega) (by omega)
      rw [hfv] at hlook
      have hmcr : wr.cell? ⟨u, 1, none⟩ = some (.map (some mb)) := cell_below HbR1.out hmc1
      have hd : KS.drop k = v :: KS.drop (k + 1) := by
        rw [List.drop_eq_getElem_cons hlt2]
        have := (List.getElem?_eq_some_iff.1 hv).2
        rw [this]
      have hL := HL.out
      rw [hd] at hL
      obtain ⟨h, hh, hx⟩ := outF_cons hL
      have HUr := hide (HU.out.below HbR.out)
      have HH := hide (head_any q wr u b c P _ (vn v) h HUr.out hh)
      have Hx := hide hx
      have hkI : (k : Int) < K.length := by omega
      have hk0 : (0 : Int) ≤ k := by omega
      clear hv hc hfv hd hL HL hh hx
      go_wp2_with fail
      refine HH.out.mono ?_
      rintro e w' ⟨rfl, hw'⟩
      obtain rfl := hw'.symm
      clear hw' HH
      rcases Hx.out with ⟨e9, hrest⟩ | ⟨hne, t, bs', ht, hrest, hbs'⟩
      · have e0 : ((h : Int) != ((vn v : Nat) : Int)) = false := by simp [e9]
        have Hrest := hide hrest
        clear e9 hrest Hx
        go_wp2_with fail
        go_roundw
        case rel => exact ⟨k + 1, acc, rest, by omega, by go_num, by omega, Hrest, Hbs, Hout.out, Hgrw.out⟩
        case measure => simp [intOf]; omega
      · have e0 : ((h : Int) != ((vn v : Nat) : Int)) = true := by simp; omega
        have Hrest := hide hrest
        have Hbs2 : Hid (bs = (acc ++ [(v, t)]) ++ bs') := by show _ = _; rw [Hbs.out, hbs']; simp
        have HC := hide (made_any q u b c P M (vn v) t wr HUr.out ht)
        clear hne hrest hbs' ht Hx Hbs
        go_wp2_with (first
          | (go_at_call 289
             refine HC.out.mono ?_
             rintro e w2 ⟨a2, cap2, rfl, hin2, hb2⟩
             have hzw2 := hb2.size
             have Hout2 := hide (OutsB_below Hout.out hb2)
             obtain ⟨xs, hownL, hkids⟩ := Hout2.out
             have HO := hide (fun o1 => own_same hownL (w' := w2.alloc o1) (fun g hg => (below1 w2 o1).block g (own_lt hownL g hg).2))
             have HCi : Hid (InP (fun k' => (False ∨ w.heap.size ≤ k') ∧ u3.ownBlock ≠ some k') w2 t.args a2) := InP_imp (fun k' hk' => by
               have h8 : wr.heap.size ≤ k' := hk'
               refine ⟨Or.inr (by omega), fun e => ?_⟩
               obtain ⟨xs0, h0, _⟩ := Hout.out
               have := (own_lt h0 k' e).2
               omega) hin2
             have Hg2 := hide (Hgrw.out.trans (Grw.of_below _ hb2))
             clear hin2 hb2)
          | (at_builtin
             go_must (refine wpList_append_lies _ rfl (.tmp 29) (.tmp 35) 91 rfl w.heap.size 93 ti (.agg #[.int .i64 0, .int .i64 0, .int .i64 0, .slice none 0 0]) 4 48 Tryz.underlying91 hi hz0 hz1 hz2 rfl (by decide) u3 acc.length xs rfl (HO.out _) ⟨w2.heap.size, 0, none⟩ 1 1 [.int .i64 v, .int .i64 t.v, .int .i64 t.f, .slice a2 t.args.length cap2] rfl rfl (four_new (by first | rfl | simp)) (by simp [Value.oneCell']) (by decide) (by unfold maxLen; omega) (by omega) (by simp; omega) _ rfl ?_)
             intro g capg w3 hown3 hgr3 hat3 hlt3))
        have hO3 := OutsB_step (x := (v, t)) (KidsB_mono (fun k' hk' hlt' => ⟨hk', (below1 w2 _).block k' hlt'⟩) hkids) (InP_alloc _ HCi.out) hown3 hgr3 (hat3.imp id (fun h => by rw [h]))
        have hG3 : Grw w1 w3 none (Value.slice (some ⟨g, 0, none⟩) (acc.length + 1) capg).ownBlock := Hg2.out.trans ((Grw.of_below _ (below1 _ _)).trans ⟨hgr3, by
          rcases hat3 with h | h
          · exact Or.inl h.symm
          · exact Or.inr ⟨g, rfl, by rw [h]; simp⟩⟩)
        go_roundw
        case rel => exact ⟨k + 1, acc ++ [(v, t)], bs', by omega, by go_num, by simp; omega, Hrest, Hbs2, hO3, hG3⟩
        case measure => simp [intOf]; omega
    · have hk2 : k = KS.length := by omega
      have h9 := HL.out
      rw [hk2, List.drop_length, outF] at h9
      have hr0 : rest = [] := (Option.some.inj h9).symm
      have hbs : bs = acc := by rw [Hbs.out, hr0]; simp
      obtain ⟨la, lc, rfl, hinL⟩ := OutsB_end Hout.out
      have HinL := hide hinL
      have Hbs3 := hide hbs
      have hk3 : k = K.length := by omega
      subst hk3
      clear hinL Hout h9 hr0 hbs hk2 HL Hbs
      go_wp2_with fail
      go_ret
      rw [Hbs3.out]
      exact ⟨la, lc, rfl, Binds_imp (fun k' hk' => by rcases hk' with h | h; exact h.elim; exact h) HinL.out, HbR.out⟩
end Go.Proofs.YtbkedppkdhfpoabGreat

namespace Go.Proofs.YtbkedppkdhfpoabGreat
def keysOk (vs : List (Int × Nat)) : Prop := (vs.map Prod.fst).Nodup ∧ ∀ x, x ∈ vs.map Prod.fst → 0 ≤ x ∧ x ≤ 1000
theorem lookN_isSome (vs : List (Int × Nat)) (v : Int) : v ∈ vs.map Prod.fst ↔ (lookN vs v).isSome = true := by
  induction vs with
  | nil => simp [lookN]
  | cons x vs ih =>
    rw [List.map_cons, List.mem_cons, ih, lookN]
    by_cases h : x.1 = v
    · rw [if_pos h]; simp [h]
    · rw [if_neg h]
      constructor
      · rintro (h' | h')
        · exact absurd h'.symm h
        · exact h'
      · exact Or.inr
theorem okP_var {ar : List Int} {t : T} (h : okP ar t) (hv : t.v ≠ 0) : t.args = [] := by
  have h1 := (okP_iff.1 h).1
  rw [partErr_var hv, varErr] at h1
  by_cases h2 : t.v < 1 ∨ 1000 < t.v
  · rw [if_pos h2] at h1; cases h1
  · rw [if_neg h2] at h1
    by_cases h3 : t.args.length ≠ 0 ∨ t.f ≠ 0
    · rw [if_pos h3] at h1; cases h1
    · exact List.length_eq_zero_iff.1 (by omega)
theorem add_keys {ar : List Int} : ∀ (n : Nat), (∀ (t : T) (s : List Pt × List (Int × Nat)), t.sz ≤ n → okP ar t → keysOk s.2 → keysOk (addT t s).2.2) ∧
    (∀ (ts : List T) (s : List Pt × List (Int × Nat)), T.sz.szL ts ≤ n → okP.okL ar ts → keysOk s.2 → keysOk (addT.addL ts s).2.2) := by
  intro n
  induction n with
  | zero =>
    refine ⟨fun t s h => by have := t.sz_pos; omega, fun ts s h _ hk => ?_⟩
    cases ts with
    | nil => exact hk
    | cons t ts => have := t.sz_pos; rw [T.szL_cons] at h; omega
  | succ n ih =>
    have h1 : ∀ (t : T) (s : List Pt × List (Int × Nat)), t.sz ≤ n + 1 → okP ar t → keysOk s.2 → keysOk (addT t s).2.2 := fun t s h hok hk => by
      have he := T.sz_eq t
      cases hlk : lookN s.2 t.v with
      | some m => rw [addT_known hlk]; exact hk
      | none =>
        rw [addT_new hlk]
        have h9 := ih.2 t.args s (by omega) (okP_iff.1 hok).2 hk
        show keysOk (if t.v = 0 then _ else _)
        by_cases hv : t.v = 0
        · rw [if_pos hv]; exact h9
        · rw [if_neg hv]
          have ha := okP_var hok hv
          rw [ha] at h9 ⊢
          have h8 : keysOk s.2 := h9
          have hb := okP_le hok
          refine ⟨?_, fun x hx => ?_⟩
          · rw [List.map_cons, List.nodup_cons]
            refine ⟨fun hm => ?_, h8.1⟩
            have h7 := (lookN_isSome s.2 t.v).1 hm
            rw [hlk] at h7; cases h7
          · rw [List.map_cons, List.mem_cons] at hx
            rcases hx with rfl | hx
            · exact hb
            · exact h8.2 x hx
    refine ⟨h1, fun ts => ?_⟩
    induction ts with
    | nil => intro s _ _ hk; exact hk
    | cons t ts iht =>
      intro s h hok hk
      rw [T.szL_cons] at h
      obtain ⟨o1, o2⟩ := okL_cons.1 hok
      exact iht (addT t s).2 (by omega) o2 (h1 t s (by omega) o1 hk)
def unifyF (N : Nat) (a b : T) : Option (List (Int × T) × Bool × Int) :=
  match joinF N (addT b (addT a ([], [])).2).2.1 (addT a ([], [])).1 (addT b (addT a ([], [])).2).1 with
  | none => none
  | some x => if x.1 = true then (match measF N x.2 (addT a ([], [])).1 with
    | none => none
    | some y => if y.1 = -1 then some ([], false, 0) else if 120 < y.1 then some ([], false, 2) else
      match outF y.2 N (fun v => (lookN (addT b (addT a ([], [])).2).2.2 v).getD 0) (((addT b (addT a ([], [])).2).2.2.map Prod.fst).mergeSort (fun x y => decide (x ≤ y))) with
      | none => none
      | some bs => some (bs, true, 0)) else some ([], false, 0)
theorem unifyF_some {N : Nat} {a b : T} {r : List (Int × T) × Bool × Int} (h : unifyF N a b = some r) : ∃ ok P2, joinF N (addT b (addT a ([], [])).2).2.1 (addT a ([], [])).1 (addT b (addT a ([], [])).2).1 = some (ok, P2) ∧
    ((ok = false ∧ r = ([], false, 0)) ∨ (ok = true ∧ ∃ m P3, measF N P2 (addT a ([], [])).1 = some (m, P3) ∧ ((m = -1 ∧ r = ([], false, 0)) ∨ (m ≠ -1 ∧ 120 < m ∧ r = ([], false, 2)) ∨
      (m ≠ -1 ∧ ¬ 120 < m ∧ ∃ bs, outF P3 N (fun v => (lookN (addT b (addT a ([], [])).2).2.2 v).getD 0) (((addT b (addT a ([], [])).2).2.2.map Prod.fst).mergeSort (fun x y => decide (x ≤ y))) = some bs ∧ r = (bs, true, 0))))) := by
  rw [unifyF] at h
  split at h
  · cases h
  · rename_i x hx
    obtain ⟨ok, P2⟩ := x
    refine ⟨ok, P2, hx, ?_⟩
    cases ok with
    | false => rw [if_neg (by simp)] at h; exact Or.inl ⟨rfl, (Option.some.inj h).symm⟩
    | true =>
      rw [if_pos rfl] at h
      refine Or.inr ⟨rfl, ?_⟩
      split at h
      · cases h
      · rename_i y hy
        obtain ⟨m, P3⟩ := y
        refine ⟨m, P3, hy, ?_⟩
        by_cases e1 : m = -1
        · rw [if_pos e1] at h; exact Or.inl ⟨e1, (Option.some.inj h).symm⟩
        · rw [if_neg e1] at h
          by_cases e2 : 120 < m
          · rw [if_pos e2] at h; exact Or.inr (Or.inl ⟨e1, e2, (Option.some.inj h).symm⟩)
          · rw [if_neg e2] at h
            split at h
            · cases h
            · rename_i bs hbs
              exact Or.inr (Or.inr ⟨e1, e2, bs, hbs, (Option.some.inj h).symm⟩)
end Go.Proofs.YtbkedppkdhfpoabGreat
