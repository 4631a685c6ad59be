/- InferSound: the closed facts of its row, one by one. A range over a function whose rounds all go on: what is handed to a round may lie in memory that the iterator has just made. The terms of the document as plain data, and how big they are: no word of the program here. How a term lies in the program's memory, and that it stays there as long as nothing of it is written. The program's looks at a signature and at a part alone. The program's count of variables and functions, which stops at a limit. The program's going through the parts of terms, with whatever it does at each. The iterator over ways: one with one. -/
import Derived.Below
import Derived.BigQuiet
import Derived.ChangeOld
import Derived.Deep.QuietTactic
import Derived.LoopIn
import Derived.LoopNIn
import Derived.OpenShut
import Derived.Outline
import Derived.OwnWalkIn
import Derived.ProofKit
import Derived.RangeFuncBound
import Derived.RangeFuncCalls
import Derived.RangeFuncIn
import Derived.RangeFuncNested
import Derived.RangeFuncRecord
import Derived.TacticsInMore
import Derived.Test.YtbkedppkdhfpoabGreatChecked
import Derived.Test.YtbkedppkdhfpoabGreatProg
import Derived.Test.YtbkedppkdhfpoabGreatRows
import Derived.WalkKit
import Derived.WalkLawsBesides
import Derived.WalkSpells
namespace Go.Proofs.YtbkedppkdhfpoabGreat
open Go.ChangeShapes Go.WideShapes Go.ChangeAt Go.RowKit
theorem inferSound_k0 : (Rows.inferSoundRow.wf (OpenSpec.ofChange Rows.inferSoundSpec)) = true := by kernel_rfl
theorem inferSound_k1 : (laidOutB Tryz.prog) = true := by kernel_rfl
theorem inferSound_k2 : (mapsRowed Tryz.prog) = true := by kernel_rfl
theorem inferSound_k3 : (Tryz.f7.params.all (Tryz.prog.readableRec ·)) = true := by kernel_rfl
theorem inferSound_k4 : (namedTie Tryz.prog Rows.inferSoundRow.named Rows.inferSoundSpec.vars) = true := by kernel_rfl
theorem inferSound_k5 : ((Rows.inferSoundRow.stops == [])) = true := by kernel_rfl
theorem inferSound_k6 : ((Tryz.prog.stops == [])) = true := by kernel_rfl
theorem inferSound_k7 : ((Rows.inferSoundRow.knobs == [])) = true := by kernel_rfl
theorem inferSound_k8 : ((Tryz.prog.stopKnobs == [])) = true := by kernel_rfl
theorem inferSound_k9 : ((Rows.inferSoundRow.inPlace == Tryz.prog.inPlace 7)) = true := by kernel_rfl
theorem inferSound_k10 : ((Rows.inferSoundRow.unfollowed == Tryz.prog.unfollowed 7)) = true := by kernel_rfl
theorem inferSound_k11 : ((Rows.inferSoundRow.recurses == Tryz.prog.recurses 7)) = true := by kernel_rfl
theorem inferSound_k12 : ((Rows.inferSoundRow.named == Tryz.prog.varsNamed 7)) = true := by kernel_rfl
theorem inferSound_k13 : ((Rows.inferSoundRow.maps == (Tryz.f7.params.toList ++ Rows.inferSoundSpec.plain.varTypes Tryz.prog).any (Tryz.prog.mapsRec ·))) = true := by kernel_rfl
theorem inferSound_k14 : ((Rows.inferSoundRow.ifaces == (Tryz.f7.params.toList ++ Rows.inferSoundSpec.plain.varTypes Tryz.prog).any (Tryz.prog.ifacesRec ·))) = true := by kernel_rfl
theorem inferSound_k15 : ((Rows.inferSoundRow.mapsOut == Tryz.prog.mapsAmong Tryz.f7.resultTypes.toList)) = true := by kernel_rfl
theorem inferSound_k16 : ((Rows.inferSoundRow.loops == (Tryz.f7.params.toList ++ Rows.inferSoundSpec.plain.varTypes Tryz.prog).any (Tryz.prog.loopsFrom ·))) = true := by kernel_rfl
theorem inferSound_k17 : ((Rows.inferSoundRow.wideKeys == (Tryz.f7.params.toList ++ Rows.inferSoundSpec.plain.varTypes Tryz.prog ++ Tryz.f7.resultTypes.toList).any (Tryz.prog.wideKeysFrom ·))) = true := by kernel_rfl
theorem inferSound_k18 : (Rows.inferSoundSpec.vars.all (Tryz.prog.varReadable ·)) = true := by kernel_rfl
theorem inferSound_k19 : (Tryz.f7.resultTypes.all (fun t => Tryz.prog.readableRec t && decide (t < Tryz.prog.types.size))) = true := by kernel_rfl
theorem inferSound_k20 : ((Rows.inferSoundRow.ifacesOut == Tryz.f7.resultTypes.toList.any (Tryz.prog.ifacesRec ·))) = true := by kernel_rfl
theorem inferSound_k21 : ((Rows.inferSoundRow.loopsOut == Tryz.f7.resultTypes.toList.any (Tryz.prog.loopsFrom ·))) = true := by kernel_rfl
theorem inferSound_k22 : ((Rows.inferSoundRow.plainKeys == Tryz.prog.plainKeys)) = true := by kernel_rfl
theorem inferSound_k23 : (Rows.inferSoundRow.shortTexts.isNone) = true := by kernel_rfl
theorem inferSound_k24 : (Tryz.prog.stopsHeard) = true := by kernel_rfl
theorem inferSound_k25 : (Tryz.prog.mayEnter) = true := by kernel_rfl
theorem inferSound_k26 : ((Rows.inferSoundRow.lifted == Tryz.prog.liftsFinal)) = true := by kernel_rfl
theorem inferSound_k27 : ((Tryz.prog.make == some Rows.inferSoundRow.make)) = true := by kernel_rfl
theorem inferSound_k29 : ((Rows.inferSoundRow.pinned == Rows.inferSoundRow.pinnedBy)) = true := by kernel_rfl
theorem inferSound_k30 : ((Rows.inferSoundRow.veiled == (Tryz.f7.params.toList ++ Rows.inferSoundSpec.plain.varTypes Tryz.prog ++ Tryz.f7.resultTypes.toList).any (Tryz.prog.veiledRec ·))) = true := by kernel_rfl
theorem inferSound_k31 : (Rows.inferSoundRow.veiledFits Tryz.prog Tryz.f7.params.toList (Tryz.f7.params.toList ++ Rows.inferSoundSpec.plain.varTypes Tryz.prog ++ Tryz.f7.resultTypes.toList)) = true := by kernel_rfl
set_option maxRecDepth 100000 in
theorem inferSound_closed : joinedFacts Tryz.prog 7 Tryz.f7 Rows.inferSoundSpec Rows.inferSoundRow = true := by
  unfold joinedFacts
  rw [inferSound_k0, inferSound_k1, inferSound_k2, inferSound_k3, inferSound_k4, inferSound_k5, inferSound_k6, inferSound_k7, inferSound_k8, inferSound_k9, inferSound_k10, inferSound_k11, inferSound_k12, inferSound_k13, inferSound_k14, inferSound_k15, inferSound_k16, inferSound_k17, inferSound_k18, inferSound_k19, inferSound_k20, inferSound_k21, inferSound_k22, inferSound_k23, inferSound_k24, inferSound_k25, inferSound_k26, inferSound_k27, inferSound_k29, inferSound_k30, inferSound_k31]
  kernel_rfl
theorem inferSound_hfn : Tryz.pinned.checked.prog.funcNamed Rows.inferSoundRow.func = some 7 := by kernel_rfl
theorem inferSound_inst : Tryz.f7.isInstance Tryz.pinned.checked.prog Rows.inferSoundRow.origin Rows.inferSoundRow.targs := of_decide_eq_true (by kernel_rfl)
theorem inferSound_wrap : Tryz.f7.isWrapper Tryz.pinned.checked.prog Rows.inferSoundRow.wrapper Rows.inferSoundRow.mainSum := by unfold Func.isWrapper; first | (rw [if_pos (by decide +kernel)]; kernel_rfl) | (rw [if_neg (by decide +kernel)]; exact ⟨rfl, rfl⟩)
end Go.Proofs.YtbkedppkdhfpoabGreat

namespace Go.Proofs.YtbkedppkdhfpoabGreat
open Go.RowKit
structure KpZ (Z : Nat → Prop) (A B : World) : Prop where
  below : Below 0 A B
  block : ∀ k, k < A.heap.size → ¬ Z k → B.heap[k]? = A.heap[k]?
theorem KpZ.refl (Z : Nat → Prop) (A : World) : KpZ Z A A := ⟨Below.refl _ _, fun _ _ _ => rfl⟩
theorem KpZ.trans {Z : Nat → Prop} {A B C : World} (h : KpZ Z A B) (k : KpZ Z B C) : KpZ Z A C :=
  ⟨h.below.trans k.below, fun i hi hz => by rw [k.block i (Nat.lt_of_lt_of_le hi h.below.size) hz, h.block i hi hz]⟩
theorem KpZ.of_below {Z : Nat → Prop} {A B : World} (h : Below A.heap.size A B) : KpZ Z A B := ⟨h.mono (Nat.zero_le _), fun k hk _ => h.block k hk⟩
theorem KpZ.mono {Z Z' : Nat → Prop} {A B : World} (h : KpZ Z A B) (hz : ∀ k, Z k → Z' k) : KpZ Z' A B := ⟨h.below, fun k hk hk' => h.block k hk (fun h => hk' (hz k h))⟩
theorem KpZ.putObj {Z : Nat → Prop} {A : World} {l : Nat} (hl : Z l) (o : Obj) : KpZ Z A (A.putObj l o) :=
  ⟨⟨rfl, rfl, rfl, by simp, fun k hk => absurd hk (Nat.not_lt_zero _)⟩, fun k _ hz => World.putObj_heap_other (fun e => hz (by rw [e]; exact hl))⟩
def Itr (P : Program) (gf : Nat) (lb : Array Value) {X : Type} (encs : X → Array Value) (M : List X → X → World → Prop) (S : List X → Prop) (Z : Nat → Prop) (w0 : World) : Prop :=
  ∀ (l : Nat) (J : List X → World → Prop) (W : World), KpZ Z w0 W → (∀ k, Z k → k < W.heap.size) → (∀ pre A B, J pre A → Below W.heap.size A B → J pre B) →
    (∀ pre x A, J pre A → M pre x A → YieldAt Fence.wide 0 P l (encs x) A fun e B => e = .returned (.bool true) ∧ J (pre ++ [x]) B ∧ KpZ Z A B) →
    J [] W → CallsIn Fence.wide 0 P gf (#[.func (.yield l) #[] #[]] ++ lb) W fun e B => (∃ v, e = .returned v) ∧ ∃ xs, S xs ∧ J xs B ∧ KpZ Z W B
def recO (fn : FuncId) (a : Act) (ps : Array Tmp) (assign body : Code) (D : Nat) (st : LoopState) : Obj := .loop { state := st, pending := none, fn, tmps := a.tmps, params := ps, assign, body, defers := D }
def Goes {X : Type} (Z : Nat → Prop) (I : List X → World → Prop) (xs : List X) (D l : Nat) (A W : World) (e : Exit) (_ : Act) (B : World) : Prop :=
  e = .normal ∧ B.heap[l]? = W.heap[l]? ∧ B.heap[D]? = W.heap[D]? ∧ KpZ Z A B ∧ I xs B
theorem grown_below {A B : World} {n : Nat} (h : A.grownBy B none) (hn : n ≤ A.heap.size) : Below n A B := ⟨h.os, h.tape, h.output, h.size, fun k hk => h.block k (by omega) (by simp)⟩
theorem below_putObj {A : World} {n l : Nat} (h : n ≤ l) (o : Obj) : Below n A (A.putObj l o) := ⟨rfl, rfl, rfl, by simp, fun k hk => World.putObj_heap_other (by omega)⟩
theorem rf_round {P : Program} {fn : FuncId} {ps : Array Tmp} {assign body : Code} {a : Act} {l D : Nat} {X : Type} {encs : X → Array Value} {I : List X → World → Prop} {Z : Nat → Prop} {pre : List X} {x : X} {A : World}
    (hps : (encs x).size = ps.size) (hZl : Z l) (hI : ∀ pre A o, I pre A → I pre (A.putObj l o)) (hl : A.heap[l]? = some (recO fn a ps assign body D .ready)) (hD : l ≠ D)
    (h : assign.wpIn (Fence.wide.inRound l) 0 P (Exit.then (fun a1 A1 => A1.heap[l]? = A.heap[l]? ∧ A1.heap[D]? = A.heap[D]? ∧ KpZ Z A A1 ∧
      body.wpIn (Fence.wide.inRound l) 0 P (Goes Z I (pre ++ [x]) D l A (A1.putObj l (recO fn a ps assign body D .busy))) a1 (A1.putObj l (recO fn a ps assign body D .busy))) (fun _ _ _ => False))
      { tmps := (ps.zip (encs x)).foldl (fun t (p, v) => t.setIfInBounds p v) a.tmps, defers := [] } A) :
    YieldAt Fence.wide 0 P l (encs x) A fun e B => e = .returned (.bool true) ∧ (I (pre ++ [x]) B ∧ B.heap[l]? = some (recO fn a ps assign body D .ready) ∧ B.heap[D]? = A.heap[D]?) ∧ KpZ Z A B := by
  refine ⟨fn, _, assign, body, run_yield (P := P) (args := encs x) hl hps, roundIn_of_wpIn trivial (wpIn_mono h ?_)⟩
  rintro e a1 A1 h1
  cases e with
  | normal =>
    obtain ⟨hl1, hD1, hk1, hb⟩ := h1
    rw [hl] at hl1
    have hlt := (Array.getElem?_eq_some_iff.1 hl1).1
    refine ⟨_, run_beginRound hl1 rfl, wpIn_mono hb ?_⟩
    rintro e a2 B ⟨rfl, hl2, hD2, hk2, hi2⟩
    rw [World.putObj_heap_same hlt] at hl2
    rw [World.putObj_heap_other (fun e => hD e.symm)] at hD2
    refine ⟨_, _, run_endRound (P := P) none hl2, rfl, ⟨hI _ _ _ hi2, World.putObj_heap_same (Array.getElem?_eq_some_iff.1 hl2).1, ?_⟩, ?_⟩
    · rw [World.putObj_heap_other (fun e => hD e.symm), hD2, hD1]
    · exact hk2.trans (KpZ.putObj hZl _)
  | exit id => exact h1
  | goto t => exact h1
  | ret => exact h1
  | panic ch => exact h1
  | outgrown => exact h1
theorem KpZ.grown {Z : Nat → Prop} {A B : World} (h : A.grownBy B none) : KpZ Z A B := ⟨⟨h.os, h.tape, h.output, h.size, fun k hk => absurd hk (Nat.not_lt_zero _)⟩, fun k hk _ => h.block k hk (by simp)⟩
theorem KpZ.below_trans {Z : Nat → Prop} {A B C : World} (h : KpZ Z A B) (k : Below A.heap.size B C) : KpZ Z A C :=
  ⟨h.below.trans (k.mono (Nat.zero_le _)), fun i hi hz => by rw [k.block i hi, h.block i hi hz]⟩
theorem KpZ.alloc {Z : Nat → Prop} (A : World) (o : Obj) : KpZ Z A (A.alloc o) := KpZ.of_below ((Below.refl _ A).alloc (Nat.le_refl _) o)
theorem rfo {P : Program} {g : Operand} {ps : Array Tmp} {assign body : Code} {Q : Exit → Act → World → Prop} {a : Act} {w : World} {gf : Nat} {lb : Array Value} {X : Type} {encs : X → Array Value} {M : List X → X → World → Prop} {S : List X → Prop} {Z : Nat → Prop} {w0 : World}
    (hg : a.eval g = .func (.func gf) #[] lb) (eg : ∀ args w, (callFunc gf args).run P w = .ok (.enter gf args) w) (hps : ∀ x, (encs x).size = ps.size) (hZ1 : Z (w.heap.size + 1)) (hZl : ∀ k, Z k → k < w.heap.size + 2) (hk0 : KpZ Z w0 w) (hseq : Itr P gf lb encs M S Z w0)
    (I : List X → World → Prop) (hI : ∀ pre A B, I pre A → Below w.heap.size A B → I pre B) (h0 : I [] w)
    (hround : ∀ fn pre x A, I pre A → M pre x A → A.heap[w.heap.size + 1]? = some (recO fn a ps assign body w.heap.size .ready) → A.heap[w.heap.size]? = some (.deferred (some [])) → KpZ Z w A →
      assign.wpIn (Fence.wide.inRound (w.heap.size + 1)) 0 P (Exit.then (fun a1 A1 => A1.heap[w.heap.size + 1]? = A.heap[w.heap.size + 1]? ∧ A1.heap[w.heap.size]? = A.heap[w.heap.size]? ∧ KpZ Z A A1 ∧
        body.wpIn (Fence.wide.inRound (w.heap.size + 1)) 0 P (Goes Z I (pre ++ [x]) w.heap.size (w.heap.size + 1) A (A1.putObj (w.heap.size + 1) (recO fn a ps assign body w.heap.size .busy))) a1 (A1.putObj (w.heap.size + 1) (recO fn a ps assign body w.heap.size .busy))) (fun _ _ _ => False))
        { tmps := (ps.zip (encs x)).foldl (fun t (p, v) => t.setIfInBounds p v) a.tmps, defers := [] } A)
    (hdone : ∀ xs B, S xs → I xs B → B.heap[w.heap.size]? = some (.deferred (some [])) → KpZ Z w B → Q .normal { a with defers := { target := .collected w.heap.size, args := #[] } :: a.defers } B) :
    (Code.rangeFunc g ps assign body).wpIn Fence.wide 0 P Q a w := by
  refine wpIn_rangeFunc fun fn _ => ?_
  obtain ⟨W1, hW1⟩ : ∃ W1, W1 = (w.alloc (.deferred (some []))).alloc (recO fn a ps assign body w.heap.size .ready) := ⟨_, rfl⟩
  have hl1 : W1.heap[w.heap.size + 1]? = some (recO fn a ps assign body w.heap.size .ready) := by
    rw [hW1]
    have := World.alloc_heap_new (w.alloc (.deferred (some []))) (recO fn a ps assign body w.heap.size .ready)
    rwa [World.size_alloc] at this
  have hd1 : W1.heap[w.heap.size]? = some (.deferred (some [])) := by
    rw [hW1, Below.heap_alloc _ _ _ (by simp)]
    exact World.alloc_heap_new w _
  have hk1 : KpZ Z w W1 := by rw [hW1]; exact (KpZ.alloc w _).trans (KpZ.alloc _ _)
  have hi1 : I [] W1 := by
    rw [hW1]
    exact hI _ _ _ h0 (((Below.refl _ w).alloc (Nat.le_refl _) _).alloc (by simp) _)
  refine ⟨w.heap.size + 1, [{ target := .collected w.heap.size, args := #[] }], W1, { target := .fn (.func gf) lb, args := #[.func (.yield (w.heap.size + 1)) #[] #[]] }, W1, gf, #[.func (.yield (w.heap.size + 1)) #[] #[]] ++ lb, W1, ?_, ?_, fun _ _ => trivial, ?_, (fun h => by cases h), ?_⟩
  · rw [hW1]
    exact run_enterLoop_outer _ _ _ _ _
  · simp only [resolve, hg]
    simp [go_sem]
  · simp [invoke, go_sem, eg]
  · refine (hseq (w.heap.size + 1) (fun pre A => (I pre A ∧ A.heap[w.heap.size + 1]? = some (recO fn a ps assign body w.heap.size .ready) ∧ A.heap[w.heap.size]? = some (.deferred (some []))) ∧ KpZ Z w A) W1 (hk0.trans hk1) (fun k hk => by rw [hW1]; have := hZl k hk; simpa using this) ?_ ?_ ⟨⟨hi1, hl1, hd1⟩, hk1⟩).mono ?_
    · rintro pre A B ⟨⟨h1, h2, h3⟩, h4⟩ hgr
      have hs : W1.heap.size = w.heap.size + 2 := by rw [hW1]; simp
      exact ⟨⟨hI _ _ _ h1 (hgr.mono (by omega)), by rw [hgr.block _ (by omega)]; exact h2, by rw [hgr.block _ (by omega)]; exact h3⟩, h4.below_trans (hgr.mono (by omega))⟩
    · rintro pre x A ⟨⟨h1, h2, h3⟩, h4⟩ hm
      refine YieldAt.mono (rf_round (hps x) hZ1 (fun pre A o h => hI pre A _ h (below_putObj (by omega) o)) h2 (by omega) (hround fn pre x A h1 hm h2 h3 h4)) ?_
      rintro e B ⟨rfl, ⟨h5, h6, h7⟩, h8⟩
      exact ⟨rfl, ⟨⟨h5, h6, by rw [h7]; exact h3⟩, h4.trans h8⟩, h8⟩
    · rintro e B ⟨⟨v, rfl⟩, xs, hS, ⟨⟨h1, h2, h3⟩, h4⟩, -⟩
      refine ⟨none, _, run_endLoop (P := P) h2 (by simp), hdone xs _ hS (hI _ _ _ h1 (below_putObj (by omega) _)) ?_ (h4.trans (KpZ.putObj hZ1 _))⟩
      rw [World.putObj_heap_other (by omega)]
      exact h3
theorem rfi {P : Program} {g : Operand} {ps : Array Tmp} {assign body : Code} {Q : Exit → Act → World → Prop} {a : Act} {w : World} {gf : Nat} {lb : Array Value} {X : Type} {encs : X → Array Value} {M : List X → X → World → Prop} {S : List X → Prop} {Z : Nat → Prop} {w0 : World} {l0 : Nat} {r0 : Loop}
    (hr0 : w.heap[l0]? = some (.loop r0)) (hD : r0.defers < w.heap.size) (hg : a.eval g = .func (.func gf) #[] lb) (eg : ∀ args w, (callFunc gf args).run P w = .ok (.enter gf args) w) (hps : ∀ x, (encs x).size = ps.size) (hZ0 : Z w.heap.size) (hZl : ∀ k, Z k → k < w.heap.size + 1) (hk0 : KpZ Z w0 w) (hseq : Itr P gf lb encs M S Z w0)
    (I : List X → World → Prop) (hI : ∀ pre A B, I pre A → Below w.heap.size A B → I pre B) (h0 : I [] w)
    (hround : ∀ fn pre x A, I pre A → M pre x A → A.heap[w.heap.size]? = some (recO fn a ps assign body r0.defers .ready) → KpZ Z w A →
      assign.wpIn (Fence.wide.inRound w.heap.size) 0 P (Exit.then (fun a1 A1 => A1.heap[w.heap.size]? = A.heap[w.heap.size]? ∧ A1.heap[r0.defers]? = A.heap[r0.defers]? ∧ KpZ Z A A1 ∧
        body.wpIn (Fence.wide.inRound w.heap.size) 0 P (Goes Z I (pre ++ [x]) r0.defers w.heap.size A (A1.putObj w.heap.size (recO fn a ps assign body r0.defers .busy))) a1 (A1.putObj w.heap.size (recO fn a ps assign body r0.defers .busy))) (fun _ _ _ => False))
        { tmps := (ps.zip (encs x)).foldl (fun t (p, v) => t.setIfInBounds p v) a.tmps, defers := [] } A)
    (hdone : ∀ xs B, S xs → I xs B → KpZ Z w B → B.heap[r0.defers]? = w.heap[r0.defers]? → Q .normal a B) :
    (Code.rangeFunc g ps assign body).wpIn (Fence.wide.inRound l0) 0 P Q a w := by
  refine wpIn_rangeFunc fun fn _ => ?_
  obtain ⟨W1, hW1⟩ : ∃ W1, W1 = w.alloc (recO fn a ps assign body r0.defers .ready) := ⟨_, rfl⟩
  have hl1 : W1.heap[w.heap.size]? = some (recO fn a ps assign body r0.defers .ready) := by rw [hW1]; exact World.alloc_heap_new w _
  have hk1 : KpZ Z w W1 := by rw [hW1]; exact KpZ.alloc w _
  have hi1 : I [] W1 := by
    rw [hW1]
    exact hI _ _ _ h0 ((Below.refl _ w).alloc (Nat.le_refl _) _)
  have hd1 : W1.heap[r0.defers]? = w.heap[r0.defers]? := by rw [hW1]; exact Below.heap_alloc _ _ _ hD
  refine ⟨w.heap.size, [], W1, { target := .fn (.func gf) lb, args := #[.func (.yield w.heap.size) #[] #[]] }, W1, gf, #[.func (.yield w.heap.size) #[] #[]] ++ lb, W1, ?_, ?_, fun _ _ => trivial, ?_, (fun h => by cases h), ?_⟩
  · rw [hW1]
    exact run_enterLoop_inner hr0 _ _ _ _ _
  · simp only [resolve, hg]
    simp [go_sem]
  · simp [invoke, go_sem, eg]
  · refine (CallsIn.inRound l0 (hseq w.heap.size (fun pre A => (I pre A ∧ A.heap[w.heap.size]? = some (recO fn a ps assign body r0.defers .ready) ∧ A.heap[r0.defers]? = w.heap[r0.defers]?) ∧ KpZ Z w A) W1 (hk0.trans hk1) (fun k hk => by rw [hW1]; have := hZl k hk; simpa using this) ?_ ?_ ⟨⟨hi1, hl1, hd1⟩, hk1⟩)).mono ?_
    · rintro pre A B ⟨⟨h1, h2, h3⟩, h4⟩ hgr
      have hs : W1.heap.size = w.heap.size + 1 := by rw [hW1]; simp
      exact ⟨⟨hI _ _ _ h1 (hgr.mono (by omega)), by rw [hgr.block _ (by omega)]; exact h2, by rw [hgr.block _ (by omega)]; exact h3⟩, h4.below_trans (hgr.mono (by omega))⟩
    · rintro pre x A ⟨⟨h1, h2, h3⟩, h4⟩ hm
      refine YieldAt.mono (rf_round (hps x) hZ0 (fun pre A o h => hI pre A _ h (below_putObj (Nat.le_refl _) o)) h2 (by omega) (hround fn pre x A h1 hm h2 h4)) ?_
      rintro e B ⟨rfl, ⟨h5, h6, h7⟩, h8⟩
      exact ⟨rfl, ⟨⟨h5, h6, by rw [h7]; exact h3⟩, h4.trans h8⟩, h8⟩
    · rintro e B ⟨⟨v, rfl⟩, xs, hS, ⟨⟨h1, h2, h3⟩, h4⟩, -⟩
      refine ⟨none, _, run_endLoop (P := P) h2 (by simp), hdone xs _ hS (hI _ _ _ h1 (below_putObj (Nat.le_refl _) _)) (h4.trans (KpZ.putObj hZ0 _)) ?_⟩
      rw [World.putObj_heap_other (by omega)]
      exact h3
end Go.Proofs.YtbkedppkdhfpoabGreat

namespace Go.Proofs.YtbkedppkdhfpoabGreat
structure T where
  v : Int
  f : Int
  args : List T
def T.sz : T → Nat
  | ⟨_, _, args⟩ => 1 + szL args
  where
  szL : List T → Nat
    | [] => 0
    | t :: ts => t.sz + szL ts
theorem T.sz_pos (t : T) : 1 ≤ t.sz := by
  cases t; simp [T.sz]
theorem T.szL_nil : T.sz.szL [] = 0 := rfl
theorem T.szL_cons (t : T) (ts : List T) : T.sz.szL (t :: ts) = t.sz + T.sz.szL ts := rfl
theorem T.sz_eq (t : T) : t.sz = 1 + T.sz.szL t.args := by cases t; rfl
theorem T.szL_append (a b : List T) : T.sz.szL (a ++ b) = T.sz.szL a + T.sz.szL b := by
  induction a with
  | nil => simp [T.szL_nil]
  | cons t ts ih => simp [T.szL_cons, ih, Nat.add_assoc]
theorem T.length_le (l : List T) : l.length ≤ T.sz.szL l := by
  induction l with
  | nil => simp [T.szL_nil]
  | cons a l ih => have := a.sz_pos; simp [T.szL_cons]; omega
theorem T.szL_mem {t : T} {l : List T} (h : t ∈ l) : t.sz ≤ T.sz.szL l := by
  induction l with
  | nil => cases h
  | cons a l ih =>
    rw [T.szL_cons]
    rcases List.mem_cons.1 h with rfl | h
    · omega
    · have := ih h; omega
def sigErr (ar : List Int) : Int :=
  if 12 < ar.length then 2 else if ar.all (fun n => decide (0 ≤ n ∧ n ≤ 3)) then 0 else 3
def partErr (ar : List Int) (v f : Int) (n : Nat) : Int :=
  if v ≠ 0 then (if v < 1 ∨ 1000 < v then 3 else if n ≠ 0 ∨ f ≠ 0 then 1 else 0)
  else if f < 0 ∨ (ar.length : Int) ≤ f then 5 else if (n : Int) ≠ ar.getD f.toNat 0 then 1 else 0
def lookT {S : Type} (step : S → T → S × Bool) : S → T → S × Bool
  | s, ⟨v, f, args⟩ =>
    let r := lookL s args
    if r.2 = false then (r.1, false) else step r.1 ⟨v, f, args⟩
  where
  lookL : S → List T → S × Bool
    | s, [] => (s, true)
    | s, t :: ts =>
      let r := lookT step s t
      if r.2 = false then (r.1, false) else lookL r.1 ts
theorem lookL_nil {S : Type} (step : S → T → S × Bool) (s : S) : lookT.lookL step s [] = (s, true) := rfl
theorem lookT_eq {S : Type} (step : S → T → S × Bool) (s : S) (t : T) : lookT step s t = if (lookT.lookL step s t.args).2 = false then ((lookT.lookL step s t.args).1, false) else step (lookT.lookL step s t.args).1 t := by
  cases t; rfl
theorem lookL_cons {S : Type} (step : S → T → S × Bool) (s : S) (t : T) (ts : List T) : lookT.lookL step s (t :: ts) = if (lookT step s t).2 = false then ((lookT step s t).1, false) else lookT.lookL step (lookT step s t).1 ts := rfl
theorem lookL_append {S : Type} (step : S → T → S × Bool) (a b : List T) : ∀ s : S, lookT.lookL step s (a ++ b) = if (lookT.lookL step s a).2 = false then ((lookT.lookL step s a).1, false) else lookT.lookL step (lookT.lookL step s a).1 b := by
  induction a with
  | nil => intro s; simp [lookL_nil]
  | cons t ts ih =>
    intro s
    rw [List.cons_append, lookL_cons, lookL_cons]
    by_cases h : (lookT step s t).2 = false
    · simp [h]
    · rw [if_neg h, if_neg h, ih]
theorem lookL_step {S : Type} {step : S → T → S × Bool} {s sk s2 : S} {ts : List T} {k : Nat} {t : T} (ht : ts[k]? = some t) (h : lookT.lookL step s (ts.take k) = (sk, true)) :
    (lookT step sk t = (s2, true) → lookT.lookL step s (ts.take (k + 1)) = (s2, true)) ∧ (lookT step sk t = (s2, false) → lookT.lookL step s ts = (s2, false)) := by
  have hlt : k < ts.length := by
    rcases Nat.lt_or_ge k ts.length with h | h
    · exact h
    · rw [List.getElem?_eq_none h] at ht; cases ht
  constructor
  · intro h2
    rw [List.take_add_one, ht, lookL_append, h]
    simp [lookL_cons, h2, lookL_nil]
  · intro h2
    have e : ts = ts.take k ++ t :: ts.drop (k + 1) := by
      rw [List.getElem?_eq_getElem hlt] at ht
      simp at ht
      rw [← ht, List.getElem_cons_drop, List.take_append_drop]
    rw [e, lookL_append, h]
    simp [lookL_cons, h2]
theorem look_mu {S : Type} {step : S → T → S × Bool} {mu : S → Nat} (h : ∀ s t, mu (step s t).1 ≤ mu s + 1) : ∀ (n : Nat), (∀ (t : T) (s : S), t.sz ≤ n → mu (lookT step s t).1 ≤ mu s + t.sz) ∧ (∀ (ts : List T) (s : S), T.sz.szL ts ≤ n → mu (lookT.lookL step s ts).1 ≤ mu s + T.sz.szL ts) := by
  intro n
  induction n with
  | zero =>
    refine ⟨fun t s hn => by have := t.sz_pos; omega, fun ts s hn => ?_⟩
    cases ts with
    | nil => simp [lookL_nil]
    | cons t ts => have := t.sz_pos; rw [T.szL_cons] at hn; omega
  | succ n ih =>
    have h1 : ∀ (t : T) (s : S), t.sz ≤ n + 1 → mu (lookT step s t).1 ≤ mu s + t.sz := fun t s hn => by
      rw [T.sz_eq] at hn ⊢
      have h2 := ih.2 t.args s (by omega)
      rw [lookT_eq]
      by_cases h3 : (lookT.lookL step s t.args).2 = false
      · rw [if_pos h3]; show mu (lookT.lookL step s t.args).1 ≤ _; omega
      · rw [if_neg h3]
        have := h (lookT.lookL step s t.args).1 t
        omega
    refine ⟨h1, fun ts => ?_⟩
    induction ts with
    | nil => intro s _; simp [lookL_nil]
    | cons t ts iht =>
      intro s hn
      rw [T.szL_cons] at hn ⊢
      have h2 := h1 t s (by omega)
      rw [lookL_cons]
      by_cases h3 : (lookT step s t).2 = false
      · rw [if_pos h3]; show mu (lookT step s t).1 ≤ _; omega
      · rw [if_neg h3]
        have := iht (lookT step s t).1 (by omega)
        omega
def atT : T → List Int → Option T
  | t, [] => some t
  | t, i :: p => if 0 ≤ i ∧ i < t.args.length then (t.args[i.toNat]?).bind (fun u => atT u p) else none
theorem atT_append (p q : List Int) : ∀ t, atT t (p ++ q) = (atT t p).bind (fun u => atT u q) := by
  induction p with
  | nil => intro t; rfl
  | cons i p ih =>
    intro t
    rw [List.cons_append, atT, atT]
    by_cases h : 0 ≤ i ∧ i < t.args.length
    · rw [if_pos h, if_pos h]
      cases t.args[i.toNat]? with
      | none => rfl
      | some u => exact ih u
    · rw [if_neg h, if_neg h]; rfl
theorem atT_step {t u : T} {place : List Int} {k : Nat} (hk : k < place.length) (h : atT t (place.take k) = some u) :
    (∀ u2, 0 ≤ place.getD k 0 → place.getD k 0 < u.args.length → u.args[(place.getD k 0).toNat]? = some u2 → atT t (place.take (k + 1)) = some u2) ∧ (¬ (0 ≤ place.getD k 0 ∧ place.getD k 0 < u.args.length) → atT t place = none) := by
  have hg : place.getD k 0 = place[k] := by rw [List.getD_eq_getElem?_getD, List.getElem?_eq_getElem hk]; rfl
  constructor
  · intro u2 h0 h1 h2
    rw [List.take_add_one, List.getElem?_eq_getElem hk, atT_append, h, ← hg]
    show atT u [place.getD k 0] = _
    rw [atT, if_pos ⟨h0, h1⟩, h2]; rfl
  · intro h0
    have e : place = place.take k ++ place[k] :: place.drop (k + 1) := by
      rw [List.getElem_cons_drop, List.take_append_drop]
    rw [e, atT_append, h, ← hg]
    show atT u (_ :: _) = _
    rw [atT, if_neg h0]
end Go.Proofs.YtbkedppkdhfpoabGreat

namespace Go.Proofs.YtbkedppkdhfpoabGreat
open Go.RowKit
theorem hide {p : Prop} (h : p) : Hid p := h
def T.In (p : Nat → Prop) (w : World) : T → Value → Prop
  | ⟨_, _, args⟩, s => ∃ a cap, s = .slice a args.length cap ∧ InL args a
  where
  InL : List T → Option Addr → Prop
    | [], _ => True
    | t :: ts, a => ∃ b off s, a = some ⟨b, off, none⟩ ∧ p b ∧ w.cell? ⟨b, off, none⟩ = some (.int .i64 t.v) ∧ w.cell? ⟨b, off + 1, none⟩ = some (.int .i64 t.f) ∧ w.cell? ⟨b, off + 2, none⟩ = some s ∧
        t.In p w s ∧ InL ts (some ⟨b, off + 3, none⟩)
abbrev InP (p : Nat → Prop) (w : World) (ts : List T) (a : Option Addr) : Prop := T.In.InL p w ts a
abbrev InL (w : World) (ts : List T) (a : Option Addr) : Prop := InP (fun _ => True) w ts a
theorem InP_cons {p : Nat → Prop} {w : World} {t : T} {ts : List T} {a : Option Addr} : InP p w (t :: ts) a ↔ ∃ b off s, a = some ⟨b, off, none⟩ ∧ p b ∧ w.cell? ⟨b, off, none⟩ = some (.int .i64 t.v) ∧ w.cell? ⟨b, off + 1, none⟩ = some (.int .i64 t.f) ∧
    w.cell? ⟨b, off + 2, none⟩ = some s ∧ t.In p w s ∧ InP p w ts (some ⟨b, off + 3, none⟩) := Iff.rfl
theorem InP_nil {p : Nat → Prop} {w : World} {a : Option Addr} : InP p w [] a := trivial
theorem In_iff {p : Nat → Prop} {w : World} {t : T} {s : Value} : t.In p w s ↔ ∃ a cap, s = .slice a t.args.length cap ∧ InP p w t.args a := by
  cases t; exact Iff.rfl
theorem InP_at {p : Nat → Prop} {w : World} {ts : List T} : ∀ {b off k : Nat} {t : T}, InP p w ts (some ⟨b, off, none⟩) → ts[k]? = some t →
    ∃ a cap, p b ∧ w.cell? ⟨b, off + k * 3, none⟩ = some (.int .i64 t.v) ∧ w.cell? ⟨b, off + k * 3 + 1, none⟩ = some (.int .i64 t.f) ∧ w.cell? ⟨b, off + k * 3 + 2, none⟩ = some (.slice a t.args.length cap) ∧ InP p w t.args a := by
  induction ts with
  | nil => intro b off k t _ h; simp at h
  | cons u us ih =>
    intro b off k t h hk
    obtain ⟨b', off', s, hb, hp, h0, h1, h2, hin, hr⟩ := InP_cons.1 h
    simp only [Option.some.injEq, Addr.mk.injEq] at hb
    obtain ⟨rfl, rfl, _⟩ := hb
    cases k with
    | zero =>
      simp at hk; subst hk
      obtain ⟨a, cap, rfl, hl⟩ := In_iff.1 hin
      exact ⟨a, cap, hp, by simpa using h0, by simpa using h1, by simpa using h2, hl⟩
    | succ k =>
      simp at hk
      obtain ⟨a, cap, _, g0, g1, g2, gl⟩ := ih hr hk
      refine ⟨a, cap, hp, ?_, ?_, ?_, gl⟩
      · rw [show off + (k + 1) * 3 = off + 3 + k * 3 from by omega]; exact g0
      · rw [show off + (k + 1) * 3 = off + 3 + k * 3 from by omega]; exact g1
      · rw [show off + (k + 1) * 3 = off + 3 + k * 3 from by omega]; exact g2
theorem InP_some {p : Nat → Prop} {w : World} {ts : List T} {a : Option Addr} (h : InP p w ts a) (hp : 0 < ts.length) : ∃ b off, a = some ⟨b, off, none⟩ := by
  cases ts with
  | nil => simp at hp
  | cons t us =>
    obtain ⟨b, off, s, rfl, _⟩ := InP_cons.1 h
    exact ⟨b, off, rfl⟩
theorem lt_of_cell {w : World} {b o : Nat} {v : Value} (h : w.cell? ⟨b, o, none⟩ = some v) : b < w.heap.size := by
  rcases Nat.lt_or_ge b w.heap.size with h' | h'
  · exact h'
  · unfold World.cell? at h
    rw [Array.getElem?_eq_none h'] at h; cases h
theorem InP_mono {p q : Nat → Prop} {w w' : World} (hs : ∀ b o v, p b → w.cell? ⟨b, o, none⟩ = some v → q b ∧ w'.cell? ⟨b, o, none⟩ = some v) : ∀ (n : Nat) (ts : List T) (a : Option Addr), T.sz.szL ts ≤ n → InP p w ts a → InP q w' ts a := by
  intro n
  induction n with
  | zero =>
    intro ts a hn h
    cases ts with
    | nil => exact InP_nil
    | cons t ts => have := t.sz_pos; rw [T.szL_cons] at hn; omega
  | succ n ih =>
    intro ts
    induction ts with
    | nil => intro a _ _; exact InP_nil
    | cons t ts iht =>
      intro a hn h
      rw [T.szL_cons, T.sz_eq] at hn
      obtain ⟨b, off, s, rfl, hp, h0, h1, h2, hin, hr⟩ := InP_cons.1 h
      obtain ⟨a, cap, rfl, hl⟩ := In_iff.1 hin
      exact InP_cons.2 ⟨b, off, _, rfl, (hs _ _ _ hp h0).1, (hs _ _ _ hp h0).2, (hs _ _ _ hp h1).2, (hs _ _ _ hp h2).2, In_iff.2 ⟨a, cap, rfl, ih _ _ (by omega) hl⟩, iht _ (by omega) hr⟩
theorem InP_same {p : Nat → Prop} {w w' : World} {ts : List T} {a : Option Addr} (hs : ∀ k, p k → k < w.heap.size → w'.heap[k]? = w.heap[k]?) (h : InP p w ts a) : InP p w' ts a :=
  InP_mono (fun b o v hp hv => ⟨hp, by rw [World.cell?_of_block (w := w) (a := ⟨b, o, none⟩) (hs b hp (lt_of_cell hv))]; exact hv⟩) _ _ _ (Nat.le_refl _) h
theorem InP_below {p : Nat → Prop} {w w' : World} {ts : List T} {a : Option Addr} (hb : Below w.heap.size w w') (h : InP p w ts a) : InP p w' ts a :=
  InP_same (fun k _ hk => hb.block k hk) h
theorem InP_alloc {p : Nat → Prop} {w : World} {ts : List T} {a : Option Addr} (o : Obj) (h : InP p w ts a) : InP p (w.alloc o) ts a :=
  InP_below ((Below.refl _ _).alloc (Nat.le_refl _) o) h
theorem InP_lt {p : Nat → Prop} {w : World} {ts : List T} {a : Option Addr} (h : InP p w ts a) : InP (fun k => p k ∧ k < w.heap.size) w ts a :=
  InP_mono (fun _ _ _ hp hv => ⟨⟨hp, lt_of_cell hv⟩, hv⟩) _ _ _ (Nat.le_refl _) h
theorem InP_imp {p q : Nat → Prop} {w : World} {ts : List T} {a : Option Addr} (hpq : ∀ k, p k → q k) (h : InP p w ts a) : InP q w ts a :=
  InP_mono (fun _ _ _ hp hv => ⟨hpq _ hp, hv⟩) _ _ _ (Nat.le_refl _) h
def Ints (w : World) (zs : List Int) (a : Option Addr) : Prop :=
  zs = [] ∨ ∃ b off, a = some ⟨b, off, none⟩ ∧ ∀ i, i < zs.length → w.cell? ⟨b, off + i, none⟩ = some (.int .i64 (zs.getD i 0))
theorem Ints_below {w w' : World} {zs : List Int} {a : Option Addr} (hb : Below w.heap.size w w') (h : Ints w zs a) : Ints w' zs a := by
  rcases h with h | ⟨b, off, rfl, h⟩
  · exact Or.inl h
  · exact Or.inr ⟨b, off, rfl, fun i hi => by rw [hb.cell (p := ⟨b, off + i, none⟩) (lt_of_cell (h i hi))]; exact h i hi⟩
theorem Ints_alloc {w : World} {zs : List Int} {a : Option Addr} (o : Obj) (h : Ints w zs a) : Ints (w.alloc o) zs a := Ints_below ((Below.refl _ _).alloc (Nat.le_refl _) o) h
theorem Ints_some {w : World} {zs : List Int} {a : Option Addr} (h : Ints w zs a) (hp : 0 < zs.length) : ∃ b off, a = some ⟨b, off, none⟩ ∧ ∀ i, i < zs.length → w.cell? ⟨b, off + i, none⟩ = some (.int .i64 (zs.getD i 0)) := by
  rcases h with rfl | h
  · simp at hp
  · exact h
theorem below1 (w : World) (o1 : Obj) : Below w.heap.size w (w.alloc o1) := (Below.refl _ _).alloc (Nat.le_refl _) o1
theorem ret_int {k : IntKind} {a b : Int} (h : a = b) : Ending.returned (.int k a) = .returned (.int k b) := by rw [h]
theorem ret_bool {a b : Bool} (h : a = b) : Ending.returned (.bool a) = .returned (.bool b) := by rw [h]
end Go.Proofs.YtbkedppkdhfpoabGreat

namespace Go.Proofs.YtbkedppkdhfpoabGreat
open Go.RowKit
theorem Tryz.underlying22 : Tryz.prog.underlying 22 = some (.slice 3) := by kernel_rfl
theorem all_take_succ {ar : List Int} {k : Nat} {p : Int → Bool} (hk : k < ar.length) : (ar.take (k + 1)).all p = ((ar.take k).all p && p (ar.getD k 0)) := by
  rw [List.take_add_one, List.getElem?_eq_getElem hk, List.getD_eq_getElem?_getD, List.getElem?_eq_getElem hk]
  simp only [List.all_append, Option.toList_some, List.all_cons, List.all_nil, Bool.and_true, Option.getD_some]
theorem all_of_take {ar : List Int} {k : Nat} {p : Int → Bool} (hk : k < ar.length) (h : p (ar.getD k 0) = false) : ar.all p = false := by
  rw [List.getD_eq_getElem?_getD, List.getElem?_eq_getElem hk] at h
  rw [List.all_eq_false]
  exact ⟨ar[k], List.getElem_mem hk, by simpa using h⟩
set_option maxRecDepth 100000 in
set_option maxHeartbeats 400000 in
theorem signature_any (ar : List Int) (ga : Option Addr) (gcap : Nat) (w : World) (hg : Ints w ar ga) :
    Calls Tryz.prog 62 #[.agg #[.slice ga ar.length gcap]] w fun e w' => e = .returned (.int .i64 (sigErr ar)) ∧ Below w.heap.size w w' := by
  by_cases hlen : 12 < ar.length
  · have hfin : sigErr ar = 2 := by simp [sigErr, hlen]
    rw [hfin]
    clear hfin
    go_enter Tryz.func62, Tryz.ntmps62
    go_wp2_with fail
    go_ret
    exact ⟨rfl, below1 _ _⟩
  · have hlen' : ar.length ≤ 12 := by omega
    go_enter Tryz.func62, Tryz.ntmps62
    go_wp2_with fail
    go_loop [4, 12] (fun _ i => ∃ k : Nat, k ≤ ar.length ∧ i = .int .i64 k ∧ Hid ((ar.take k).all (fun n => decide (0 ≤ n ∧ n ≤ 3)) = true)) (fun _ i => ar.length - (intOf i).toNat)
    case atStart => exact ⟨0, Nat.zero_le _, rfl, rfl⟩
    case round =>
      obtain ⟨k, hk, rfl, hall⟩ := hrel
      by_cases hlt : k < ar.length
      · obtain ⟨b, off, rfl, hc⟩ := Ints_some hg (by omega)
        have hck : w.cell? ⟨b, off + k, none⟩ = some (.int .i64 (ar.getD k 0)) := hc k hlt
        have hbk := lt_of_cell hck
        have hs := all_take_succ (p := fun n => decide (0 ≤ n ∧ n ≤ 3)) hlt
        have hf := all_of_take (p := fun n => decide (0 ≤ n ∧ n ≤ 3)) hlt
        have Hs := hide hs
        have Hf := hide hf
        clear hs hf hc
        generalize ar.getD k 0 = n at *
        by_cases h0 : n < 0
        · go_wp2_with fail
          go_ret
          exact ⟨ret_int (by rw [sigErr, if_neg hlen, Hf.out (by simp; omega)]; rfl), below1 _ _⟩
        · by_cases h3 : 3 < n
          · go_wp2_with fail
            go_ret
            exact ⟨ret_int (by rw [sigErr, if_neg hlen, Hf.out (by simp; omega)]; rfl), below1 _ _⟩
          · go_wp2_with fail
            go_round
            case rel => exact ⟨k + 1, by omega, by go_num, by have := Hs.out; rw [hall.out] at this; simpa [Hid, show 0 ≤ n from by omega, show n ≤ 3 from by omega] using this⟩
            case measure => simp [intOf]; omega
      · go_wp2_with fail
        go_ret
        have hk2 : k = ar.length := by omega
        subst hk2
        rw [List.take_length] at hall
        exact ⟨ret_int (by simp only [sigErr, if_neg hlen]; rw [hall.out]; rfl), below1 _ _⟩
def varErr (v f : Int) (n : Nat) : Int := if v < 1 ∨ 1000 < v then 3 else if n ≠ 0 ∨ f ≠ 0 then 1 else 0
set_option maxRecDepth 100000 in
set_option maxHeartbeats 400000 in
theorem checkVar_any (v f : Int) (n : Nat) (a : Option Addr) (cap : Nat) (w : World) :
    Calls Tryz.prog 284 #[.agg #[.int .i64 v, .int .i64 f, .slice a n cap]] w fun e w' => e = .returned (.int .i64 (varErr v f n)) ∧ Below w.heap.size w w' := by
  by_cases h1 : v < 1
  · have hfin : varErr v f n = 3 := by simp [varErr, h1]
    rw [hfin]; clear hfin
    go_enter Tryz.func284, Tryz.ntmps284
    go_wp2_with fail
    go_ret
    exact ⟨rfl, below1 _ _⟩
  · by_cases h2 : 1000 < v
    · have hfin : varErr v f n = 3 := by simp [varErr, h2]
      rw [hfin]; clear hfin
      go_enter Tryz.func284, Tryz.ntmps284
      go_wp2_with fail
      go_ret
      exact ⟨rfl, below1 _ _⟩
    · by_cases h3 : n = 0
      · subst h3
        by_cases h4 : f = 0
        · subst h4
          have hfin : varErr v 0 0 = 0 := by simp [varErr]; omega
          rw [hfin]; clear hfin
          go_enter Tryz.func284, Tryz.ntmps284
          go_wp2_with fail
          go_ret
          exact ⟨rfl, below1 _ _⟩
        · have hfin : varErr v f 0 = 1 := by rw [varErr, if_neg (by omega), if_pos (Or.inr h4)]
          have h4' : (f != 0) = true := by simpa using h4
          rw [hfin]; clear hfin h4
          go_enter Tryz.func284, Tryz.ntmps284
          go_wp2_with fail
          go_ret
          exact ⟨rfl, below1 _ _⟩
      · have hfin : varErr v f n = 1 := by rw [varErr, if_neg (by omega), if_pos (Or.inl h3)]
        have h3' : ((n : Int) != 0) = true := by simpa using h3
        rw [hfin]; clear hfin
        go_enter Tryz.func284, Tryz.ntmps284
        go_wp2_with fail
        go_ret
        exact ⟨rfl, below1 _ _⟩
theorem below2 (w : World) (o1 o2 : Obj) : Below w.heap.size w ((w.alloc o1).alloc o2) := (below1 w o1).alloc (by simp) o2
theorem partErr_var {ar : List Int} {v f : Int} {n : Nat} (h : v ≠ 0) : partErr ar v f n = varErr v f n := by
  simp only [partErr, varErr, if_pos h]
set_option maxRecDepth 100000 in
set_option maxHeartbeats 400000 in
theorem checkPart_any (ar : List Int) (ga : Option Addr) (gcap : Nat) (v f : Int) (n : Nat) (a : Option Addr) (cap : Nat) (w : World) (hg : Ints w ar ga) :
    Calls Tryz.prog 251 #[.agg #[.slice ga ar.length gcap], .agg #[.int .i64 v, .int .i64 f, .slice a n cap]] w fun e w' => e = .returned (.int .i64 (partErr ar v f n)) ∧ Below w.heap.size w w' := by
  by_cases h1 : v = 0
  · subst h1
    by_cases h2 : f < 0
    · have hfin : partErr ar 0 f n = 5 := by simp [partErr, h2]
      rw [hfin]; clear hfin
      go_enter Tryz.func251, Tryz.ntmps251
      go_wp2_with fail
      go_ret
      exact ⟨rfl, below2 _ _ _⟩
    · by_cases h3 : (ar.length : Int) ≤ f
      · have hfin : partErr ar 0 f n = 5 := by simp [partErr, h3]
        rw [hfin]; clear hfin
        go_enter Tryz.func251, Tryz.ntmps251
        go_wp2_with fail
        go_ret
        exact ⟨rfl, below2 _ _ _⟩
      · obtain ⟨k, rfl⟩ := Int.eq_ofNat_of_zero_le (show 0 ≤ f by omega)
        have hk : k < ar.length := by omega
        obtain ⟨b, off, rfl, hc⟩ := Ints_some hg (by omega)
        have hck : w.cell? ⟨b, off + k, none⟩ = some (.int .i64 (ar.getD k 0)) := hc k hk
        have hbk := lt_of_cell hck
        clear hc
        have hfin : partErr ar 0 (k : Int) n = if (n : Int) ≠ ar.getD k 0 then 1 else 0 := by
          rw [partErr, if_neg (by simp), if_neg (by omega), Int.toNat_natCast]
        generalize ar.getD k 0 = m at *
        rw [hfin]
        clear hfin hg
        by_cases h4 : (n : Int) = m
        · subst h4
          rw [if_neg (by simp)]
          go_enter Tryz.func251, Tryz.ntmps251
          go_wp2_with fail
          go_quiet (fail)
          go_wp2_with fail
          go_ret
          exact ⟨rfl, (below2 _ _ _).trans ⟨rfl, rfl, rfl, Nat.le_refl _, fun _ _ => rfl⟩⟩
        · rw [if_pos h4]
          have h4' : ((n : Int) != m) = true := by simpa using h4
          go_enter Tryz.func251, Tryz.ntmps251
          go_wp2_with fail
          go_quiet (fail)
          go_wp2_with fail
          go_ret
          exact ⟨rfl, (below2 _ _ _).trans ⟨rfl, rfl, rfl, Nat.le_refl _, fun _ _ => rfl⟩⟩
  · rw [partErr_var h1]
    have h1' : (v != 0) = true := by simpa using h1
    clear h1
    go_enter Tryz.func251, Tryz.ntmps251
    go_wp2_with (go_at_call 284; refine (checkVar_any v f n a cap _).mono ?_; rintro e w' ⟨rfl, hbw⟩)
    go_ret
    exact ⟨rfl, (below2 _ _ _).trans (hbw.mono (by simp; omega))⟩
end Go.Proofs.YtbkedppkdhfpoabGreat

namespace Go.Proofs.YtbkedppkdhfpoabGreat
open Go.RowKit
theorem szL_take {ts : List T} {k : Nat} {t : T} (ht : ts[k]? = some t) : T.sz.szL (ts.take (k + 1)) = T.sz.szL (ts.take k) + 1 + T.sz.szL t.args ∧ T.sz.szL (ts.take k) + 1 + T.sz.szL t.args ≤ T.sz.szL ts := by
  have hlt : k < ts.length := by
    rcases Nat.lt_or_ge k ts.length with h | h
    · exact h
    · rw [List.getElem?_eq_none h] at ht; cases ht
  have e : ts.take (k + 1) = ts.take k ++ [t] := by
    rw [List.take_add_one, ht]; rfl
  have e1 : T.sz.szL (ts.take (k + 1)) = T.sz.szL (ts.take k) + 1 + T.sz.szL t.args := by
    rw [e, T.szL_append, T.szL_cons, T.szL_nil, T.sz_eq]; omega
  refine ⟨e1, ?_⟩
  have e2 : T.sz.szL ts = T.sz.szL (ts.take (k + 1)) + T.sz.szL (ts.drop (k + 1)) := by
    rw [← T.szL_append, List.take_append_drop]
  omega
set_option maxRecDepth 100000 in
set_option maxHeartbeats 400000 in
theorem size_any (N : Nat) : ∀ (ts : List T) (limit : Int) (a : Option Addr) (cap : Nat) (w : World), T.sz.szL ts < N → 0 ≤ limit → limit ≤ 1000 → InL w ts a →
    Calls Tryz.prog 229 #[.int .i64 limit, .slice a ts.length cap] w fun e w' => e = .returned (.int .i64 (min (T.sz.szL ts : Int) (limit + 1))) ∧ Below w.heap.size w w' := by
  induction N with
  | zero => intro ts limit a cap w hN; omega
  | succ N ih =>
    intro ts limit a cap w hN hl0 hl1 IH
    have Hih := hide ih
    clear ih
    go_enter Tryz.func229, Tryz.ntmps229
    go_wp2_with fail
    go_loopw [5, 10] (fun n i wr => ∃ k : Nat, k ≤ ts.length ∧ i = .int .i64 k ∧ n = .int .i64 (T.sz.szL (ts.take k)) ∧ (T.sz.szL (ts.take k) : Int) ≤ limit ∧ Below w.heap.size w wr) (fun _ i _ => ts.length - (intOf i).toNat)
    case atStart => exact ⟨0, Nat.zero_le _, rfl, rfl, by simpa [T.szL_nil] using hl0, Below.refl _ _⟩
    case round =>
      obtain ⟨k, hk, rfl, rfl, hle, hb⟩ := hrel
      by_cases hlt : k < ts.length
      · have hin' := InP_below hb IH
        obtain ⟨b, off, rfl⟩ := InP_some IH (by omega)
        have hk3 : k ≤ 1000 := by have := T.length_le (ts.take k); rw [List.length_take_of_le (by omega)] at this; omega
        obtain ⟨t, ht⟩ : ∃ t, ts[k]? = some t := ⟨ts[k], List.getElem?_eq_getElem hlt⟩
        obtain ⟨a1, cap1, _, c0, c1, c2, hin1⟩ := InP_at hin' ht
        obtain ⟨hs1, hs2⟩ := szL_take ht
        have Hs1 := hide hs1
        clear hs1 ht
        by_cases hgo : (T.sz.szL (ts.take k) : Int) + 1 ≤ limit
        · by_cases hmore : limit < (T.sz.szL (ts.take k) : Int) + 1 + T.sz.szL t.args
          · go_wp2_with fail
            refine (Hih.out t.args _ _ _ _ (by omega) (by omega) (by omega) (InP_alloc _ hin1)).mono ?_
            rintro e w' ⟨rfl, hbw⟩
            have hm : min (T.sz.szL t.args : Int) (limit - ((T.sz.szL (ts.take k) : Int) + 1) + 1) = limit - T.sz.szL (ts.take k) := by omega
            rw [hm]
            go_wp2_with fail
            go_ret
            exact ⟨ret_int (by omega), (hb.alloc hb.size _).trans (hbw.mono (by simp; have := hb.size; omega))⟩
          · go_wp2_with fail
            refine (Hih.out t.args _ _ _ _ (by omega) (by omega) (by omega) (InP_alloc _ hin1)).mono ?_
            rintro e w' ⟨rfl, hbw⟩
            have hm : min (T.sz.szL t.args : Int) (limit - ((T.sz.szL (ts.take k) : Int) + 1) + 1) = T.sz.szL t.args := by omega
            rw [hm]
            go_wp2_with fail
            go_roundw
            case rel => exact ⟨k + 1, by omega, by go_num, by rw [Hs1.out]; go_num, by rw [Hs1.out]; omega, (hb.alloc hb.size _).trans (hbw.mono (by simp; have := hb.size; omega))⟩
            case measure => simp [intOf]; omega
        · go_wp2_with fail
          go_ret
          exact ⟨ret_int (by omega), hb.alloc hb.size _⟩
      · go_wp2_with fail
        go_ret
        exact ⟨ret_int (by rw [show k = ts.length from by omega, List.take_length] at hle ⊢; omega), hb⟩
end Go.Proofs.YtbkedppkdhfpoabGreat

namespace Go.Proofs.YtbkedppkdhfpoabGreat
open Go.RowKit
structure Keeps (x : Nat) (F : Option Obj → Nat → Prop) (w w' : World) : Prop where
  os : w'.os = w.os
  tape : w'.tape = w.tape
  output : w'.output = w.output
  size : w.heap.size ≤ w'.heap.size
  block : ∀ k, k < w.heap.size → k ≠ x → ¬ F w.heap[x]? k → w'.heap[k]? = w.heap[k]?
  foot : ∀ k, F w'.heap[x]? k → F w.heap[x]? k ∨ (w.heap.size ≤ k ∧ k < w'.heap.size)
structure Foot (x B : Nat) (F : Option Obj → Nat → Prop) (w : World) : Prop where
  hx : x < w.heap.size
  hB : B ≤ w.heap.size
  rng : ∀ k, F w.heap[x]? k → B ≤ k ∧ k < w.heap.size
theorem Keeps.refl (x : Nat) (F : Option Obj → Nat → Prop) (w : World) : Keeps x F w w := ⟨rfl, rfl, rfl, Nat.le_refl _, fun _ _ _ _ => rfl, fun _ h => Or.inl h⟩
theorem Keeps.trans {x : Nat} {F : Option Obj → Nat → Prop} {a b c : World} (h : Keeps x F a b) (k : Keeps x F b c) : Keeps x F a c := by
  refine ⟨k.os.trans h.os, k.tape.trans h.tape, k.output.trans h.output, Nat.le_trans h.size k.size, fun i hi hix hF => ?_, fun i hF => ?_⟩
  · have h1 := h.size
    rw [k.block i (by omega) hix (fun hF' => ?_)]
    · exact h.block i hi hix hF
    · rcases h.foot i hF' with h2 | h2
      · exact hF h2
      · omega
  · have h1 := h.size
    have h3 := k.size
    rcases k.foot i hF with h2 | h2
    · rcases h.foot i h2 with h4 | h4
      · exact Or.inl h4
      · exact Or.inr ⟨h4.1, by omega⟩
    · exact Or.inr ⟨by omega, h2.2⟩
theorem Keeps.alloc {x : Nat} {F : Option Obj → Nat → Prop} {a w : World} (h : Keeps x F a w) (hx : x < a.heap.size) (o : Obj) : Keeps x F a (w.alloc o) := by
  refine h.trans ⟨rfl, rfl, rfl, by simp, fun k hk _ _ => Below.heap_alloc _ _ _ hk, fun k hF => Or.inl ?_⟩
  have := h.size
  rwa [Below.heap_alloc _ _ _ (by omega)] at hF
theorem Foot.keeps {x B : Nat} {F : Option Obj → Nat → Prop} {w w' : World} (hf : Foot x B F w) (h : Keeps x F w w') : Foot x B F w' := by
  have h1 := h.size
  have h2 := hf.hB
  refine ⟨by have := hf.hx; omega, by omega, fun k hk => ?_⟩
  rcases h.foot k hk with h3 | h3
  · have := hf.rng k h3; omega
  · omega
theorem Foot.alloc {x B : Nat} {F : Option Obj → Nat → Prop} {w : World} (hf : Foot x B F w) (o : Obj) : Foot x B F (w.alloc o) :=
  hf.keeps ((Keeps.refl _ _ _).alloc hf.hx o)
theorem InP_keeps {x B : Nat} {F : Option Obj → Nat → Prop} {w w' : World} {ts : List T} {a : Option Addr} (hf : Foot x B F w) (h : Keeps x F w w') (hi : InP (fun k => k < B ∧ k ≠ x) w ts a) : InP (fun k => k < B ∧ k ≠ x) w' ts a :=
  InP_same (fun k hp hk => h.block k hk hp.2 (fun hF => by have := hf.rng k hF; omega)) hi
set_option maxRecDepth 100000 in
set_option maxHeartbeats 400000 in
theorem look_any {S : Type} (step : S → T → S × Bool) (K : Nat) (caps : Array Value) (x B : Nat) (F : Option Obj → Nat → Prop) (Inv : World → S → Prop)
    (eg : ∀ args w, (callFunc K args).run Tryz.prog w = .ok (.enter K args) w)
    (mu : S → Nat) (L : Nat) (hmu : ∀ s t, mu (step s t).1 ≤ mu s + 1)
    (ha : ∀ w s o, Foot x B F w → Inv w s → Inv (w.alloc o) s)
    (hc : ∀ w s (t : T) a cap, mu s < L → Foot x B F w → Inv w s → Calls Tryz.prog K (#[.agg #[.int .i64 t.v, .int .i64 t.f, .slice a t.args.length cap]] ++ caps) w fun e w' => e = .returned (.bool (step s t).2) ∧ Inv w' (step s t).1 ∧ Keeps x F w w')
    (N : Nat) : ∀ ts a cap w s, T.sz.szL ts < N → T.sz.szL ts ≤ 1000 → mu s + T.sz.szL ts ≤ L → Foot x B F w → InP (fun k => k < B ∧ k ≠ x) w ts a → Inv w s →
    Calls Tryz.prog 167 #[.func (.func K) #[] caps, .slice a ts.length cap] w fun e w' => e = .returned (.bool (lookT.lookL step s ts).2) ∧ Inv w' (lookT.lookL step s ts).1 ∧ Keeps x F w w' := by
  induction N with
  | zero => intro ts a cap w s hN; omega
  | succ N ih =>
    intro ts a cap w s hN h1000 hL hf hin hinv
    have Hih := hide ih
    have Hc := hide hc
    have Ha := hide ha
    clear ih hc ha
    go_enter Tryz.func167, Tryz.ntmps167
    go_wp2_with fail
    go_loopw [9] (fun i wr => ∃ k : Nat, ∃ sk : S, k ≤ ts.length ∧ i = .int .i64 k ∧ Inv wr sk ∧ Hid (lookT.lookL step s (ts.take k) = (sk, true)) ∧ Keeps x F w wr) (fun i _ => ts.length - (intOf i).toNat)
    case atStart => exact ⟨0, s, Nat.zero_le _, rfl, hinv, rfl, Keeps.refl _ _ _⟩
    case round =>
      obtain ⟨k, sk, hk, rfl, hsk, HL, hkeep⟩ := hrel
      by_cases hlt : k < ts.length
      · have hin' := InP_keeps hf hkeep hin
        have hf' := hf.keeps hkeep
        obtain ⟨b, off, rfl⟩ := InP_some hin (by omega)
        obtain ⟨t, ht⟩ : ∃ t, ts[k]? = some t := ⟨ts[k], List.getElem?_eq_getElem hlt⟩
        obtain ⟨a1, cap1, hpb, c0, c1, c2, hin1⟩ := InP_at hin' ht
        obtain ⟨hs1, hs2⟩ := szL_take ht
        have Hst := hide (fun s2 => lookL_step (step := step) (s := s) (s2 := s2) ht HL.out)
        have HT := hide (lookT_eq step sk t)
        have hfx := hf'.hx
        have hmk : mu sk ≤ mu s + T.sz.szL (ts.take k) := by have := (look_mu hmu _).2 (ts.take k) s (Nat.le_refl _); rw [HL.out] at this; exact this
        have Hm := hide ((look_mu hmu _).2 t.args sk (Nat.le_refl _))
        have hk3 : k ≤ 1000 := by have := T.length_le ts; omega
        clear ht
        go_wp2_with fail
        refine (Hih.out t.args _ _ _ sk (by omega) (by omega) (by omega) (hf'.alloc _) (InP_alloc _ hin1) (Ha.out _ _ _ hf' hsk)).mono ?_
        rintro e w' ⟨rfl, hinv1, hkeep1⟩
        have hf1 := (hf'.alloc _).keeps hkeep1
        have hbl := hkeep1.block wr.heap.size (by simp) (by omega) (fun hF => by rw [Below.heap_alloc _ _ _ hf'.hx] at hF; have := hf'.rng _ hF; omega)
        have hsz1 := hkeep1.size
        have hsz0 := hkeep.size
        have hcell : ∀ j, w'.cell? ⟨wr.heap.size, j, none⟩ = #[Value.int IntKind.i64 t.v, Value.int IntKind.i64 t.f, Value.slice a1 t.args.length cap1][j]? := fun j => by
          rw [World.cell?_of_block (w := wr.alloc _) (a := ⟨wr.heap.size, j, none⟩) hbl]
          exact World.cell?_alloc_mark _ _ _ _ _
        have d0 := hcell 0
        have d1 := hcell 1
        have d2 := hcell 2
        simp only [List.getElem?_toArray, List.getElem?_cons_zero, List.getElem?_cons_succ] at d0 d1 d2
        have hk1 : Keeps x F w w' := ((hkeep.alloc hf.hx _).trans hkeep1)
        clear hbl hcell hkeep1 hkeep hin1 hin' hin c0 c1 c2
        have hm2 : mu (lookT.lookL step sk t.args).1 < L := by have := Hm.out; omega
        clear Hm
        generalize hr : lookT.lookL step sk t.args = r at *
        obtain ⟨s1, b1⟩ := r
        have Hr := hide hr
        clear hr
        simp only at hinv1 hm2
        cases b1 with
        | false =>
          have hT : lookT step sk t = (s1, false) := by rw [HT.out]; rfl
          have hfin := (Hst.out s1).2 hT
          have Hfin := hide hfin
          clear hfin hT HT Hst
          go_wp2_with fail
          go_ret
          rw [Hfin.out]
          exact ⟨rfl, hinv1, hk1⟩
        | true =>
          have hT : lookT step sk t = step s1 t := by rw [HT.out]; rfl
          have HT1 := hide hT
          clear hT HT
          go_wp2_with fail
          refine (Hc.out w' s1 t a1 cap1 hm2 hf1 hinv1).mono ?_
          rintro e w2 ⟨rfl, hinv2, hkeep2⟩
          have hk2 := hk1.trans hkeep2
          clear hkeep2 hk1 hinv1 d0 d1 d2
          generalize hr2 : step s1 t = r2 at *
          obtain ⟨s2, b2⟩ := r2
          have Hst2 := Hst.out s2
          rw [HT1.out] at Hst2
          have Hst2 := hide Hst2
          clear hr2 Hst HT1
          simp only at hinv2
          cases b2 with
          | false =>
            have hfin := hide (Hst2.out.2 rfl)
            go_wp2_with fail
            go_ret
            rw [hfin.out]
            exact ⟨rfl, hinv2, hk2⟩
          | true =>
            have hgo := hide (Hst2.out.1 rfl)
            clear Hst2
            go_wp2_with fail
            go_roundw
            case rel => exact ⟨k + 1, s2, by omega, by go_num, hinv2, hgo, hk2⟩
            case measure => simp [intOf]; omega
      · go_wp2_with fail
        go_ret
        have hk2 : k = ts.length := by omega
        subst hk2
        rw [List.take_length] at HL
        rw [HL.out]
        exact ⟨rfl, hsk, hkeep⟩
end Go.Proofs.YtbkedppkdhfpoabGreat

namespace Go.Proofs.YtbkedppkdhfpoabGreat
open Go.RowKit
theorem KpZ.cell {Z : Nat → Prop} {A B : World} (h : KpZ Z A B) {b o : Nat} {v : Value} (hz : ¬ Z b) (hc : A.cell? ⟨b, o, none⟩ = some v) : B.cell? ⟨b, o, none⟩ = some v := by
  have hlt : b < A.heap.size := by
    cases hh : A.heap[b]? with
    | none => simp [World.cell?, hh] at hc
    | some o => exact (Array.getElem?_eq_some_iff.1 hh).1
  rw [World.cell?_of_block (w := A) (a := ⟨b, o, none⟩) (h.block b hlt hz)]
  exact hc
def inf00 : Value := .agg #[.int .i64 0, .int .i64 0, .int .i64 0, .int .i64 0, .int .i64 0, .bool false, .bool false, .slice none 0 0]
attribute [local go_sem] Oper.semAt_some
set_option maxRecDepth 100000 in
set_option maxHeartbeats 1000000 in
theorem twos_itr (b1 b2 n1 n2 c1 c2 : Nat) (w0 : World) (Z : Nat → Prop) (hz1 : ¬ Z b1) (hz2 : ¬ Z b2) (hz3 : ¬ Z n1) (hz4 : ¬ Z n2)
    (h1 : w0.cell? ⟨b1, 0, none⟩ = some (.slice (some ⟨n1, 0, none⟩) 1 c1)) (h2 : w0.cell? ⟨b2, 0, none⟩ = some (.slice (some ⟨n2, 0, none⟩) 1 c2))
    (h3 : w0.cell? ⟨n1, 0, none⟩ = some (.int .i64 0)) (h4 : w0.cell? ⟨n1, 1, none⟩ = some (.bool false)) (h5 : w0.cell? ⟨n2, 0, none⟩ = some (.int .i64 0)) (h6 : w0.cell? ⟨n2, 1, none⟩ = some (.bool false)) :
    Itr Tryz.prog 187 #[.pointer (some ⟨b1, 0, none⟩), .pointer (some ⟨b2, 0, none⟩)] (fun _ : Unit => #[inf00]) (fun pre _ _ => pre = []) (fun xs => xs = [()]) Z w0 := by
  intro l J W hK hZW hJB hY h0
  have hJ : ∀ pre A B, W.heap.size ≤ A.heap.size → J pre A → A.grownBy B none → J pre B := fun pre A B hs h hg => hJB pre A B h (grown_below hg hs)
  have k1 := hK.cell hz1 h1
  have k2 := hK.cell hz2 h2
  have k3 := hK.cell hz3 h3
  have k4 := hK.cell hz3 h4
  have k5 := hK.cell hz4 h5
  have k6 := hK.cell hz4 h6
  show CallsIn Fence.wide 0 Tryz.prog 187 #[.func (.yield l) #[] #[], .pointer (some ⟨b1, 0, none⟩), .pointer (some ⟨b2, 0, none⟩)] W _
  refine callsIn_of_wp Tryz.func187 rfl trivial ?_ rfl
  simp only [Tryz.ntmps187, List.size_toArray, List.length_cons, List.length_nil, Nat.reduceAdd, Nat.reduceSub, Array.replicate_succ, Array.replicate_zero, List.push_toArray, List.append_toArray, List.nil_append, List.cons_append]
  have hN1 : ¬ Z W.heap.size := fun h => Nat.lt_irrefl _ (hZW _ h)
  gi_wp2
  gi_loopw [10] (fun i wr => (i = .int .i64 0 ∧ wr = W) ∨ (i = .int .i64 1 ∧ J [()] wr ∧ KpZ Z W wr)) (fun i _ => 1 - (intOf i).toNat)
  case atStart => exact Or.inl ⟨rfl, rfl⟩
  case round =>
    rcases hrel with ⟨rfl, rfl⟩ | ⟨rfl, hJ1, hK1⟩
    · have hg2 : World.grownBy wr (wr.alloc (.cells #[.int .i64 0, .bool false] 232)) none := World.grownBy_alloc _ _ none
      have hK2 : KpZ Z wr (wr.alloc (.cells #[.int .i64 0, .bool false] 232)) := KpZ.alloc _ _
      obtain ⟨W2, hW2⟩ : ∃ W2, W2 = wr.alloc (.cells #[.int .i64 0, .bool false] 232) := ⟨_, rfl⟩
      rw [← hW2] at hg2 hK2
      have m2 := hK2.cell hz2 k2
      have m5 := hK2.cell hz4 k5
      have m6 := hK2.cell hz4 k6
      have p0 : W2.cell? ⟨wr.heap.size, 0, none⟩ = some (.int .i64 0) := by rw [hW2]; exact World.cell?_alloc_mark wr _ _ _ 0
      have p1 : W2.cell? ⟨wr.heap.size, 1, none⟩ = some (.bool false) := by rw [hW2]; exact World.cell?_alloc_mark wr _ _ _ 1
      have hs2 : W2.heap.size = wr.heap.size + 1 := by rw [hW2]; simp
      have hJ2 := hJ [] _ _ (Nat.le_refl _) h0 hg2
      have q2 := m2
      rw [hW2] at q2
      have Hs2 := hide hs2
      have HW2 := hide hW2
      clear hW2 hs2 hg2
      gi_wp2
      rw [← HW2.out]
      clear q2
      obtain ⟨wo, rfl⟩ : ∃ wo, wo = wr := ⟨_, rfl⟩
      gi_loopw [16] (fun i wr => (i = .int .i64 0 ∧ wr = W2) ∨ (i = .int .i64 1 ∧ J [()] wr ∧ KpZ Z wo wr)) (fun i _ => 1 - (intOf i).toNat)
      case atStart => exact Or.inl ⟨rfl, rfl⟩
      case round =>
        rcases hrel with ⟨rfl, rfl⟩ | ⟨rfl, hJ1, hK1⟩
        · obtain ⟨W3, hW3⟩ : ∃ W3, W3 = wr.alloc (.cells #[.int .i64 0, .bool false] 232) := ⟨_, rfl⟩
          have hg3 : wr.grownBy W3 none := by rw [hW3]; exact World.grownBy_alloc _ _ none
          have hK3 : KpZ (fun _ => False) wr W3 := by rw [hW3]; exact KpZ.alloc _ _
          have s0 := hK3.cell (fun h => h) p0
          have s1 := hK3.cell (fun h => h) p1
          have t0 : W3.cell? ⟨wr.heap.size, 0, none⟩ = some (.int .i64 0) := by rw [hW3]; exact World.cell?_alloc_mark wr _ _ _ 0
          have t1 : W3.cell? ⟨wr.heap.size, 1, none⟩ = some (.bool false) := by rw [hW3]; exact World.cell?_alloc_mark wr _ _ _ 1
          obtain ⟨fn, tmps, assign, body, hy, hR⟩ := hY [] () W3 (hJ [] _ _ hK2.below.size hJ2 hg3) rfl
          dsimp only [inf00] at hy
          have HR := hide hR
          have HK3 := hide (hK2.trans (hK3.mono (Z' := Z) (fun _ h => h.elim)))
          have HW3 := hide hW3
          rw [hW3] at hy s0 s1 t0 t1
          clear hW3 hg3 hK3 hR
          gi_wp2
          rw [← HW3.out]
          refine ⟨rfl, HR.out.mono ?_⟩
          rintro e B ⟨rfl, hJB, hKB⟩
          gi_wp2
          go_roundw
          case rel => exact Or.inr ⟨rfl, hJB, HK3.out.trans hKB⟩
          case measure => simp [intOf]
        · gi_wp2
          go_roundw
          case rel => exact Or.inr ⟨rfl, hJ1, hK1⟩
          case measure => simp [intOf]
    · gi_wp2
      go_end0
      exact ⟨⟨_, rfl⟩, _, rfl, hJ1, hK1⟩
end Go.Proofs.YtbkedppkdhfpoabGreat
