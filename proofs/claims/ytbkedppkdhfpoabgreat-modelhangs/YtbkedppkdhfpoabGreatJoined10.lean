/- Appending to the unifier's parts; the state while a term's parts are added, and what may change. What lies there while a term's parts are added to the unifier, and what is added. What a term is, by the program. DERIVED: THE SHELF's CONTRACTS AT THIS DUMP, IN PLAIN WORDS (tools/lay-plain.mjs out of 'TryzSorted.lean', which tools/lay-shelf.mjs wrote): THE SAME DECLARATIONS UNDER THE SAME NAMES: 'import', 'namespace', 'open', 'def', 'theorem' AND NOTHING ELSE: no command of the shelf's: FOR A HAND-IN. Each laying: the table of numbers ('.._ren') and one theorem, a field a fact of the dump's own or the kernel's comparison; each contract: ONE APPLICATION. The keys of a map, sorted. Variables that are numbered anew, in a term of the program's own. -/
import Derived.Deep.AppendLies
import Derived.Deep.DeepCutAuto
import Derived.Deep.RegionHeld3
import Derived.Ground.GgzProg
import Derived.Laws.AppendOwnNone
import Derived.Maps.AppendAt
import Derived.Shelf.SlIterI.Nil
import Derived.Test.YtbkedppkdhfpoabGreatProg
import Derived.Test.YtbkedppkdhfpoabGreatJoined9
namespace Go.Proofs.YtbkedppkdhfpoabGreat
open Go.RowKit

theorem Tryz.info326 : (Tryz.prog.info? 326).map (fun i => (i.zero, i.size, i.bytes)) = some (some (.agg #[.int .i64 0, .int .i64 0, .slice none 0 0, .slice none 0 0, .int .i64 0, .int .i64 0]), 6, 80) := by kernel_rfl
theorem Tryz.underlying296 : Tryz.prog.underlying 296 = some (.slice 326) := by kernel_rfl
/-- What is appended: nothing, or the cells that lie at an address. -/
def SrcU (w : World) (x : Value) (m : Nat) (news : List Value) : Prop :=
  (x = .slice none 0 0 ∧ m = 0 ∧ news = []) ∨ ∃ b off c, x = .slice (some ⟨b, off, none⟩) m c ∧ news.length = m * 6 ∧ (∀ j u, news[j]? = some u → w.cell? ⟨b, off + j, none⟩ = some u) ∧ ∀ u, u ∈ news → u.oneCell' = true
theorem run_append_u {w : World} {base n m : Nat} {v x : Value} {xs news : List Value} (ty : TypeId) (hown : w.ownsRow base 326 6 v n xs) (hx : SrcU w x m news) (hl : n + m ≤ 200000) (hbase : base ≤ w.heap.size) :
    ∃ v' w', (Builtin.append_ #[296, 296] ty #[v, x]).run Tryz.prog w = .ok v' w' ∧ w'.ownsRow base 326 6 v' (n + m) (xs ++ news) ∧ w.grownBy w' v.ownBlock ∧ (v'.ownBlock = v.ownBlock ∨ v'.ownBlock = some w.heap.size) := by
  obtain ⟨i, hi, hzz⟩ := Option.map_eq_some_iff.1 Tryz.info326
  simp only [Prod.mk.injEq] at hzz
  obtain ⟨hz0, hz1, hz2⟩ := hzz
  rcases hx with ⟨rfl, rfl, rfl⟩ | ⟨b, off, c, rfl, hl2, hc, h1⟩
  · rw [List.append_nil]
    exact ⟨v, w, run_append_owned_none (P := Tryz.prog) w base 296 ty 326 i 6 Tryz.underlying296 hi _ _ _ hown, hown, ⟨rfl, rfl, rfl, Nat.le_refl _, fun _ _ _ => rfl⟩, Or.inl rfl⟩
  · obtain ⟨v', w', hr, h2, h3, _, h5⟩ := run_append_own_at (P := Tryz.prog) w base 296 ty 326 i (.agg #[.int .i64 0, .int .i64 0, .slice none 0 0, .slice none 0 0, .int .i64 0, .int .i64 0]) 6 80 Tryz.underlying296 hi hz0 hz1 hz2 rfl (by decide) v n xs hown ⟨b, off, none⟩ m c news hl2 (fun j u hu => by
        have e : (⟨b, off, none⟩ : Addr).add j = ⟨b, off + j, none⟩ := by simp [Addr.add]
        rw [e]; exact hc j u hu) h1 (by unfold maxLen; omega) (by omega) hbase
    exact ⟨v', w', hr, h2, h3, h5⟩
theorem wp_append_u {w : World} {o : Oper} {a : Act} {K : Act → World → Prop} {Q : Exit → Act → World → Prop} (s x : Operand) (ho : o.op = .call { callee := .builtin .append, args := #[s, x], argTypes := #[296, 296] })
    (base n m : Nat) (v : Value) (xs news : List Value) (hs : a.eval s = v) (hown : w.ownsRow base 326 6 v n xs) (xv : Value) (hx : a.eval x = xv) (hsrc : SrcU w xv m news) (hl : n + m ≤ 200000) (hbase : base ≤ w.heap.size)
    (h : ∀ v' w', w'.ownsRow base 326 6 v' (n + m) (xs ++ news) → w.grownBy w' v.ownBlock → (v'.ownBlock = v.ownBlock ∨ v'.ownBlock = some w.heap.size) → K (a.put o.dst v') w') : o.wp Tryz.prog a w K Q := by
  obtain ⟨v', w', hr, h2, h3, h4⟩ := run_append_u o.type hown hsrc hl hbase
  unfold Oper.wp execOp
  simp only [ho, resolve, invoke, builtin, Sem.run_bind, Sem.run_pure, Result.andThen_ok, List.map_toArray, List.map_cons, List.map_nil, hs, hx, hr]
  exact h v' w' h2 h3 h4
theorem step_append_u {w : World} {ops : Array Oper} {o : Oper} {a : Act} {K : Act → World → Prop} {Q : Exit → Act → World → Prop} {E : Prop} (hgd : o.guard = none) (s x : Operand) (ho : o.op = .call { callee := .builtin .append, args := #[s, x], argTypes := #[296, 296] })
    (base n m : Nat) (v : Value) (xs news : List Value) (hs : a.eval s = v) (hown : w.ownsRow base 326 6 v n xs) (xv : Value) (hx : a.eval x = xv) (hsrc : SrcU w xv m news) (hl : n + m ≤ 200000) (hbase : base ≤ w.heap.size)
    (h : ∀ v' w', w'.ownsRow base 326 6 v' (n + m) (xs ++ news) → w.grownBy w' v.ownBlock → (v'.ownBlock = v.ownBlock ∨ v'.ownBlock = some w.heap.size) → K (a.put o.dst v') w') :
    if Region.wanted o (yielded ops a.tmps) = true then Oper.wp Tryz.prog o a w K Q else E := by
  have hw : Region.wanted o (yielded ops a.tmps) = true := by simp [Region.wanted, hgd]
  rw [if_pos hw]
  exact wp_append_u s x ho base n m v xs news hs hown xv hx hsrc hl hbase h


/-- Of what was there only the unifier's own three blocks have changed. -/
structure AF (u mb : Nat) (w : World) (l : Value) (w' : World) (l' : Value) : Prop where
  os : w'.os = w.os
  tape : w'.tape = w.tape
  output : w'.output = w.output
  size : w.heap.size ≤ w'.heap.size
  block : ∀ k, k < w.heap.size → k ≠ u → k ≠ mb → l.ownBlock ≠ some k → w'.heap[k]? = w.heap[k]?
  row : l'.ownBlock = l.ownBlock ∨ ∃ g, l'.ownBlock = some g ∧ w.heap.size ≤ g
theorem AF.refl (u mb : Nat) (w : World) (l : Value) : AF u mb w l w l := ⟨rfl, rfl, rfl, Nat.le_refl _, fun _ _ _ _ _ => rfl, Or.inl rfl⟩
theorem AF.trans {u mb : Nat} {w w' w'' : World} {l l' l'' : Value} (h : AF u mb w l w' l') (h' : AF u mb w' l' w'' l'') : AF u mb w l w'' l'' := by
  have hs := h.size
  refine ⟨h'.os.trans h.os, h'.tape.trans h.tape, h'.output.trans h.output, Nat.le_trans hs h'.size, fun k hk h1 h2 h3 => ?_, ?_⟩
  · rw [h'.block k (by omega) h1 h2 (fun e => ?_), h.block k hk h1 h2 h3]
    rcases h.row with h4 | ⟨g, h4, h5⟩
    · exact h3 (h4.symm.trans e)
    · rw [h4] at e; cases e; omega
  · rcases h'.row with h4 | ⟨g, h4, h5⟩
    · rcases h.row with h6 | ⟨g, h6, h7⟩
      · exact Or.inl (h4.trans h6)
      · exact Or.inr ⟨g, h4.trans h6, h7⟩
    · exact Or.inr ⟨g, h4, by omega⟩
theorem AF.of_below {u mb : Nat} {w w' : World} {l : Value} (h : Below w.heap.size w w') : AF u mb w l w' l := ⟨h.os, h.tape, h.output, h.size, fun k hk _ _ _ => h.block k hk, Or.inl rfl⟩
theorem AF.below {u mb lo : Nat} {w w' : World} {l l' : Value} (h : AF u mb w l w' l') (hlo : lo ≤ w.heap.size) (hu : lo ≤ u) (hm : lo ≤ mb) (hr : ∀ g, l.ownBlock = some g → lo ≤ g) : Below lo w w' :=
  ⟨h.os, h.tape, h.output, h.size, fun k hk => h.block k (by omega) (by omega) (by omega) (fun e => by have := hr k e; omega)⟩
end Go.Proofs.YtbkedppkdhfpoabGreat

namespace Go.Proofs.YtbkedppkdhfpoabGreat
open Go.RowKit Go.Maps

theorem Tryz.under99 : Tryz.prog.underlying 106 = some (.map 3 3) := by kernel_rfl
theorem Tryz.zeroI (w : World) : (zeroValue 3).run Tryz.prog w = .ok (.int .i64 0) w := by kernel_rfl
theorem okP_le {ar : List Int} {t : T} (h : okP ar t) : 0 ≤ t.v ∧ t.v ≤ 1000 := by
  have h1 := (okP_iff.1 h).1
  rw [partErr] at h1
  by_cases hv : t.v = 0
  · omega
  · rw [if_pos hv] at h1
    by_cases h2 : t.v < 1 ∨ 1000 < t.v
    · rw [if_pos h2] at h1; cases h1
    · omega

theorem addT_known {t : T} {s : List Pt × List (Int × Nat)} {n : Nat} (h : lookN s.2 t.v = some n) : addT t s = (n, s) := by
  obtain ⟨v, f, args⟩ := t
  rw [addT, h]
theorem addT_new {t : T} {s : List Pt × List (Int × Nat)} (h : lookN s.2 t.v = none) : addT t s = ((addT.addL t.args s).2.1.length, (addT.addL t.args s).2.1 ++ [⟨t.v, t.f, (addT.addL t.args s).1, (addT.addL t.args s).2.1.length, 0⟩], if t.v = 0 then (addT.addL t.args s).2.2 else (t.v, (addT.addL t.args s).2.1.length) :: (addT.addL t.args s).2.2) := by
  obtain ⟨v, f, args⟩ := t
  rw [addT, h]
theorem addL_snoc (x : T) : ∀ (ts : List T) (s : List Pt × List (Int × Nat)), addT.addL (ts ++ [x]) s = ((addT.addL ts s).1 ++ [(addT x (addT.addL ts s).2).1], (addT x (addT.addL ts s).2).2) := by
  intro ts
  induction ts with
  | nil => intro s; rfl
  | cons t ts ih =>
    intro s
    show ((addT t s).1 :: (addT.addL (ts ++ [x]) (addT t s).2).1, (addT.addL (ts ++ [x]) (addT t s).2).2) = _
    rw [ih]; rfl
theorem addL_step {ts : List T} {k : Nat} {x : T} (h : ts[k]? = some x) (s : List Pt × List (Int × Nat)) : addT.addL (ts.take (k + 1)) s = ((addT.addL (ts.take k) s).1 ++ [(addT x (addT.addL (ts.take k) s).2).1], (addT x (addT.addL (ts.take k) s).2).2) := by
  rw [List.take_add_one, h]; exact addL_snoc x _ s
theorem addL_length : ∀ (ts : List T) (s : List Pt × List (Int × Nat)), (addT.addL ts s).1.length = ts.length := by
  intro ts
  induction ts with
  | nil => intro s; rfl
  | cons t ts ih => intro s; show (_ :: (addT.addL ts (addT t s).2).1).length = _; rw [List.length_cons, ih, List.length_cons]
theorem add_size : ∀ (n : Nat), (∀ (t : T) (s : List Pt × List (Int × Nat)), t.sz ≤ n → (addT t s).2.1.length ≤ s.1.length + t.sz ∧ (addT t s).2.2.length ≤ s.2.length + t.sz) ∧
    (∀ (ts : List T) (s : List Pt × List (Int × Nat)), T.sz.szL ts ≤ n → (addT.addL ts s).2.1.length ≤ s.1.length + T.sz.szL ts ∧ (addT.addL ts s).2.2.length ≤ s.2.length + T.sz.szL ts) := by
  intro n
  induction n with
  | zero =>
    refine ⟨fun t s h => by have := t.sz_pos; omega, fun ts s h => ?_⟩
    cases ts with
    | nil => exact ⟨Nat.le_add_right _ _, Nat.le_add_right _ _⟩
    | cons t ts => have := t.sz_pos; rw [T.szL_cons] at h; omega
  | succ n ih =>
    have h1 : ∀ (t : T) (s : List Pt × List (Int × Nat)), t.sz ≤ n + 1 → (addT t s).2.1.length ≤ s.1.length + t.sz ∧ (addT t s).2.2.length ≤ s.2.length + t.sz := fun t s h => by
      have he := T.sz_eq t
      cases hlk : lookN s.2 t.v with
      | some m => rw [addT_known hlk]; exact ⟨Nat.le_add_right _ _, Nat.le_add_right _ _⟩
      | none =>
        rw [addT_new hlk]
        have h9 := ih.2 t.args s (by omega)
        refine ⟨by rw [List.length_append, List.length_singleton]; omega, ?_⟩
        show (if t.v = 0 then _ else _ : List (Int × Nat)).length ≤ _
        split
        · omega
        · rw [List.length_cons]; omega
    refine ⟨h1, fun ts => ?_⟩
    induction ts with
    | nil => intro s _; exact ⟨Nat.le_add_right _ _, Nat.le_add_right _ _⟩
    | cons t ts iht =>
      intro s h
      rw [T.szL_cons] at h ⊢
      have h2 := h1 t s (by omega)
      have h3 := iht (addT t s).2 (by omega)
      show (addT.addL ts (addT t s).2).2.1.length ≤ _ ∧ (addT.addL ts (addT t s).2).2.2.length ≤ _
      omega

/-- A list of the call's own that holds these parts; the numbers behind them lie in blocks of which c holds. -/
def OutsX (c : Nat → Prop) (base : Nat) (w : World) (l : Value) (P : List Pt) : Prop :=
  ∃ xs, w.ownsRow base 326 6 l P.length xs ∧ KidsU (fun k => c k ∧ l.ownBlock ≠ some k) w P xs
theorem OutsX.row {c : Nat → Prop} {base : Nat} {w : World} {l : Value} {P : List Pt} (h : OutsX c base w l P) : ∀ g, l.ownBlock = some g → base ≤ g ∧ g < w.heap.size := by
  obtain ⟨xs, h1, _⟩ := h
  exact own_lt h1
theorem OutsX.mono {c c2 : Nat → Prop} {base : Nat} {w w' : World} {l : Value} {P : List Pt} (h : OutsX c base w l P) (hk : ∀ k, c k → l.ownBlock ≠ some k → k < w.heap.size → c2 k ∧ w'.heap[k]? = w.heap[k]?) (hr : ∀ g, l.ownBlock = some g → w'.heap[g]? = w.heap[g]?) : OutsX c2 base w' l P := by
  obtain ⟨xs, h1, h2⟩ := h
  exact ⟨xs, own_same h1 hr, KidsU_mono (fun k hk' hlt => ⟨⟨(hk k hk'.1 hk'.2 hlt).1, hk'.2⟩, (hk k hk'.1 hk'.2 hlt).2⟩) h2⟩
theorem OutsX_step {c : Nat → Prop} {base : Nat} {w w' : World} {l l' : Value} {P : List Pt} {x : Pt} {xs : List Value} {ta : Option Addr} {tl tc : Nat} {aa : Option Addr} {ac : Nat} (hk : KidsU (fun k => c k ∧ l.ownBlock ≠ some k) w P xs)
    (hc : NumsQ (fun k => c k ∧ l.ownBlock ≠ some k) w x.args aa)
    (hown : w'.ownsRow base 326 6 l' (P.length + 1) (xs ++ [.int .i64 x.v, .int .i64 x.f, .slice ta tl tc, .slice aa x.args.length ac, .int .i64 (x.like : Int), .int .i64 x.size])) (hg : w.grownBy w' l.ownBlock) (hat : l'.ownBlock = l.ownBlock ∨ l'.ownBlock = some w.heap.size) :
    OutsX c base w' l' (P ++ [x]) := by
  refine ⟨_, by rw [List.length_append]; exact hown, KidsU_mono (p := fun k => c k ∧ l.ownBlock ≠ some k) (w := w) (fun k hp hlt => ⟨⟨hp.1, ?_⟩, hg.block k hlt (fun e => hp.2 e.symm)⟩) (KidsU_append hk ⟨ta, tl, tc, aa, ac, [], rfl, hc, rfl⟩)⟩
  rcases hat with hat | hat
  · rw [hat]; exact hp.2
  · rw [hat]; intro e; cases e; omega

/-- The unifier while parts are added: its list l, its map in block mb. -/
structure AX (c : Nat → Prop) (base u mb : Nat) (w : World) (l : Value) (s : List Pt × List (Int × Nat)) : Prop where
  list : w.cell? ⟨u, 0, none⟩ = some l
  map : w.cell? ⟨u, 1, none⟩ = some (.map (some mb))
  outs : OutsX c base w l s.1
  mp : MapAt w mb s.2.length (fun v => (lookN s.2 v).map (fun n : Nat => Value.int .i64 (n : Int)))
  fru : ∀ k, w.frozen? ⟨u, k, none⟩ = false
  ub : u < base
  mbb : mb < base
  ne : u ≠ mb
theorem AX.mono {c c2 : Nat → Prop} {base u mb : Nat} {w w' : World} {l : Value} {s : List Pt × List (Int × Nat)} (h : AX c base u mb w l s) (hk : ∀ k, c k → l.ownBlock ≠ some k → k < w.heap.size → c2 k ∧ w'.heap[k]? = w.heap[k]?) (hr : ∀ g, l.ownBlock = some g → w'.heap[g]? = w.heap[g]?)
    (hu : w'.heap[u]? = w.heap[u]?) (hm : w'.heap[mb]? = w.heap[mb]?) : AX c2 base u mb w' l s :=
  ⟨(World.cell?_of_block (w := w) (a := ⟨u, 0, none⟩) hu).trans h.list, (World.cell?_of_block (w := w) (a := ⟨u, 1, none⟩) hu).trans h.map, h.outs.mono hk hr, h.mp.same hm, fun k => (World.frozen?_of_block (w := w) (a := ⟨u, k, none⟩) hu).trans (h.fru k), h.ub, h.mbb, h.ne⟩
theorem AX.below {c : Nat → Prop} {base u mb : Nat} {w w' : World} {l : Value} {s : List Pt × List (Int × Nat)} (h : AX c base u mb w l s) (hb : Below w.heap.size w w') : AX c base u mb w' l s :=
  h.mono (fun k hc _ hlt => ⟨hc, hb.block k hlt⟩) (fun g hg => hb.block g (h.outs.row g hg).2) (hb.block u (lt_of_cell h.list)) (hb.block mb h.mp.lt)
/-- One more block that is not the unifier's has changed. -/
theorem AF.grown {u mb : Nat} {w w' w'' : World} {l l' : Value} {r : Option Nat} (h : AF u mb w l w' l') (hg : w'.grownBy w'' r) (hr : ∀ g, r = some g → w.heap.size ≤ g) : AF u mb w l w'' l' :=
  ⟨hg.os.trans h.os, hg.tape.trans h.tape, hg.output.trans h.output, Nat.le_trans h.size hg.size, fun k hk h1 h2 h3 => by
    rw [hg.block k (Nat.lt_of_lt_of_le hk h.size) (fun e => by have := hr k e.symm; omega)]; exact h.block k hk h1 h2 h3, h.row⟩

/-- The numbers of a list of the call's own. -/
theorem numsQ_own {q : Nat → Prop} {B : Nat} {w : World} {lr : Value} {ns : List Nat} (h : OwnI B w lr (ns.map (fun n : Nat => (n : Int)))) (hq : ∀ g, lr.ownBlock = some g → q g) (hl : ns.length ≤ 100000) : ∃ aa ac, lr = .slice aa ns.length ac ∧ NumsQ q w ns aa := by
  by_cases h0 : ns = []
  · subst h0
    obtain ⟨a, c, e⟩ := own_shape h
    exact ⟨a, c, e, hl, Or.inl rfl⟩
  · have hp : 0 < (ns.map (fun n : Nat => (n : Int))).length := by rw [List.length_map]; exact List.length_pos_iff.2 h0
    obtain ⟨g, cap, e, _, _, hc⟩ := own_cellsN h hp
    rw [List.length_map] at e
    refine ⟨some ⟨g, 0, none⟩, cap, e, hl, Or.inr ⟨g, 0, rfl, hq g (by rw [e]; rfl), fun i hi => ?_⟩⟩
    rw [Nat.zero_add]
    refine hc i _ ?_
    rw [List.getElem?_map, List.getElem?_map, List.getElem?_eq_getElem hi, List.getD_eq_getElem?_getD, List.getElem?_eq_getElem hi]; rfl
theorem srcU_heap {w w' : World} {v0 v1 v2 v3 v4 v5 : Value} {e : TypeId} {n : Nat} (h : w'.heap = (w.alloc (.cells #[v0, v1, v2, v3, v4, v5] e)).heap) (hn : n = w.heap.size) (h1 : ∀ u, u ∈ [v0, v1, v2, v3, v4, v5] → u.oneCell' = true) : SrcU w' (.slice (some ⟨n, 0, none⟩) 1 1) 1 [v0, v1, v2, v3, v4, v5] :=
  Or.inr ⟨n, 0, 1, rfl, rfl, fun j u hu => by
    rw [Nat.zero_add, World.cell?_of_block (w := w.alloc (.cells #[v0, v1, v2, v3, v4, v5] e)) (a := ⟨n, j, none⟩) (by rw [h]), cell_new j hn]; simpa using hu, h1⟩

theorem MapAt.congr {w : World} {b n : Nat} {f g : Int → Option Value} (h : MapAt w b n f) (e : ∀ k, f k = g k) : MapAt w b n g := by
  have : f = g := funext e
  exact this ▸ h

/-- Behind the append of a part: the unifier, once the list is stored. -/
theorem AX_push {c : Nat → Prop} {base u mb : Nat} {wr wa w6 : World} {l v6 : Value} {s : List Pt × List (Int × Nat)} {x : Pt} {xs : List Value} {ta : Option Addr} {tl tc : Nat} {aa : Option Addr} {ac : Nat}
    (hA : AX c base u mb wr l s) (hcb : ∀ k, c k → base ≤ k) (hba : Below wr.heap.size wr wa)
    (hkids : KidsU (fun k => c k ∧ l.ownBlock ≠ some k) wr s.1 xs) (hn : NumsQ (fun k => c k ∧ l.ownBlock ≠ some k) wr x.args aa)
    (hown : w6.ownsRow base 326 6 v6 (s.1.length + 1) (xs ++ [.int .i64 x.v, .int .i64 x.f, .slice ta tl tc, .slice aa x.args.length ac, .int .i64 (x.like : Int), .int .i64 x.size])) (hg : wa.grownBy w6 l.ownBlock) (hat : v6.ownBlock = l.ownBlock ∨ v6.ownBlock = some wa.heap.size) :
    AX c base u mb (w6.setCell ⟨u, 0, none⟩ v6) v6 (s.1 ++ [x], s.2) ∧ AF u mb wr l (w6.setCell ⟨u, 0, none⟩ v6) v6 ∧ w6.cell? ⟨u, 0, none⟩ = some l ∧ w6.frozen? ⟨u, 0, none⟩ = false ∧ w6.cell? ⟨u, 1, none⟩ = some (.map (some mb)) ∧ ∀ k, k < wr.heap.size → k ≠ u → l.ownBlock ≠ some k → w6.heap[k]? = wr.heap[k]? := by
  have hru := hA.outs.row
  have hul := lt_of_cell hA.list
  have hml := hA.mp.lt
  have hub := hA.ub
  have hmbb := hA.mbb
  have hza := hba.size
  have hz6 := hg.size
  have hkeep : ∀ k, k < wr.heap.size → l.ownBlock ≠ some k → w6.heap[k]? = wr.heap[k]? := fun k hk h => by rw [hg.block k (by omega) (fun e => h e.symm)]; exact hba.block k hk
  have hnu : l.ownBlock ≠ some u := fun e => by have := (hru u e).1; omega
  have hnm : l.ownBlock ≠ some mb := fun e => by have := (hru mb e).1; omega
  have eu := hkeep u hul hnu
  have c0 : w6.cell? ⟨u, 0, none⟩ = some l := (World.cell?_of_block (w := wr) (a := ⟨u, 0, none⟩) eu).trans hA.list
  have c1 : w6.cell? ⟨u, 1, none⟩ = some (.map (some mb)) := (World.cell?_of_block (w := wr) (a := ⟨u, 1, none⟩) eu).trans hA.map
  have hv6 : ∀ g, v6.ownBlock = some g → base ≤ g ∧ g < w6.heap.size := own_lt hown
  have hso : OutsX c base w6 v6 (s.1 ++ [x]) := OutsX_step (KidsU_mono (fun k hk hlt => ⟨hk, hba.block k hlt⟩) hkids) (NumsQ_mono (fun k hk hlt => ⟨hk, hba.block k hlt⟩) hn) hown hg hat
  have hset : ∀ k, k ≠ u → (w6.setCell ⟨u, 0, none⟩ v6).heap[k]? = w6.heap[k]? := fun k hk => Below.heap_setCell _ _ _ _ hk
  refine ⟨⟨World.cell?_setCell_same _ _ _ c0, by rw [World.cell?_setCell_other _ _ _ _ (addr_ne (by omega))]; exact c1, hso.mono (fun k hc _ _ => ⟨hc, hset k (by have := hcb k hc; omega)⟩) (fun g hg' => hset g (by have := (hv6 g hg').1; omega)), (hA.mp.same (hkeep mb hml hnm)).same (hset mb hA.ne.symm), fun k => by rw [World.frozen?_setCell, World.frozen?_of_block (w := wr) (a := ⟨u, k, none⟩) eu]; exact hA.fru k, hub, hmbb, hA.ne⟩, ⟨?_, ?_, ?_, ?_, fun k hk h1 h2 h3 => by rw [hset k h1]; exact hkeep k hk h3, ?_⟩, c0, by rw [World.frozen?_of_block (w := wr) (a := ⟨u, 0, none⟩) eu]; exact hA.fru 0, c1, fun k hk _ h3 => hkeep k hk h3⟩
  · show w6.os = _; exact hg.os.trans hba.os
  · show w6.tape = _; exact hg.tape.trans hba.tape
  · show w6.output = _; exact hg.output.trans hba.output
  · show wr.heap.size ≤ (w6.setCell ⟨u, 0, none⟩ v6).heap.size
    simp [World.setCell]; omega
  · rcases hat with h | h
    · exact Or.inl h
    · exact Or.inr ⟨_, h, hza⟩

end Go.Proofs.YtbkedppkdhfpoabGreat

namespace Go.Proofs.YtbkedppkdhfpoabGreat
open Go.RowKit

theorem Tryz.under81 : Tryz.prog.underlying 107 = some (.map 3 3) := by kernel_rfl
/-- A map that tells which thing each variable is. -/
def IsAt (w : World) (b m : Nat) (g : Int → Option Int) : Prop := MapAt w b m (fun k => (g k).map (Value.int .i64))
theorem IsAt.below {w w' : World} {b m : Nat} {g : Int → Option Int} (h : IsAt w b m g) (hb : Below w.heap.size w w') : IsAt w' b m g := MapAt.below h hb
theorem getD_int (g : Int → Option Int) (k : Int) : (((g k).map (Value.int .i64)).getD (.int .i64 0)) = .int .i64 ((g k).getD 0) := by cases g k <;> rfl
theorem ok_v {ar : List Int} {t : T} (h : okP ar t) (hv : t.v ≠ 0) : 1 ≤ t.v ∧ t.v ≤ 1000 := by
  have h1 := (okP_iff.1 h).1
  rw [partErr, if_pos hv] at h1
  by_cases h2 : t.v < 1 ∨ 1000 < t.v
  · rw [if_pos h2] at h1; cases h1
  · omega

attribute [local go_sem ↓] Go.wp_at_zero Go.wp_at_succ
set_option maxRecDepth 100000 in
set_option maxHeartbeats 1000000 in
theorem valueP_any {ar : List Int} {n : Int} {ls : List (List Int)} (hmo : MOk ar n ls) (ta : Option Addr) (tc b m : Nat) (g : Int → Option Int) (N : Nat) : ∀ (t : T) (a : Option Addr) (cap : Nat) (w : World), t.sz ≤ N → okP ar t → (∀ x, x ∈ parts t → x.v ≠ 0 → 0 ≤ (g x.v).getD 0 ∧ (g x.v).getD 0 < n) → IsAt w b m g → TabsP w ls ta → InL w t.args a →
    Calls Tryz.prog 71 #[.map (some b), .agg #[.int .i64 n, .slice ta ls.length tc], .agg #[.int .i64 t.v, .int .i64 t.f, .slice a t.args.length cap]] w fun e w' => e = .returned (.int .i64 (valT n ls (fun k => (g k).getD 0) t)) ∧ Below w.heap.size w w' := by
  induction N with
  | zero => intro t a cap w hN; have := t.sz_pos; omega
  | succ N ih =>
    intro t a cap w hN hok hf hM hT hin
    have Hih := hide ih
    have hte := T.sz_eq t
    have Hf := hide hf
    have Hok := hide hok
    have Hmo := hide hmo
    obtain ⟨W2, hW2⟩ : ∃ W2, W2 = (w.alloc (.cells #[.int .i64 n, .slice ta ls.length tc] 43)).alloc (.cells #[.int .i64 t.v, .int .i64 t.f, .slice a t.args.length cap] 77) := ⟨_, rfl⟩
    have hb2 : Below w.heap.size w W2 := by rw [hW2]; exact below2 _ _ _
    have hz2 : W2.heap.size = w.heap.size + 2 := by rw [hW2]; simp
    have cn : W2.cell? ⟨w.heap.size, 0, none⟩ = some (.int .i64 n) := by rw [hW2, cell_alloc_lt (by simp)]; exact cell_new 0 rfl
    have ct : W2.cell? ⟨w.heap.size, 1, none⟩ = some (.slice ta ls.length tc) := by rw [hW2, cell_alloc_lt (by simp)]; exact cell_new 1 rfl
    have h3 : Three W2 (w.heap.size + 1) (.int .i64 t.v) (.int .i64 t.f) (.slice a t.args.length cap) := by rw [hW2]; exact Three.new 77 (by simp)
    have HM := hide hM
    have HT := hide hT
    have Hin := hide hin
    have Hb2 := hide hb2
    have HW2 := hide hW2
    obtain ⟨Z, hZ⟩ : ∃ Z, Z = valT n ls (fun k => (g k).getD 0) t := ⟨_, rfl⟩
    rw [← hZ]
    have HZ := hide hZ
    clear ih hf hok hM hT hin hb2 hZ hmo
    by_cases hv : t.v ≠ 0
    · have hvb : (t.v != 0) = true := by simpa using hv
      have hvr := ok_v Hok.out hv
      have hlook := MapAt.look (MapAt.below HM.out Hb2.out) (t := 107) Tryz.under81 (Tryz.zeroI _) (k := t.v) (by omega) (by omega)
      rw [getD_int] at hlook
      have Hz : Hid (Z = (g t.v).getD 0) := by show _ = _; rw [HZ.out, valT_eq, if_pos hv]
      rw [hW2] at hlook
      rw [← Hz.out] at hlook
      clear hv hvr Hz HZ hW2 cn ct h3
      go_enter Tryz.func71, Tryz.ntmps71
      go_wp2_with fail
      go_ret
      exact ⟨rfl, below2 _ _ _⟩
    · have hv0 : t.v = 0 := by omega
      obtain ⟨l, hl, hf0, hf1, hlen, h3a, hall⟩ := Hmo.out.table Hok.out hv0
      have hvr := val_range (f := fun k => (g k).getD 0) Hmo.out (N + 1) t hN Hok.out Hf.out
      have Hvr := hide hvr.2
      have Hz : Hid (Z = l.getD (valT.rowL n ls (fun k => (g k).getD 0) t.args 0).toNat 0) := by
        show _ = _
        rw [HZ.out, valT_eq, if_neg hv]
        have e : ls.getD t.f.toNat [] = l := by rw [List.getD_eq_getElem?_getD, hl]; rfl
        rw [e]
      have hlo := Hmo.out.lo
      have hhi := Hmo.out.hi
      have HP := hide (powI_range hlo hhi)
      have hvb : (t.v != 0) = false := by simpa using hv0
      have Hl := hide hl
      have Hlen := hide hlen
      have Hall := hide hall
      have H3 := hide h3
      have Hcn := hide cn
      have Hct := hide ct
      rw [hW2] at h3
      obtain ⟨q0, q1, q2, _, _, _⟩ := h3
      clear hv hv0 hvr hl hlen hall HZ hW2 cn ct
      go_enter Tryz.func71, Tryz.ntmps71
      go_wp2_with fail
      rw [← HW2.out]
      go_loopw [7, 20] (fun r i wr => ∃ k : Nat, k ≤ t.args.length ∧ i = .int .i64 k ∧ r = .int .i64 (valT.rowL n ls (fun k => (g k).getD 0) (t.args.take k) 0) ∧ Hid (Below W2.heap.size W2 wr)) (fun _ i _ => t.args.length - (intOf i).toNat)
      case atStart => exact ⟨0, Nat.zero_le _, rfl, rfl, Below.refl _ _⟩
      case round =>
        obtain ⟨k, hk, rfl, rfl, Hbr⟩ := hrel
        have hzr := Hbr.out.size
        have Hbw := hide (Hb2.out.trans (Hbr.out.mono (by omega)))
        have hrk := Hvr.out k hk
        by_cases hlt : k < t.args.length
        · obtain ⟨ab, aoff, rfl⟩ := InP_some Hin.out (by omega)
          obtain ⟨x, hx⟩ : ∃ x, t.args[k]? = some x := ⟨t.args[k], List.getElem?_eq_getElem hlt⟩
          obtain ⟨a3, cap3, _, k0, k1, k2, hinx⟩ := InP_at (InP_below Hbw.out Hin.out) hx
          have hxm := List.mem_of_getElem? hx
          have hxs := T.szL_mem hxm
          have hxo := okL_mem.1 (okP_iff.1 Hok.out).2 x hxm
          have hxf := fun y hy => Hf.out y (parts_arg hxm hy)
          have hxr := (val_range (f := fun k => (g k).getD 0) Hmo.out x.sz x (Nat.le_refl _) hxo hxf).1
          have Hst := hide (rowL_step (n := n) (ls := ls) (f := fun k => (g k).getD 0) hx 0)
          have hp27 := (HP.out k).2.1 (by omega)
          obtain ⟨W3, hW3⟩ : ∃ W3, W3 = wr.alloc (.cells #[.int .i64 x.v, .int .i64 x.f, .slice a3 x.args.length cap3] 77) := ⟨_, rfl⟩
          have hb3 : Below wr.heap.size wr W3 := by rw [hW3]; exact below1 _ _
          have Hb3 := hide (Hbr.out.trans (hb3.mono hzr))
          have Hbw3 := hide (Hbw.out.trans (hb3.mono Hbw.out.size))
          have h33 : Three W3 wr.heap.size (.int .i64 x.v) (.int .i64 x.f) (.slice a3 x.args.length cap3) := by rw [hW3]; exact Three.new 77 rfl
          have HC := hide (fun (w' : World) (hb' : Below W3.heap.size W3 w') => Hih.out x a3 cap3 w' (by omega) hxo hxf ((HM.out.below Hbw3.out).below hb') (TabsP_below hb' (TabsP_below Hbw3.out HT.out)) (InP_below hb' (InP_below hb3 hinx)))
          have hS := hide (fun (w' : World) (hb' : Below W3.heap.size W3 w') => (show w'.cell? ⟨w.heap.size, 0, none⟩ = some (.int .i64 n) ∧ w'.cell? ⟨w.heap.size, 1, none⟩ = some (.slice ta ls.length tc) ∧ w'.cell? ⟨wr.heap.size, 0, none⟩ = some (.int .i64 x.v) ∧ w'.cell? ⟨wr.heap.size, 1, none⟩ = some (.int .i64 x.f) ∧ w'.cell? ⟨wr.heap.size, 2, none⟩ = some (.slice a3 x.args.length cap3) from
            ⟨cellB hb' (cellB Hb3.out Hcn.out), cellB hb' (cellB Hb3.out Hct.out), cellB hb' h33.c0, cellB hb' h33.c1, cellB hb' h33.c2⟩))
          have hkI : (k : Int) < t.args.length := by omega
          have hk0 : (0 : Int) ≤ k := by omega
          have HF0 := hide (Below.refl W3.heap.size W3)
          have HW3 := hide hW3
          obtain ⟨X, hX⟩ : ∃ X, X = valT n ls (fun k => (g k).getD 0) x := ⟨_, rfl⟩
          obtain ⟨R, hR⟩ : ∃ R, R = valT.rowL n ls (fun k => (g k).getD 0) (t.args.take k) 0 := ⟨_, rfl⟩
          rw [← hX, ← hR] at Hst
          rw [← hX] at HC hxr
          rw [← hR] at hrk ⊢
          have hRn : 0 ≤ R * n ∧ R * n ≤ 81 := by
            have h1 : 0 ≤ R * n := Int.mul_nonneg hrk.1 (by omega)
            have h2 : R * n ≤ 27 * 3 := Int.mul_le_mul (by omega) hhi (by omega) (by omega)
            exact ⟨h1, by omega⟩
          have Hw : Hid (IntKind.i64.wrap (IntKind.i64.wrap (R * n) + X) = R * n + X) := by
            show _ = _
            rw [wrap_ok (R * n) (by omega) (by omega), wrap_ok (R * n + X) (by omega) (by omega)]
          clear hx hxm hxs hxo hxf hinx hb3 h33 hW3 hX hR q0 q1 q2
          go_wp2_with fail
          rw [← HW3.out]
          go_region_held3 (fun w' => w'.cell? ⟨w.heap.size, 0, none⟩ = some (.int .i64 n) ∧ w'.cell? ⟨w.heap.size, 1, none⟩ = some (.slice ta ls.length tc) ∧ w'.cell? ⟨wr.heap.size, 0, none⟩ = some (.int .i64 x.v) ∧ w'.cell? ⟨wr.heap.size, 1, none⟩ = some (.int .i64 x.f) ∧ w'.cell? ⟨wr.heap.size, 2, none⟩ = some (.slice a3 x.args.length cap3)) ((first | (refine hS.out _ ?_; (repeat' (first | with_reducible exact Hid.out ‹Hid (Below _ _ _)› | with_reducible exact Below.refl _ _ | (with_reducible refine Below.drew ?_))); done) | go_keep)) ((
            go_at_call 71
            with_reducible refine (HC.out _ ?_).mono ?_
            · (repeat' (first | with_reducible exact Hid.out ‹Hid (Below _ _ _)› | with_reducible exact Below.refl _ _ | (with_reducible refine Below.drew ?_)))
            rintro e w4 ⟨rfl, hb4⟩
            have Hb4 : Hid (Below W3.heap.size W3 w4) := below_undrew hb4
            clear hb4))
          rw [Hw.out]
          have Hb5 := hide (Hb3.out.trans (Hb4.out.mono Hb3.out.size))
          clear Hw HC hS
          go_wp2_with fail
          go_roundw
          case rel => exact ⟨k + 1, by omega, by go_num, by rw [Hst.out], Hb5⟩
          case measure => simp [intOf]; omega
        · have hk2 : k = t.args.length := by omega
          subst hk2
          rw [List.take_length] at hrk ⊢
          obtain ⟨tb, toff, rfl⟩ := TabsP_some HT.out (by omega)
          obtain ⟨la, lc, ctl, hIl⟩ := TabsP_at (TabsP_below Hbw.out HT.out) Hl.out
          have hp27 := (HP.out t.args.length).2.1 h3a
          have hlen := Hlen.out
          obtain ⟨R, hR⟩ : ∃ R, R = valT.rowL n ls (fun k => (g k).getD 0) t.args 0 := ⟨_, rfl⟩
          rw [← hR] at hrk Hz ⊢
          obtain ⟨r, hr⟩ := Int.eq_ofNat_of_zero_le hrk.1
          have hrl : r < l.length := by omega
          obtain ⟨lb, loff, rfl, hlc⟩ := Ints_some hIl (by omega)
          have cr := hlc r hrl
          have hZr : Z = l.getD r 0 := by rw [Hz.out, hr]; rfl
          rw [← hZr] at cr
          obtain ⟨fn, hfn⟩ := Int.eq_ofNat_of_zero_le hf0
          have hfl : (fn : Int) < ls.length := by omega
          have ctl2 : wr.cell? ⟨tb, toff + fn, none⟩ = some (.slice (some ⟨lb, loff, none⟩) l.length lc) := by rw [hfn] at ctl; exact ctl
          have cn4 := cellB Hbr.out Hcn.out
          have ct4 := cellB Hbr.out Hct.out
          obtain ⟨p0, p1, p2, _, _, _⟩ := H3.out.below Hbr.out
          rw [hfn] at p1
          rw [hr]
          have hrI : (r : Int) < l.length := by omega
          have hr0 : (0 : Int) ≤ r := by omega
          have hfn0 : (0 : Int) ≤ fn := by omega
          clear hR hr hZr hlc hIl ctl hfn hlen hrk hp27 q0 q1 q2 Hz
          go_wp2_with fail
          go_ret
          exact ⟨rfl, Hbw.out⟩

end Go.Proofs.YtbkedppkdhfpoabGreat

namespace Go.Proofs
open Go.Shelf
def Tryz.keysB_ren : Go.Shelf.Ren := ⟨fun | 7 => 306 | 10 => 315 | n => n, fun | 23 => 319 | 26 => 3 | 3 => 77 | 28 => 284 | 0 => 0 | 27 => 283 | 33 => 214 | 4 => 4 | n => n, fun | n => n⟩
theorem Tryz.keysB : Go.Proofs.SlLaysZI.n7 Tryz.prog Tryz.keysB_ren := {
  mixed := by kernel_rfl
  f7 := ⟨Tryz.f306.name, by decide, Tryz.func306.trans (congrArg some (by kernel_rfl))⟩
  f10 := ⟨Tryz.f315.name, by decide, Tryz.func315.trans (congrArg some (by kernel_rfl))⟩
  t0 := Tryz.underlying0
  a0 := Tryz.isAgg0
  z0 := Tryz.sizeOf0
  v0 := Tryz.zeroValue0
  t4 := Tryz.underlying4
  a4 := Tryz.isAgg4
  z4 := Tryz.sizeOf4
  v4 := Tryz.zeroValue4
  t23 := Tryz.underlying319
  a23 := Tryz.isAgg319
  z23 := Tryz.sizeOf319
  v23 := Tryz.zeroValue319
  t26 := Tryz.underlying3
  a26 := Tryz.isAgg3
  z26 := Tryz.sizeOf3
  v26 := Tryz.zeroValue3
  t27 := Tryz.underlying283
  a27 := Tryz.isAgg283
  z27 := Tryz.sizeOf283
  v27 := Tryz.zeroValue283
  t28 := Tryz.underlying284
  a28 := Tryz.isAgg284
  z28 := Tryz.sizeOf284
  v28 := Tryz.zeroValue284
  t33 := Tryz.underlying214
  a33 := Tryz.isAgg214
  z33 := Tryz.sizeOf214
  v33 := Tryz.zeroValue214 }
def Tryz.keysI_ren : Go.Shelf.Ren := ⟨fun | 7 => 288 | 10 => 307 | n => n, fun | 23 => 106 | 26 => 3 | 3 => 3 | 28 => 284 | 0 => 0 | 27 => 283 | 33 => 214 | 4 => 4 | n => n, fun | n => n⟩
theorem Tryz.keysI : Go.Proofs.SlLaysZI.n7 Tryz.prog Tryz.keysI_ren := {
  mixed := by kernel_rfl
  f7 := ⟨Tryz.f288.name, by decide, Tryz.func288.trans (congrArg some (by kernel_rfl))⟩
  f10 := ⟨Tryz.f307.name, by decide, Tryz.func307.trans (congrArg some (by kernel_rfl))⟩
  t0 := Tryz.underlying0
  a0 := Tryz.isAgg0
  z0 := Tryz.sizeOf0
  v0 := Tryz.zeroValue0
  t4 := Tryz.underlying4
  a4 := Tryz.isAgg4
  z4 := Tryz.sizeOf4
  v4 := Tryz.zeroValue4
  t23 := Tryz.underlying106
  a23 := Tryz.isAgg106
  z23 := Tryz.sizeOf106
  v23 := Tryz.zeroValue106
  t26 := Tryz.underlying3
  a26 := Tryz.isAgg3
  z26 := Tryz.sizeOf3
  v26 := Tryz.zeroValue3
  t27 := Tryz.underlying283
  a27 := Tryz.isAgg283
  z27 := Tryz.sizeOf283
  v27 := Tryz.zeroValue283
  t28 := Tryz.underlying284
  a28 := Tryz.isAgg284
  z28 := Tryz.sizeOf284
  v28 := Tryz.zeroValue284
  t33 := Tryz.underlying214
  a33 := Tryz.isAgg214
  z33 := Tryz.sizeOf214
  v33 := Tryz.zeroValue214 }
def Tryz.sortedB_ren : Go.Shelf.Ren := ⟨fun | 6 => 240 | 8 => 272 | 9 => 130 | 11 => 302 | 13 => 173 | 12 => 172 | 23 => 222 | 24 => 223 | 14 => 213 | 15 => 214 | 16 => 215 | 17 => 216 | 18 => 217 | 19 => 218 | 20 => 219 | 21 => 220 | 22 => 221 | 25 => 252 | 26 => 253 | 27 => 254 | 28 => 255 | 29 => 256 | 30 => 257 | 31 => 285 | n => n, fun | 26 => 3 | 28 => 284 | 24 => 22 | 0 => 0 | 3 => 3 | 37 => 218 | 48 => 267 | 50 => 269 | 4 => 4 | 40 => 260 | 39 => 259 | 45 => 264 | 5 => 5 | 9 => 9 | 51 => 290 | 55 => 294 | 57 => 321 | 58 => 322 | 33 => 214 | n => n, fun | n => n⟩
theorem Tryz.sortedB : Go.Proofs.SlLaysZI.n6 Tryz.prog Tryz.sortedB_ren := {
  mixed := by kernel_rfl
  f6 := ⟨Tryz.f240.name, by decide, Tryz.func240.trans (congrArg some (by kernel_rfl))⟩
  f8 := ⟨Tryz.f272.name, by decide, Tryz.func272.trans (congrArg some (by kernel_rfl))⟩
  f11 := ⟨Tryz.f302.name, by decide, Tryz.func302.trans (congrArg some (by kernel_rfl))⟩
  t0 := Tryz.underlying0
  a0 := Tryz.isAgg0
  z0 := Tryz.sizeOf0
  v0 := Tryz.zeroValue0
  t24 := Tryz.underlying22
  a24 := Tryz.isAgg22
  z24 := Tryz.sizeOf22
  v24 := Tryz.zeroValue22
  t26 := Tryz.underlying3
  a26 := Tryz.isAgg3
  z26 := Tryz.sizeOf3
  v26 := Tryz.zeroValue3
  t28 := Tryz.underlying284
  a28 := Tryz.isAgg284
  z28 := Tryz.sizeOf284
  v28 := Tryz.zeroValue284
  i26 := by kernel_rfl }
end Go.Proofs

namespace Go.Proofs.YtbkedppkdhfpoabGreat
open Go.RowKit Go.Maps Go.Sort Go.Shelf

theorem sorts_any (m : Nat) : AnyZI.SortsIn Tryz.prog Tryz.sortedB_ren Fence.wide m :=
  ⟨fun blk off cap ss W hH hblk hsz => callsIn_wide.2 (Go.Proofs.Tryz.slices_Sort_int blk off cap ss W hH hblk hsz),
   fun p cap W => callsIn_wide.2 (Go.Proofs.Tryz.slices_Sort_int_none p cap W)⟩

theorem keys_perm {w : World} {b n : Nat} {D : DataW Value} {f : Int → Option Value} (hD : w.ownsMap Tryz.prog 3 Rv b n D) (hf : ∀ k : Int, Maps.has D (.int .i64 k) = (f k).isSome ∧ ∀ v, f k = some v → ∀ z, D.atKey (.int .i64 k) z = .held v)
    {K : List Int} (hnd : K.Nodup) (hK : ∀ x, x ∈ K ↔ (f x).isSome = true) : K.Perm (intKeys D) :=
  CollectedI.perm (left := fun _ => false) ⟨hnd, fun x => by rw [hK x, (hf x).1]; simp⟩ hD Tryz.key3 Tryz.underlying3 (fun _ => rfl)

theorem keysB_any (mb : Option Nat) (w : World) : Calls Tryz.prog 306 #[.map mb] w fun e w' => e = .returned (.func (.func 315) #[] #[.pointer (some ⟨w.heap.size, 0, none⟩)]) ∧ w' = w.alloc (.cells #[.map mb] 319) :=
  (callsIn_wide (n := 5)).1 (AnyZI.keys_in Tryz.keysB Fence.wide 5 trivial rfl mb w)
theorem keysI_any (mb : Option Nat) (w : World) : Calls Tryz.prog 288 #[.map mb] w fun e w' => e = .returned (.func (.func 307) #[] #[.pointer (some ⟨w.heap.size, 0, none⟩)]) ∧ w' = w.alloc (.cells #[.map mb] 106) :=
  (callsIn_wide (n := 5)).1 (AnyZI.keys_in Tryz.keysI Fence.wide 5 trivial rfl mb w)

/-- What slices.Sorted makes of an iterator over the keys K. -/
theorem sorted_of (g : Nat) (eg : ∀ args w, (callFunc g args).run Tryz.prog w = .ok (.enter g args) w) (Bm : Nat) (w : World) (K : List Int) (D : DataW Value) (N : Nat) (hN : N ≤ 100000) (hp : K.Perm (intKeys D))
    (hseq : SeqGives Fence.wide 2 Tryz.prog g #[.pointer (some ⟨Bm, 0, none⟩)] encZ (fun ss => ss.Perm (intKeys D)) N w) :
    Calls Tryz.prog 240 #[.func (.func g) #[] #[.pointer (some ⟨Bm, 0, none⟩)]] w fun e w' => ∃ v, e = .returned v ∧ OwnI w.heap.size w' v (K.mergeSort (fun x y => decide (x ≤ y))) ∧ Below w.heap.size w w' := by
  refine (callsIn_wide (n := 5)).1 ?_
  have cS := AnyZI.sorted_in Tryz.sortedB Fence.wide 5 trivial trivial trivial trivial rfl (by omega) (sorts_any _) (enters_of Tryz.func130 (by kernel_rfl) rfl) g #[.pointer (some ⟨Bm, 0, none⟩)] trivial eg _ N (by unfold maxLen; omega) (by omega) _ hseq
  change CallsIn _ _ Tryz.prog 240 _ _ _ at cS
  refine cS.mono ?_
  rintro e w' ⟨v, ss, rfl, hS, hrow, _, hb⟩
  have hpp : ss.Perm K := hS.trans hp.symm
  have e1 := mergeSort_of_perm_i hpp
  rw [show (fun x y : Int => decide (x ≤ y)) = leI from rfl, e1] at hrow
  have e2 : ss.length = (K.mergeSort leI).length := by rw [List.length_mergeSort, hpp.length_eq]
  rw [e2] at hrow
  exact ⟨v, rfl, hrow, hb⟩

theorem sortedB_any (b n : Nat) (f : Int → Option Value) (K : List Int) (hn : n ≤ 100000) (hnd : K.Nodup) (hK : ∀ x, x ∈ K ↔ (f x).isSome = true) (Bm : Nat) (w : World) (hM : MapAt w b n f) (hc : w.cell? ⟨Bm, 0, none⟩ = some (.map (some b))) :
    Calls Tryz.prog 240 #[.func (.func 315) #[] #[.pointer (some ⟨Bm, 0, none⟩)]] w fun e w' => ∃ v, e = .returned v ∧ OwnI w.heap.size w' v (K.mergeSort (fun x y => decide (x ≤ y))) ∧ Below w.heap.size w w' := by
  obtain ⟨D, hD, hf⟩ := hM
  have hsz := hD.size_le
  exact sorted_of 315 (enters_of Tryz.func315 (by kernel_rfl) rfl) Bm w K D (Maps.size D) (by omega) (keys_perm hD hf hnd hK)
    (AnyZI.keys_gives (ρ := Tryz.keysB_ren) { Tryz.keysB with } Fence.wide _ trivial rfl (by omega) Bm b n D w (lt_of_cell hc) hc hD)
theorem sortedI_any (b n : Nat) (f : Int → Option Value) (K : List Int) (hn : n ≤ 100000) (hnd : K.Nodup) (hK : ∀ x, x ∈ K ↔ (f x).isSome = true) (Bm : Nat) (w : World) (hM : MapAt w b n f) (hc : w.cell? ⟨Bm, 0, none⟩ = some (.map (some b))) :
    Calls Tryz.prog 240 #[.func (.func 307) #[] #[.pointer (some ⟨Bm, 0, none⟩)]] w fun e w' => ∃ v, e = .returned v ∧ OwnI w.heap.size w' v (K.mergeSort (fun x y => decide (x ≤ y))) ∧ Below w.heap.size w w' := by
  obtain ⟨D, hD, hf⟩ := hM
  have hsz := hD.size_le
  exact sorted_of 307 (enters_of Tryz.func307 (by kernel_rfl) rfl) Bm w K D (Maps.size D) (by omega) (keys_perm hD hf hnd hK)
    (AnyZI.keys_gives (ρ := Tryz.keysI_ren) { Tryz.keysI with } Fence.wide _ trivial rfl (by omega) Bm b n D w (lt_of_cell hc) hc hD)

end Go.Proofs.YtbkedppkdhfpoabGreat

namespace Go.Proofs.YtbkedppkdhfpoabGreat
open Go.RowKit Go.Maps

/-- The number that a variable has, once some have theirs. -/
def numF (ns : List Int) (v : Int) : Option Int := if v ∈ ns then some ((ns.idxOf v : Int) + 1) else none
def numL (v : Int) (ns : List Int) : List Int := if v = 0 ∨ v ∈ ns then ns else ns ++ [v]
def numV (v : Int) (ns : List Int) : Int := if v = 0 then 0 else ((numL v ns).idxOf v : Int) + 1
/-- A term whose variables are numbered anew, behind some that are. -/
def giveT : T → List Int → T × List Int
  | ⟨v, f, args⟩, ns => (⟨numV v ns, f, (giveL args (numL v ns)).1⟩, (giveL args (numL v ns)).2)
  where
  giveL : List T → List Int → List T × List Int
    | [], ns => ([], ns)
    | t :: ts, ns => ((giveT t ns).1 :: (giveL ts (giveT t ns).2).1, (giveL ts (giveT t ns).2).2)
theorem giveT_eq (t : T) (ns : List Int) : giveT t ns = (⟨numV t.v ns, t.f, (giveT.giveL t.args (numL t.v ns)).1⟩, (giveT.giveL t.args (numL t.v ns)).2) := by cases t; rfl
theorem giveL_snoc (x : T) : ∀ (ts : List T) (ns : List Int), giveT.giveL (ts ++ [x]) ns = ((giveT.giveL ts ns).1 ++ [(giveT x (giveT.giveL ts ns).2).1], (giveT x (giveT.giveL ts ns).2).2) := by
  intro ts
  induction ts with
  | nil => intro ns; rfl
  | cons t ts ih =>
    intro ns
    show ((giveT t ns).1 :: (giveT.giveL (ts ++ [x]) (giveT t ns).2).1, (giveT.giveL (ts ++ [x]) (giveT t ns).2).2) = _
    rw [ih]; rfl
theorem giveL_step {ts : List T} {k : Nat} {x : T} (h : ts[k]? = some x) (ns : List Int) : giveT.giveL (ts.take (k + 1)) ns = ((giveT.giveL (ts.take k) ns).1 ++ [(giveT x (giveT.giveL (ts.take k) ns).2).1], (giveT x (giveT.giveL (ts.take k) ns).2).2) := by
  rw [List.take_add_one, h]; exact giveL_snoc x _ ns
theorem giveL_length : ∀ (ts : List T) (ns : List Int), (giveT.giveL ts ns).1.length = ts.length := by
  intro ts
  induction ts with
  | nil => intro ns; rfl
  | cons t ts ih => intro ns; show (_ :: (giveT.giveL ts (giveT t ns).2).1).length = _; rw [List.length_cons, ih, List.length_cons]
theorem numL_nodup {v : Int} {ns : List Int} (h : ns.Nodup) : (numL v ns).Nodup := by
  rw [numL]
  split
  · exact h
  · rename_i h1
    rw [List.nodup_append]
    refine ⟨h, by simp, fun a ha b hb e => ?_⟩
    simp at hb
    exact h1 (Or.inr (by rw [← hb, ← e]; exact ha))
theorem numL_len (v : Int) (ns : List Int) : (numL v ns).length ≤ ns.length + 1 := by
  rw [numL]; split
  · omega
  · simp
theorem give_grow : ∀ (n : Nat), (∀ (t : T) (ns : List Int), t.sz ≤ n → ns.Nodup → (giveT t ns).2.Nodup ∧ (giveT t ns).2.length ≤ ns.length + t.sz) ∧ (∀ (ts : List T) (ns : List Int), T.sz.szL ts ≤ n → ns.Nodup → (giveT.giveL ts ns).2.Nodup ∧ (giveT.giveL ts ns).2.length ≤ ns.length + T.sz.szL ts) := by
  intro n
  induction n with
  | zero =>
    refine ⟨fun t ns h => by have := t.sz_pos; omega, fun ts ns h hn => ?_⟩
    cases ts with
    | nil => exact ⟨hn, Nat.le_add_right _ _⟩
    | cons t ts => have := t.sz_pos; rw [T.szL_cons] at h; omega
  | succ n ih =>
    have h1 : ∀ (t : T) (ns : List Int), t.sz ≤ n + 1 → ns.Nodup → (giveT t ns).2.Nodup ∧ (giveT t ns).2.length ≤ ns.length + t.sz := fun t ns h hn => by
      have he := T.sz_eq t
      rw [giveT_eq]
      have h2 := ih.2 t.args (numL t.v ns) (by omega) (numL_nodup hn)
      have h3 := numL_len t.v ns
      exact ⟨h2.1, by simp only; omega⟩
    refine ⟨h1, fun ts => ?_⟩
    induction ts with
    | nil => intro ns _ hn; exact ⟨hn, Nat.le_add_right _ _⟩
    | cons t ts iht =>
      intro ns h hn
      rw [T.szL_cons] at h ⊢
      have a1 := h1 t ns (by omega) hn
      have a2 := iht (giveT t ns).2 (by omega) a1.1
      exact ⟨a2.1, by show (giveT.giveL ts (giveT t ns).2).2.length ≤ _; omega⟩
theorem numF_new {ns : List Int} {v : Int} (h0 : v ≠ 0) (hv : v ∉ ns) (k : Int) : numF (ns ++ [v]) k = if k = v then some ((ns.length : Int) + 1) else numF ns k := by
  rw [numF]
  by_cases e : k = v
  · subst e
    rw [if_pos (by simp), if_pos rfl, List.idxOf_append, if_neg hv]
    simp
  · rw [if_neg e, numF]
    by_cases hk : k ∈ ns
    · rw [if_pos (by simp [hk]), if_pos hk, List.idxOf_append, if_pos hk]
    · rw [if_neg (by simp [hk, e]), if_neg hk]
theorem map_len {w : World} {b n : Nat} {ns : List Int} (h : IsAt w b n (numF ns)) (hn : ns.Nodup) {t e : TypeId} (ht : Tryz.prog.underlying t = some (.map 3 e)) (ty : TypeId) : (Builtin.len_ #[t] ty #[.map (some b)]).run Tryz.prog w = .ok (.int .i64 (ns.length : Nat)) w := by
  obtain ⟨D, hD, hf⟩ := h
  have hp := keys_perm hD hf hn (fun x => by rw [numF]; split <;> simp_all)
  have e1 : Maps.size D = ns.length := by
    rw [hp.length_eq]
    obtain ⟨es, rfl⟩ := hD.isMap
    simp [intKeys, Maps.size]
  rw [hD.len ht ty, e1]

/-- One of the arguments, and what it leaves if it alone is changed. -/
theorem OwnL_open {w : World} : ∀ {ts : List T} {b off : Nat} {B : List Nat} {k : Nat} {x : T}, OwnL w ts b off B → ts[k]? = some x → B.Nodup →
    ∃ s Bk, w.cell? ⟨b, off + k * 3, none⟩ = some (.int .i64 x.v) ∧ w.cell? ⟨b, off + k * 3 + 1, none⟩ = some (.int .i64 x.f) ∧ w.cell? ⟨b, off + k * 3 + 2, none⟩ = some s ∧ x.Own w s Bk ∧ (∀ j, j ∈ Bk → j ∈ B) ∧ Bk.Nodup ∧
      ∀ (w' : World) (x' : T), w'.cell? ⟨b, off + k * 3, none⟩ = some (.int .i64 x'.v) → w'.cell? ⟨b, off + k * 3 + 1, none⟩ = some (.int .i64 x'.f) → w'.cell? ⟨b, off + k * 3 + 2, none⟩ = some s → x'.Own w' s Bk →
        (∀ j, (j < off + k * 3 ∨ off + k * 3 + 2 < j) → w'.cell? ⟨b, j, none⟩ = w.cell? ⟨b, j, none⟩) → (∀ i, i ∈ B → i ∉ Bk → w'.heap[i]? = w.heap[i]?) → OwnL w' (ts.set k x') b off B := by
  intro ts
  induction ts with
  | nil => intro b off B k x _ h; simp at h
  | cons t ts ih =>
    intro b off B k x h hk hn
    obtain ⟨s, Bt, Br, rfl, h0, h1, h2, hown, hr⟩ := OwnL_cons.1 h
    rw [List.nodup_append] at hn
    cases k with
    | zero =>
      simp at hk; subst hk
      refine ⟨s, Bt, by simpa using h0, by simpa using h1, by simpa using h2, hown, fun j hj => List.mem_append_left _ hj, hn.1, fun w' x' g0 g1 g2 go gc gh => ?_⟩
      refine OwnL_cons.2 ⟨s, Bt, Br, rfl, by simpa using g0, by simpa using g1, by simpa using g2, go, ?_⟩
      exact OwnL_mono _ ts b (off + 3) Br (Nat.le_refl _) (fun i hi => gh i (List.mem_append_right _ hi) (fun hb => hn.2.2 i hb i hi rfl)) (fun j hj _ => gc j (by omega)) hr
    | succ k =>
      obtain ⟨s', Bk, a0, a1, a2, a3, a4, a5, a6⟩ := ih hr (by simpa using hk) hn.2.1
      have e : off + 3 + k * 3 = off + (k + 1) * 3 := by omega
      rw [e] at a0 a1 a2 a6
      refine ⟨s', Bk, a0, a1, a2, a3, fun j hj => List.mem_append_right _ (a4 j hj), a5, fun w' x' g0 g1 g2 go gc gh => ?_⟩
      refine OwnL_cons.2 ⟨s, Bt, Br, rfl, by rw [gc off (by omega)]; exact h0, by rw [gc (off + 1) (by omega)]; exact h1, by rw [gc (off + 2) (by omega)]; exact h2, Own_mono (fun i hi => gh i (List.mem_append_left _ hi) (fun hb => hn.2.2 i hi i (a4 i hb) rfl)) hown, ?_⟩
      exact a6 w' x' g0 g1 g2 go gc (fun i hi hb => gh i (List.mem_append_right _ hi) hb)

/-- What has changed: some blocks, a map, and a cell. -/
structure Chg (w w' : World) (B : List Nat) (mb pb po : Nat) : Prop where
  os : w'.os = w.os
  tape : w'.tape = w.tape
  output : w'.output = w.output
  size : w.heap.size ≤ w'.heap.size
  block : ∀ k, k < w.heap.size → k ≠ pb → k ≠ mb → k ∉ B → w'.heap[k]? = w.heap[k]?
  cell : ∀ j, j ≠ po → w'.cell? ⟨pb, j, none⟩ = w.cell? ⟨pb, j, none⟩
  fr : ∀ j, w'.frozen? ⟨pb, j, none⟩ = w.frozen? ⟨pb, j, none⟩
theorem Chg.refl (w : World) (B : List Nat) (mb pb po : Nat) : Chg w w B mb pb po := ⟨rfl, rfl, rfl, Nat.le_refl _, fun _ _ _ _ _ => rfl, fun _ _ => rfl, fun _ => rfl⟩
theorem Chg.below {w w' : World} {B : List Nat} {mb pb po n : Nat} (h : Chg w w' B mb pb po) (hn : n ≤ w.heap.size) (h1 : n ≤ pb) (h2 : n ≤ mb) (h3 : ∀ k, k ∈ B → n ≤ k) : Below n w w' :=
  ⟨h.os, h.tape, h.output, h.size, fun k hk => h.block k (by omega) (by omega) (by omega) (fun hb => by have := h3 k hb; omega)⟩
theorem Tryz.under143 : Tryz.prog.underlying 143 = some (.map 3 3) := by kernel_rfl
theorem eg103 (args : Array Value) (w : World) : (callFunc 103 args).run Tryz.prog w = .ok (.enter 103 args) w := by kernel_rfl

/-- The three cells of a term that may be written. -/
structure Tc (w : World) (pb po : Nat) (v f : Int) (s : Value) : Prop where
  e0 : w.cell? ⟨pb, po, none⟩ = some (.int .i64 v)
  e1 : w.cell? ⟨pb, po + 1, none⟩ = some (.int .i64 f)
  e2 : w.cell? ⟨pb, po + 2, none⟩ = some s
  fr : ∀ j, w.frozen? ⟨pb, j, none⟩ = false

theorem Tc.same {w w' : World} {pb po : Nat} {v f : Int} {s : Value} (h : Tc w pb po v f s) (hs : w'.heap[pb]? = w.heap[pb]?) : Tc w' pb po v f s :=
  ⟨by rw [World.cell?_of_block (w := w) (a := ⟨pb, po, none⟩) hs]; exact h.e0, by rw [World.cell?_of_block (w := w) (a := ⟨pb, po + 1, none⟩) hs]; exact h.e1, by rw [World.cell?_of_block (w := w) (a := ⟨pb, po + 2, none⟩) hs]; exact h.e2, fun j => by rw [World.frozen?_of_block (w := w) (a := ⟨pb, j, none⟩) hs]; exact h.fr j⟩
theorem Tc.set {w : World} {pb po : Nat} {v f : Int} {s : Value} (h : Tc w pb po v f s) (x : Int) : Tc (w.setCell ⟨pb, po, none⟩ (.int .i64 x)) pb po x f s :=
  ⟨World.cell?_setCell_same _ _ _ h.e0, by rw [World.cell?_setCell_other _ _ _ _ (fun e => by injection e with _ e; omega)]; exact h.e1, by rw [World.cell?_setCell_other _ _ _ _ (fun e => by injection e with _ e; omega)]; exact h.e2, fun j => by rw [World.frozen?_setCell]; exact h.fr j⟩
theorem Chg.set {w w' : World} {B : List Nat} {mb pb po : Nat} (h : Chg w w' B mb pb po) (x : Value) : Chg w (w'.setCell ⟨pb, po, none⟩ x) B mb pb po :=
  ⟨h.os, h.tape, h.output, by rw [World.size_setCell]; exact h.size, fun k hk h1 h2 h3 => by rw [Below.heap_setCell _ _ _ _ h1]; exact h.block k hk h1 h2 h3, fun j hj => by rw [World.cell?_setCell_other _ _ _ _ (fun e => by injection e with _ e; exact hj e.symm)]; exact h.cell j hj, fun j => by rw [World.frozen?_setCell]; exact h.fr j⟩
theorem Chg.grown {w w' : World} {mb pb po : Nat} (h : w.grownBy w' (some mb)) (hp : pb < w.heap.size) (hne : mb ≠ pb) (B : List Nat) : Chg w w' B mb pb po := by
  have hb : w'.heap[pb]? = w.heap[pb]? := h.block pb hp (fun e => hne (by injection e with e; exact e.symm))
  exact ⟨h.os, h.tape, h.output, h.size, fun k hk _ h2 _ => h.block k hk (fun e => h2 (by injection e)), fun j _ => World.cell?_of_block (w := w) (a := ⟨pb, j, none⟩) hb, fun j => World.frozen?_of_block (w := w) (a := ⟨pb, j, none⟩) hb⟩
theorem IsAt.set {w : World} {b m : Nat} {g : Int → Option Int} (h : IsAt w b m g) {pb po : Nat} (hne : b ≠ pb) (x : Value) : IsAt (w.setCell ⟨pb, po, none⟩ x) b m g := MapAt.same h (Below.heap_setCell _ _ _ _ hne)
theorem numV_of {v : Int} {ns : List Int} (h0 : v ≠ 0) : numF (numL v ns) v = some (numV v ns) := by
  have hm : v ∈ numL v ns := by
    rw [numL]; split
    · rename_i h; rcases h with h | h
      · exact absurd h h0
      · exact h
    · simp
  rw [numF, if_pos hm, numV, if_neg h0]
theorem numV_le {v : Int} {ns : List Int} (h : ns.length ≤ 100000) : 0 ≤ numV v ns ∧ numV v ns ≤ 200000 := by
  rw [numV]
  split
  · omega
  · have h1 := List.idxOf_le_length (a := v) (l := numL v ns)
    have h2 := numL_len v ns
    omega

/-- What stands while arguments are gone through. -/
structure GL (w wr : World) (mb pb po m : Nat) (args : List T) (ns1 : List Int) (nv f : Int) (s : Value) (b : Nat) (B' : List Nat) (k : Nat) : Prop where
  own : OwnL wr ((giveT.giveL (args.take k) ns1).1 ++ args.drop k) b 0 B'
  map : ∃ m', m' ≤ m + 1 + T.sz.szL (args.take k) ∧ IsAt wr mb m' (numF (giveT.giveL (args.take k) ns1).2)
  chg : Chg w wr (b :: B') mb pb po
  tc : Tc wr pb po nv f s
  fr : ∀ j, wr.frozen? ⟨b, j, none⟩ = false
theorem szL_take_step {ts : List T} {k : Nat} {x : T} (h : ts[k]? = some x) : T.sz.szL (ts.take (k + 1)) = T.sz.szL (ts.take k) + x.sz := by
  rw [List.take_add_one, h]
  have : ∀ (a : List T), T.sz.szL (a ++ [x]) = T.sz.szL a + x.sz := fun a => by
    induction a with
    | nil => rw [List.nil_append, T.szL_cons, T.szL_nil]; omega
    | cons y a ih => rw [List.cons_append, T.szL_cons, T.szL_cons, ih]; omega
  exact this _
theorem szL_take_all {ts : List T} {k : Nat} {x : T} (h : ts[k]? = some x) : T.sz.szL (ts.take k) + x.sz ≤ T.sz.szL ts := by
  have h1 := szL_take_step h
  have h2 : ∀ (l : List T) (j : Nat), T.sz.szL (l.take j) ≤ T.sz.szL l := by
    intro l
    induction l with
    | nil => intro j; simp
    | cons y l ih =>
      intro j
      cases j with
      | zero => rw [List.take_zero, T.szL_nil]; omega
      | succ j => rw [List.take_succ_cons, T.szL_cons, T.szL_cons]; have := ih j; omega
  have := h2 ts (k + 1)
  omega
theorem GL.step {w wr w2 : World} {mb pb po m : Nat} {args : List T} {ns1 : List Int} {nv f : Int} {s : Value} {b : Nat} {B' : List Nat} {k : Nat} {x : T} {s' : Value} {Bk : List Nat} (h : GL w wr mb pb po m args ns1 nv f s b B' k) (hx : args[k]? = some x) (hBn : (b :: B').Nodup) (hpB : pb ∉ b :: B') (hmB : mb ∉ b :: B') (hmp : mb ≠ pb) (hpl : pb < wr.heap.size) (hBl : ∀ j, j ∈ b :: B' → j < wr.heap.size)
    (hsub : ∀ j, j ∈ Bk → j ∈ B') (hre : ∀ (w' : World) (x' : T), w'.cell? ⟨b, 0 + k * 3, none⟩ = some (.int .i64 x'.v) → w'.cell? ⟨b, 0 + k * 3 + 1, none⟩ = some (.int .i64 x'.f) → w'.cell? ⟨b, 0 + k * 3 + 2, none⟩ = some s' → x'.Own w' s' Bk →
        (∀ j, (j < 0 + k * 3 ∨ 0 + k * 3 + 2 < j) → w'.cell? ⟨b, j, none⟩ = wr.cell? ⟨b, j, none⟩) → (∀ i, i ∈ B' → i ∉ Bk → w'.heap[i]? = wr.heap[i]?) → OwnL w' (((giveT.giveL (args.take k) ns1).1 ++ args.drop k).set k x') b 0 B')
    (g1 : Tc w2 b (k * 3) (giveT x (giveT.giveL (args.take k) ns1).2).1.v (giveT x (giveT.giveL (args.take k) ns1).2).1.f s') (g2 : (giveT x (giveT.giveL (args.take k) ns1).2).1.Own w2 s' Bk) (g3 : ∃ m', m' ≤ m + 1 + T.sz.szL (args.take k) + x.sz ∧ IsAt w2 mb m' (numF (giveT x (giveT.giveL (args.take k) ns1).2).2)) (g4 : Chg wr w2 Bk mb b (k * 3)) :
    GL w w2 mb pb po m args ns1 nv f s b B' (k + 1) := by
  have hlt := (List.getElem?_eq_some_iff.1 hx).1
  have hlen : (giveT.giveL (args.take k) ns1).1.length = k := by rw [giveL_length, List.length_take]; omega
  have hbp : b ≠ pb := fun e => hpB (by rw [e]; exact List.mem_cons_self)
  have hpk : w2.heap[pb]? = wr.heap[pb]? := g4.block pb hpl (fun e => hbp e.symm) (fun e => hmp e.symm) (fun hj => hpB (List.mem_cons_of_mem _ (hsub pb hj)))
  rw [List.nodup_cons] at hBn
  refine ⟨?_, ?_, ⟨g4.os.trans h.chg.os, g4.tape.trans h.chg.tape, g4.output.trans h.chg.output, Nat.le_trans h.chg.size g4.size, fun j hj h1 h2 h3 => ?_, fun j hj => ?_, fun j => ?_⟩, h.tc.same hpk, fun j => by rw [g4.fr j]; exact h.fr j⟩
  · have hset : ((giveT.giveL (args.take k) ns1).1 ++ args.drop k).set k (giveT x (giveT.giveL (args.take k) ns1).2).1 = (giveT.giveL (args.take (k + 1)) ns1).1 ++ args.drop (k + 1) := by
      rw [giveL_step hx, List.drop_eq_getElem_cons hlt, List.append_assoc]
      have : ∀ (A R : List T) (y z : T), A.length = k → (A ++ y :: R).set k z = A ++ ([z] ++ R) := fun A R y z hA => by
        rw [List.set_append, if_neg (by omega), hA, Nat.sub_self]; rfl
      exact this _ _ _ _ hlen
    rw [← hset]
    refine hre w2 _ (by rw [Nat.zero_add]; exact g1.e0) (by rw [Nat.zero_add]; exact g1.e1) (by rw [Nat.zero_add]; exact g1.e2) g2 (fun j hj => g4.cell j (by omega)) (fun i hi hik => g4.block i (hBl i (List.mem_cons_of_mem _ hi)) (fun e => hBn.1 (by rw [← e]; exact hi)) (fun e => hmB (by rw [← e]; exact List.mem_cons_of_mem _ hi)) hik)
  · obtain ⟨m', h1, h2⟩ := g3
    rw [giveL_step hx]
    exact ⟨m', by rw [szL_take_step hx]; omega, h2⟩
  · rw [List.mem_cons, not_or] at h3
    have hjr : j < wr.heap.size := Nat.lt_of_lt_of_le hj h.chg.size
    rw [g4.block j hjr h3.1 h2 (fun hk => h3.2 (hsub j hk))]
    exact h.chg.block j hj h1 h2 (by rw [List.mem_cons, not_or]; exact h3)
  · rw [World.cell?_of_block (w := wr) (a := ⟨pb, j, none⟩) hpk]; exact h.chg.cell j hj
  · rw [World.frozen?_of_block (w := wr) (a := ⟨pb, j, none⟩) hpk]; exact h.chg.fr j

attribute [local go_sem ↓] Go.wp_at_zero Go.wp_at_succ
set_option maxRecDepth 100000 in
set_option maxHeartbeats 2000000 in
theorem give_any (mb : Nat) (N : Nat) : ∀ (t : T) (s : Value) (B : List Nat) (pb po m : Nat) (ns : List Int) (w : World), t.sz ≤ N → t.sz ≤ 1000 → (∀ x, x ∈ parts t → 0 ≤ x.v ∧ x.v ≤ 1000) → Tc w pb po t.v t.f s → t.Own w s B → B.Nodup → pb ∉ B → mb ∉ B → mb ≠ pb → IsAt w mb m (numF ns) → ns.Nodup → ns.length + t.sz ≤ 100000 → m + t.sz ≤ 100000 → (∀ k, k ∈ B → k < w.heap.size) →
    Calls Tryz.prog 103 #[.map (some mb), .pointer (some ⟨pb, po, none⟩)] w fun e w' => e = .returned (.tuple #[]) ∧ Tc w' pb po (giveT t ns).1.v (giveT t ns).1.f s ∧ (giveT t ns).1.Own w' s B ∧ (∃ m', m' ≤ m + t.sz ∧ IsAt w' mb m' (numF (giveT t ns).2)) ∧ Chg w w' B mb pb po := by
  induction N with
  | zero => intro t s B pb po m ns w h; have := t.sz_pos; omega
  | succ N ih =>
    intro t s B pb po m ns w hN h1000 hpv htc hown hBn hpB hmB hmp hM hns hnl hml hBl
    have hts := T.sz_eq t
    have hv := hpv t (parts_self t)
    obtain ⟨p0, p1, p2, pf⟩ := htc
    have HM := hide hM
    have Hown := hide hown
    have Hih := hide ih
    have Hpv := hide hpv
    have hMl := hM.lt
    have hpl := lt_of_cell p0
    have eg := eg103
    clear hM hown ih hpv
    go_enter Tryz.func103, Tryz.ntmps103
    go_upto_if 9 with fail
    go_cut [9] (fun v9 wc => Hid (Tc wc pb po (numV t.v ns) t.f s ∧ (∃ m1, m1 ≤ m + 1 ∧ IsAt wc mb m1 (numF (numL t.v ns))) ∧ Chg w wc [] mb pb po))
    case first =>
      by_cases hv0 : t.v = 0
      · have hn0 : numV t.v ns = 0 := by rw [numV, if_pos hv0]
        have hl0 : numL t.v ns = ns := by rw [numL, if_pos (Or.inl hv0)]
        have Hfin : Hid (Tc w pb po (numV t.v ns) t.f s ∧ (∃ m1, m1 ≤ m + 1 ∧ IsAt w mb m1 (numF (numL t.v ns))) ∧ Chg w w [] mb pb po) := by
          rw [hn0, hl0]
          exact ⟨⟨by rw [← hv0]; exact p0, p1, p2, pf⟩, ⟨m, by omega, HM.out⟩, Chg.refl _ _ _ _ _⟩
        clear hn0 hl0
        go_wp2_with fail
        go_meet
        exact Hfin
      · have hlook := MapAt.look HM.out (t := 143) Tryz.under143 (Tryz.zeroI _) (k := t.v) (by omega) (by omega)
        rw [getD_int] at hlook
        have hnv := numV_of (ns := ns) hv0
        have hnle := numV_le (v := t.v) (ns := ns) (by omega)
        obtain ⟨X, hX⟩ : ∃ X, X = numV t.v ns := ⟨_, rfl⟩
        by_cases hin : t.v ∈ ns
        · have hl0 : numL t.v ns = ns := by rw [numL, if_pos (Or.inr hin)]
          rw [hl0] at hnv
          rw [hnv, ← hX] at hlook
          have hX1 : 1 ≤ X := by rw [hX, numV, if_neg hv0]; omega
          have e1 : (X == 0) = false := by simp; omega
          have e2 : X ≠ 0 := by omega
          have Hfin : Hid (Tc (w.setCell ⟨pb, po, none⟩ (.int .i64 X)) pb po (numV t.v ns) t.f s ∧ (∃ m1, m1 ≤ m + 1 ∧ IsAt (w.setCell ⟨pb, po, none⟩ (.int .i64 X)) mb m1 (numF (numL t.v ns))) ∧ Chg w (w.setCell ⟨pb, po, none⟩ (.int .i64 X)) [] mb pb po) := by
            rw [hl0, ← hX]
            exact ⟨Tc.set ⟨p0, p1, p2, pf⟩ X, ⟨m, by omega, HM.out.set hmp _⟩, (Chg.refl _ _ _ _ _).set _⟩
          clear hX hnv hl0 hin
          simp only [Option.getD_some] at hlook
          go_wp2_with fail
          go_meet
          exact Hfin
        · have hl0 : numL t.v ns = ns ++ [t.v] := by rw [numL, if_neg (fun h => h.elim hv0 hin)]
          have hf0 : numF ns t.v = none := by rw [numF, if_neg hin]
          rw [hf0] at hlook
          simp only [Option.getD_none] at hlook
          have hX1 : X = (ns.length : Int) + 1 := by rw [hX, numV, if_neg hv0, hl0, List.idxOf_append, if_neg hin]; simp
          have hMd : IsAt w.drew mb m (numF ns) := MapAt.same HM.out rfl
          have hlen := fun ty => map_len hMd hns (t := 143) Tryz.under143 ty
          obtain ⟨w7, hrun, hM7, hg7⟩ := MapAt.store hMd (t := 143) Tryz.under143 (show m < maxLen by unfold maxLen; omega) (k := t.v) (by omega) (by omega) (.int .i64 ((ns.length : Int) + 1))
          have hM7' : IsAt w7 mb (m + 1) (numF (numL t.v ns)) := by
            have hfe : (fun k => (numF (numL t.v ns) k).map (Value.int .i64)) = (fun j => if j = t.v then some (Value.int .i64 ((ns.length : Int) + 1)) else (numF ns j).map (Value.int .i64)) := funext fun k => by
              rw [hl0, numF_new hv0 hin]
              by_cases e : k = t.v
              · rw [if_pos e, if_pos e]; rfl
              · rw [if_neg e, if_neg e]
            unfold IsAt
            rw [hfe]
            exact hM7
          have hlook7 := MapAt.look hM7' (t := 143) Tryz.under143 (Tryz.zeroI _) (k := t.v) (by omega) (by omega)
          rw [getD_int, hnv, ← hX] at hlook7
          simp only [Option.getD_some] at hlook7
          have hg7' : w.grownBy w7 (some mb) := ⟨hg7.os, hg7.tape, hg7.output, hg7.size, hg7.block⟩
          have hpb : w7.heap[pb]? = w.heap[pb]? := hg7'.block pb hpl (fun e => hmp (by injection e with e; exact e.symm))
          have htc7 : Tc w7 pb po t.v t.f s := Tc.same ⟨p0, p1, p2, pf⟩ hpb
          have Hfin : Hid (Tc (w7.setCell ⟨pb, po, none⟩ (.int .i64 X)) pb po (numV t.v ns) t.f s ∧ (∃ m1, m1 ≤ m + 1 ∧ IsAt (w7.setCell ⟨pb, po, none⟩ (.int .i64 X)) mb m1 (numF (numL t.v ns))) ∧ Chg w (w7.setCell ⟨pb, po, none⟩ (.int .i64 X)) [] mb pb po) := by
            rw [← hX]
            exact ⟨htc7.set X, ⟨m + 1, by omega, hM7'.set hmp _⟩, (Chg.grown hg7' hpl hmp []).set _⟩
          obtain ⟨r0, r1, r2, rf⟩ := htc7
          have d0 : w.drew.cell? ⟨pb, po, none⟩ = some (.int .i64 t.v) := p0
          have hX2 : X ≠ 0 := by omega
          clear hX hnv hl0 hin hf0 hM7 hM7' hg7 hg7' hpb hMd hX1
          go_wp2_with fail
          go_region
          all_goals
            go_wp2_with fail
            go_meet
            exact Hfin
    case rest =>
      obtain ⟨htc1, ⟨m1, hm1, hM1⟩, hch⟩ := Hid.out hcut
      obtain ⟨nv, hnv⟩ : ∃ nv, nv = numV t.v ns := ⟨_, rfl⟩
      obtain ⟨ns1, hns1⟩ : ∃ n1, n1 = numL t.v ns := ⟨_, rfl⟩
      rw [← hnv] at htc1
      rw [← hns1] at hM1
      have hown1 : t.Own wc s B := Own_mono (fun k hk => hch.block k (hBl k hk) (fun e => hpB (by rw [← e]; exact hk)) (fun e => hmB (by rw [← e]; exact hk)) (by simp)) Hown.out
      have hns1n : ns1.Nodup := by rw [hns1]; exact numL_nodup hns
      have hns1l : ns1.length ≤ ns.length + 1 := by rw [hns1]; exact numL_len _ _
      have HG : Hid (giveT t ns = (⟨nv, t.f, (giveT.giveL t.args ns1).1⟩, (giveT.giveL t.args ns1).2)) := by show _ = _; rw [giveT_eq, ← hnv, ← hns1]
      have hplc : pb < wc.heap.size := Nat.lt_of_lt_of_le hpl hch.size
      have hBlc : ∀ k, k ∈ B → k < wc.heap.size := fun k hk => Nat.lt_of_lt_of_le (hBl k hk) hch.size
      clear hcut p0 p1 p2 pf Hown HM hnv hns1
      rcases Own_iff.1 hown1 with ⟨ha, rfl, rfl⟩ | ⟨hne, b, B', rfl, rfl, hfr, hOL⟩
      · obtain ⟨p0, p1, p2, pf⟩ := htc1
        have Hfin : Hid (Tc wc pb po (giveT t ns).1.v (giveT t ns).1.f (.slice none 0 0) ∧ (giveT t ns).1.Own wc (.slice none 0 0) [] ∧ (∃ m', m' ≤ m + t.sz ∧ IsAt wc mb m' (numF (giveT t ns).2)) ∧ Chg w wc [] mb pb po) := by
          rw [HG.out, ha]
          have := t.sz_pos
          exact ⟨⟨p0, p1, p2, pf⟩, Own_iff.2 (Or.inl ⟨rfl, rfl, rfl⟩), ⟨m1, by omega, hM1⟩, hch⟩
        clear hM1 hch HG hts
        go_wp2_with fail
        go_loopw [39] (fun i wr => i = .int .i64 0 ∧ Hid (wr = wc)) (fun _ _ => 0)
        case atStart => exact ⟨rfl, rfl⟩
        case round =>
          obtain ⟨rfl, hwr⟩ := hrel
          obtain rfl := (show wc = _ from Eq.symm hwr)
          go_wp2_with fail
          go_end0
          exact ⟨rfl, Hfin.out⟩
      · have hal : t.args.length ≤ 1000 := by have := T.length_le t.args; omega
        have HL0 : Hid (GL w wc mb pb po m t.args ns1 nv t.f (.slice (some ⟨b, 0, none⟩) t.args.length t.args.length) b B' 0) := by
          refine ⟨hOL, ⟨m1, by rw [List.take_zero, T.szL_nil]; omega, hM1⟩, ⟨hch.os, hch.tape, hch.output, hch.size, fun j hj h1 h2 _ => hch.block j hj h1 h2 (by simp), hch.cell, hch.fr⟩, htc1, hfr⟩
        have HBn := hide hBn
        have HpB := hide hpB
        have HmB := hide hmB
        obtain ⟨p0, p1, p2, pf⟩ := htc1
        clear hM1 hch hOL hown1 hBn hpB hmB
        go_wp2_with fail
        go_loopw [39] (fun i wr => ∃ k : Nat, k ≤ t.args.length ∧ i = .int .i64 (k : Int) ∧ Hid (GL w wr mb pb po m t.args ns1 nv t.f (.slice (some ⟨b, 0, none⟩) t.args.length t.args.length) b B' k) ∧ Hid (wc.heap.size ≤ wr.heap.size)) (fun i _ => t.args.length - (intOf i).toNat)
        case atStart => exact ⟨0, Nat.zero_le _, rfl, HL0, Nat.le_refl _⟩
        case round =>
          obtain ⟨k, hk, rfl, hgl, hzr⟩ := hrel
          have HGL := hide (Hid.out hgl)
          have Hzr := hide (Hid.out hzr)
          clear hgl hzr
          by_cases hlt : k < t.args.length
          · obtain ⟨x, hx⟩ : ∃ x, t.args[k]? = some x := ⟨t.args[k], List.getElem?_eq_getElem hlt⟩
            have hlen : (giveT.giveL (t.args.take k) ns1).1.length = k := by rw [giveL_length, List.length_take]; omega
            have hxa : ((giveT.giveL (t.args.take k) ns1).1 ++ t.args.drop k)[k]? = some x := by
              rw [List.getElem?_append_right (by omega), hlen, Nat.sub_self, List.getElem?_drop, Nat.add_zero]; exact hx
            have hBn2 := HBn.out
            rw [List.nodup_cons] at hBn2
            obtain ⟨s', Bk, a0, a1, a2, a3, a4, a5, a6⟩ := OwnL_open HGL.out.own hxa hBn2.2
            obtain ⟨m2, hm2, hM2⟩ := HGL.out.map
            have hxm := List.mem_of_getElem? hx
            have hxs := arg_sz hxm
            have hst := szL_take_all hx
            have hgr := (give_grow (T.sz.szL (t.args.take k))).2 (t.args.take k) ns1 (Nat.le_refl _) hns1n
            have hzr2 := Hzr.out
            have HR := hide (Hih.out x s' Bk b (k * 3) m2 (giveT.giveL (t.args.take k) ns1).2 wr (by omega) (by omega) (fun y hy => Hpv.out y (parts_arg hxm hy)) ⟨by rw [Nat.zero_add] at a0; exact a0, by rw [Nat.zero_add] at a1; exact a1, by rw [Nat.zero_add] at a2; exact a2, HGL.out.fr⟩ a3 a5 (fun hj => hBn2.1 (a4 b hj)) (fun hj => HmB.out (List.mem_cons_of_mem _ (a4 mb hj))) (fun e => HmB.out (by rw [e]; exact List.mem_cons_self)) hM2 hgr.1 (by omega) (by omega) (fun j hj => by have := hBlc j (List.mem_cons_of_mem _ (a4 j hj)); omega))
            have HSt := hide (fun (w2 : World) => GL.step (w2 := w2) HGL.out hx HBn.out HpB.out HmB.out hmp (by omega) (fun j hj => by have := hBlc j hj; omega) a4 a6)
            obtain ⟨q0, q1, q2, qf⟩ := HGL.out.tc
            have hkI : (k : Int) < t.args.length := by omega
            have hk0 : (0 : Int) ≤ k := by omega
            have Hm2 := hide hm2
            clear a0 a1 a2 a3 a4 a5 a6 hM2 hx hxa hlen hBn2 hm2 hxm hgr
            go_wp2_with fail
            refine HR.out.mono ?_
            rintro e w2 ⟨rfl, g1, g2, ⟨m3, hm3, hM3⟩, g4⟩
            have HN := hide (HSt.out w2 g1 g2 ⟨m3, by have := Hm2.out; omega, hM3⟩ g4)
            have Hz2 := hide (Nat.le_trans Hzr.out g4.size)
            clear HR HSt g1 g2 hM3 g4 q0 q1 q2 qf
            go_wp2_with fail
            go_roundw
            case rel => exact ⟨k + 1, by omega, by go_num, HN, Hz2⟩
            case measure => simp [intOf]; omega
          · have hk2 : k = t.args.length := by omega
            subst hk2
            have hgl := HGL.out
            obtain ⟨h1, ⟨m2, h2, h3⟩, h4, h5, h6⟩ := hgl
            rw [List.take_length, List.drop_length, List.append_nil] at h1
            rw [List.take_length] at h2 h3
            have Hfin : Hid (Tc wr pb po (giveT t ns).1.v (giveT t ns).1.f (.slice (some ⟨b, 0, none⟩) t.args.length t.args.length) ∧ (giveT t ns).1.Own wr (.slice (some ⟨b, 0, none⟩) t.args.length t.args.length) (b :: B') ∧ (∃ m', m' ≤ m + t.sz ∧ IsAt wr mb m' (numF (giveT t ns).2)) ∧ Chg w wr (b :: B') mb pb po) := by
              rw [HG.out]
              refine ⟨h5, Own_iff.2 (Or.inr ⟨fun e => hne ?_, b, B', by simp only; rw [giveL_length], rfl, h6, h1⟩), ⟨m2, by omega, h3⟩, h4⟩
              have := giveL_length t.args ns1
              rw [show (giveT.giveL t.args ns1).1 = [] from e] at this
              exact List.length_eq_zero_iff.1 this.symm
            clear h1 h2 h3 h4 h5 h6
            go_wp2_with fail
            go_end0
            exact ⟨rfl, Hfin.out⟩
end Go.Proofs.YtbkedppkdhfpoabGreat
