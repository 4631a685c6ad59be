/- Variables that are numbered anew, in a term of the program's own. Does a clause hold, by which things its variables are: the program's closures. Clauses in new memory, whose variables are numbered anew; Tidy. -/
import Derived.Deep.DeepCutAuto
import Derived.Deep.RegionHeld3
import Derived.Test.YtbkedppkdhfpoabGreatJoined14
namespace Go.Proofs.YtbkedppkdhfpoabGreat
open Go.RowKit Go.Maps
def numF (ns : List Int) (v : Int) : Option Int := if v ∈ ns then some ((ns.idxOf v : Int) + 1) else none
def numL (v : Int) (ns : List Int) : List Int := if v = 0 ∨ v ∈ ns then ns else ns ++ [v]
def numV (v : Int) (ns : List Int) : Int := if v = 0 then 0 else ((numL v ns).idxOf v : Int) + 1
def giveT : T → List Int → T × List Int
  | ⟨v, f, args⟩, ns => (⟨numV v ns, f, (giveL args (numL v ns)).1⟩, (giveL args (numL v ns)).2)
  where
  giveL : List T → List Int → List T × List Int
    | [], ns => ([], ns)
    | t :: ts, ns => ((giveT t ns).1 :: (giveL ts (giveT t ns).2).1, (giveL ts (giveT t ns).2).2)
theorem giveT_eq (t : T) (ns : List Int) : giveT t ns = (⟨numV t.v ns, t.f, (giveT.giveL t.args (numL t.v ns)).1⟩, (giveT.giveL t.args (numL t.v ns)).2) := by cases t; rfl
theorem giveL_snoc (x : T) : ∀ (ts : List T) (ns : List Int), giveT.giveL (ts ++ [x]) ns = ((giveT.giveL ts ns).1 ++ [(giveT x (giveT.giveL ts ns).2).1], (giveT x (giveT.giveL ts ns).2).2) := by
  intro ts
  induction ts with
  | nil => intro ns; rfl
  | cons t ts ih =>
    intro ns
    show ((giveT t ns).1 :: (giveT.giveL (ts ++ [x]) (giveT t ns).2).1, (giveT.giveL (ts ++ [x]) (giveT t ns).2).2) = _
    rw [ih]; rfl
theorem giveL_step {ts : List T} {k : Nat} {x : T} (h : ts[k]? = some x) (ns : List Int) : giveT.giveL (ts.take (k + 1)) ns = ((giveT.giveL (ts.take k) ns).1 ++ [(giveT x (giveT.giveL (ts.take k) ns).2).1], (giveT x (giveT.giveL (ts.take k) ns).2).2) := by
  rw [List.take_add_one, h]; exact giveL_snoc x _ ns
theorem giveL_length : ∀ (ts : List T) (ns : List Int), (giveT.giveL ts ns).1.length = ts.length := by
  intro ts
  induction ts with
  | nil => intro ns; rfl
  | cons t ts ih => intro ns; show (_ :: (giveT.giveL ts (giveT t ns).2).1).length = _; rw [List.length_cons, ih, List.length_cons]
theorem numL_nodup {v : Int} {ns : List Int} (h : ns.Nodup) : (numL v ns).Nodup := by
  rw [numL]
  split
  · exact h
  · rename_i h1
    rw [List.nodup_append]
    refine ⟨h, by simp, fun a ha b hb e => ?_⟩
    simp at hb
    exact h1 (Or.inr (by rw [← hb, ← e]; exact ha))
theorem numL_len (v : Int) (ns : List Int) : (numL v ns).length ≤ ns.length + 1 := by
  rw [numL]; split
  · omega
  · simp
theorem give_grow : ∀ (n : Nat), (∀ (t : T) (ns : List Int), t.sz ≤ n → ns.Nodup → (giveT t ns).2.Nodup ∧ (giveT t ns).2.length ≤ ns.length + t.sz) ∧ (∀ (ts : List T) (ns : List Int), T.sz.szL ts ≤ n → ns.Nodup → (giveT.giveL ts ns).2.Nodup ∧ (giveT.giveL ts ns).2.length ≤ ns.length + T.sz.szL ts) := by
  intro n
  induction n with
  | zero =>
    refine ⟨fun t ns h => by have := t.sz_pos; omega, fun ts ns h hn => ?_⟩
    cases ts with
    | nil => exact ⟨hn, Nat.le_add_right _ _⟩
    | cons t ts => have := t.sz_pos; rw [T.szL_cons] at h; omega
  | succ n ih =>
    have h1 : ∀ (t : T) (ns : List Int), t.sz ≤ n + 1 → ns.Nodup → (giveT t ns).2.Nodup ∧ (giveT t ns).2.length ≤ ns.length + t.sz := fun t ns h hn => by
      have he := T.sz_eq t
      rw [giveT_eq]
      have h2 := ih.2 t.args (numL t.v ns) (by omega) (numL_nodup hn)
      have h3 := numL_len t.v ns
      exact ⟨h2.1, by simp only; omega⟩
    refine ⟨h1, fun ts => ?_⟩
    induction ts with
    | nil => intro ns _ hn; exact ⟨hn, Nat.le_add_right _ _⟩
    | cons t ts iht =>
      intro ns h hn
      rw [T.szL_cons] at h ⊢
      have a1 := h1 t ns (by omega) hn
      have a2 := iht (giveT t ns).2 (by omega) a1.1
      exact ⟨a2.1, by show (giveT.giveL ts (giveT t ns).2).2.length ≤ _; omega⟩
theorem numF_new {ns : List Int} {v : Int} (h0 : v ≠ 0) (hv : v ∉ ns) (k : Int) : numF (ns ++ [v]) k = if k = v then some ((ns.length : Int) + 1) else numF ns k := by
  rw [numF]
  by_cases e : k = v
  · subst e
    rw [if_pos (by simp), if_pos rfl, List.idxOf_append, if_neg hv]
    simp
  · rw [if_neg e, numF]
    by_cases hk : k ∈ ns
    · rw [if_pos (by simp [hk]), if_pos hk, List.idxOf_append, if_pos hk]
    · rw [if_neg (by simp [hk, e]), if_neg hk]
theorem map_len {w : World} {b n : Nat} {ns : List Int} (h : IsAt w b n (numF ns)) (hn : ns.Nodup) {t e : TypeId} (ht : Tryz.prog.underlying t = some (.map 3 e)) (ty : TypeId) : (Builtin.len_ #[t] ty #[.map (some b)]).run Tryz.prog w = .ok (.int .i64 (ns.length : Nat)) w := by
  obtain ⟨D, hD, hf⟩ := h
  have hp := keys_perm hD hf hn (fun x => by rw [numF]; split <;> simp_all)
  have e1 : Maps.size D = ns.length := by
    rw [hp.length_eq]
    obtain ⟨es, rfl⟩ := hD.isMap
    simp [intKeys, Maps.size]
  rw [hD.len ht ty, e1]
theorem OwnL_open {w : World} : ∀ {ts : List T} {b off : Nat} {B : List Nat} {k : Nat} {x : T}, OwnL w ts b off B → ts[k]? = some x → B.Nodup →
    ∃ s Bk, w.cell? ⟨b, off + k * 3, none⟩ = some (.int .i64 x.v) ∧ w.cell? ⟨b, off + k * 3 + 1, none⟩ = some (.int .i64 x.f) ∧ w.cell? ⟨b, off + k * 3 + 2, none⟩ = some s ∧ x.Own w s Bk ∧ (∀ j, j ∈ Bk → j ∈ B) ∧ Bk.Nodup ∧
      ∀ (w' : World) (x' : T), w'.cell? ⟨b, off + k * 3, none⟩ = some (.int .i64 x'.v) → w'.cell? ⟨b, off + k * 3 + 1, none⟩ = some (.int .i64 x'.f) → w'.cell? ⟨b, off + k * 3 + 2, none⟩ = some s → x'.Own w' s Bk →
        (∀ j, (j < off + k * 3 ∨ off + k * 3 + 2 < j) → w'.cell? ⟨b, j, none⟩ = w.cell? ⟨b, j, none⟩) → (∀ i, i ∈ B → i ∉ Bk → w'.heap[i]? = w.heap[i]?) → OwnL w' (ts.set k x') b off B := by
  intro ts
  induction ts with
  | nil => intro b off B k x _ h; simp at h
  | cons t ts ih =>
    intro b off B k x h hk hn
    obtain ⟨s, Bt, Br, rfl, h0, h1, h2, hown, hr⟩ := OwnL_cons.1 h
    rw [List.nodup_append] at hn
    cases k with
    | zero =>
      simp at hk; subst hk
      refine ⟨s, Bt, by simpa using h0, by simpa using h1, by simpa using h2, hown, fun j hj => List.mem_append_left _ hj, hn.1, fun w' x' g0 g1 g2 go gc gh => ?_⟩
      refine OwnL_cons.2 ⟨s, Bt, Br, rfl, by simpa using g0, by simpa using g1, by simpa using g2, go, ?_⟩
      exact OwnL_mono _ ts b (off + 3) Br (Nat.le_refl _) (fun i hi => gh i (List.mem_append_right _ hi) (fun hb => hn.2.2 i hb i hi rfl)) (fun j hj _ => gc j (by omega)) hr
    | succ k =>
      obtain ⟨s', Bk, a0, a1, a2, a3, a4, a5, a6⟩ := ih hr (by simpa using hk) hn.2.1
      have e : off + 3 + k * 3 = off + (k + 1) * 3 := by omega
      rw [e] at a0 a1 a2 a6
      refine ⟨s', Bk, a0, a1, a2, a3, fun j hj => List.mem_append_right _ (a4 j hj), a5, fun w' x' g0 g1 g2 go gc gh => ?_⟩
      refine OwnL_cons.2 ⟨s, Bt, Br, rfl, by rw [gc off (by omega)]; exact h0, by rw [gc (off + 1) (by omega)]; exact h1, by rw [gc (off + 2) (by omega)]; exact h2, Own_mono (fun i hi => gh i (List.mem_append_left _ hi) (fun hb => hn.2.2 i hi i (a4 i hb) rfl)) hown, ?_⟩
      exact a6 w' x' g0 g1 g2 go gc (fun i hi hb => gh i (List.mem_append_right _ hi) hb)
structure Chg (w w' : World) (B : List Nat) (mb pb po : Nat) : Prop where
  os : w'.os = w.os
  tape : w'.tape = w.tape
  output : w'.output = w.output
  size : w.heap.size ≤ w'.heap.size
  block : ∀ k, k < w.heap.size → k ≠ pb → k ≠ mb → k ∉ B → w'.heap[k]? = w.heap[k]?
  cell : ∀ j, j ≠ po → w'.cell? ⟨pb, j, none⟩ = w.cell? ⟨pb, j, none⟩
  fr : ∀ j, w'.frozen? ⟨pb, j, none⟩ = w.frozen? ⟨pb, j, none⟩
theorem Chg.refl (w : World) (B : List Nat) (mb pb po : Nat) : Chg w w B mb pb po := ⟨rfl, rfl, rfl, Nat.le_refl _, fun _ _ _ _ _ => rfl, fun _ _ => rfl, fun _ => rfl⟩
theorem Chg.below {w w' : World} {B : List Nat} {mb pb po n : Nat} (h : Chg w w' B mb pb po) (hn : n ≤ w.heap.size) (h1 : n ≤ pb) (h2 : n ≤ mb) (h3 : ∀ k, k ∈ B → n ≤ k) : Below n w w' :=
  ⟨h.os, h.tape, h.output, h.size, fun k hk => h.block k (by omega) (by omega) (by omega) (fun hb => by have := h3 k hb; omega)⟩
theorem Tryz.under143 : Tryz.prog.underlying 143 = some (.map 3 3) := by kernel_rfl
theorem eg103 (args : Array Value) (w : World) : (callFunc 103 args).run Tryz.prog w = .ok (.enter 103 args) w := by kernel_rfl
structure Tc (w : World) (pb po : Nat) (v f : Int) (s : Value) : Prop where
  e0 : w.cell? ⟨pb, po, none⟩ = some (.int .i64 v)
  e1 : w.cell? ⟨pb, po + 1, none⟩ = some (.int .i64 f)
  e2 : w.cell? ⟨pb, po + 2, none⟩ = some s
  fr : ∀ j, w.frozen? ⟨pb, j, none⟩ = false
theorem Tc.same {w w' : World} {pb po : Nat} {v f : Int} {s : Value} (h : Tc w pb po v f s) (hs : w'.heap[pb]? = w.heap[pb]?) : Tc w' pb po v f s :=
  ⟨by rw [World.cell?_of_block (w := w) (a := ⟨pb, po, none⟩) hs]; exact h.e0, by rw [World.cell?_of_block (w := w) (a := ⟨pb, po + 1, none⟩) hs]; exact h.e1, by rw [World.cell?_of_block (w := w) (a := ⟨pb, po + 2, none⟩) hs]; exact h.e2, fun j => by rw [World.frozen?_of_block (w := w) (a := ⟨pb, j, none⟩) hs]; exact h.fr j⟩
theorem Tc.set {w : World} {pb po : Nat} {v f : Int} {s : Value} (h : Tc w pb po v f s) (x : Int) : Tc (w.setCell ⟨pb, po, none⟩ (.int .i64 x)) pb po x f s :=
  ⟨World.cell?_setCell_same _ _ _ h.e0, by rw [World.cell?_setCell_other _ _ _ _ (fun e => by injection e with _ e; omega)]; exact h.e1, by rw [World.cell?_setCell_other _ _ _ _ (fun e => by injection e with _ e; omega)]; exact h.e2, fun j => by rw [World.frozen?_setCell]; exact h.fr j⟩
theorem Chg.set {w w' : World} {B : List Nat} {mb pb po : Nat} (h : Chg w w' B mb pb po) (x : Value) : Chg w (w'.setCell ⟨pb, po, none⟩ x) B mb pb po :=
  ⟨h.os, h.tape, h.output, by rw [World.size_setCell]; exact h.size, fun k hk h1 h2 h3 => by rw [Below.heap_setCell _ _ _ _ h1]; exact h.block k hk h1 h2 h3, fun j hj => by rw [World.cell?_setCell_other _ _ _ _ (fun e => by injection e with _ e; exact hj e.symm)]; exact h.cell j hj, fun j => by rw [World.frozen?_setCell]; exact h.fr j⟩
theorem Chg.grown {w w' : World} {mb pb po : Nat} (h : w.grownBy w' (some mb)) (hp : pb < w.heap.size) (hne : mb ≠ pb) (B : List Nat) : Chg w w' B mb pb po := by
  have hb : w'.heap[pb]? = w.heap[pb]? := h.block pb hp (fun e => hne (by injection e with e; exact e.symm))
  exact ⟨h.os, h.tape, h.output, h.size, fun k hk _ h2 _ => h.block k hk (fun e => h2 (by injection e)), fun j _ => World.cell?_of_block (w := w) (a := ⟨pb, j, none⟩) hb, fun j => World.frozen?_of_block (w := w) (a := ⟨pb, j, none⟩) hb⟩
theorem IsAt.set {w : World} {b m : Nat} {g : Int → Option Int} (h : IsAt w b m g) {pb po : Nat} (hne : b ≠ pb) (x : Value) : IsAt (w.setCell ⟨pb, po, none⟩ x) b m g := MapAt.same h (Below.heap_setCell _ _ _ _ hne)
theorem numV_of {v : Int} {ns : List Int} (h0 : v ≠ 0) : numF (numL v ns) v = some (numV v ns) := by
  have hm : v ∈ numL v ns := by
    rw [numL]; split
    · rename_i h; rcases h with h | h
      · exact absurd h h0
      · exact h
    · simp
  rw [numF, if_pos hm, numV, if_neg h0]
theorem numV_le {v : Int} {ns : List Int} (h : ns.length ≤ 100000) : 0 ≤ numV v ns ∧ numV v ns ≤ 200000 := by
  rw [numV]
  split
  · omega
  · have h1 := List.idxOf_le_length (a := v) (l := numL v ns)
    have h2 := numL_len v ns
    omega
structure GL (w wr : World) (mb pb po m : Nat) (args : List T) (ns1 : List Int) (nv f : Int) (s : Value) (b : Nat) (B' : List Nat) (k : Nat) : Prop where
  own : OwnL wr ((giveT.giveL (args.take k) ns1).1 ++ args.drop k) b 0 B'
  map : ∃ m', m' ≤ m + 1 + T.sz.szL (args.take k) ∧ IsAt wr mb m' (numF (giveT.giveL (args.take k) ns1).2)
  chg : Chg w wr (b :: B') mb pb po
  tc : Tc wr pb po nv f s
  fr : ∀ j, wr.frozen? ⟨b, j, none⟩ = false
theorem szL_take_step {ts : List T} {k : Nat} {x : T} (h : ts[k]? = some x) : T.sz.szL (ts.take (k + 1)) = T.sz.szL (ts.take k) + x.sz := by
  rw [List.take_add_one, h]
  have : ∀ (a : List T), T.sz.szL (a ++ [x]) = T.sz.szL a + x.sz := fun a => by
    induction a with
    | nil => rw [List.nil_append, T.szL_cons, T.szL_nil]; omega
    | cons y a ih => rw [List.cons_append, T.szL_cons, T.szL_cons, ih]; omega
  exact this _
theorem szL_take_all {ts : List T} {k : Nat} {x : T} (h : ts[k]? = some x) : T.sz.szL (ts.take k) + x.sz ≤ T.sz.szL ts := by
  have h1 := szL_take_step h
  have h2 : ∀ (l : List T) (j : Nat), T.sz.szL (l.take j) ≤ T.sz.szL l := by
    intro l
    induction l with
    | nil => intro j; simp
    | cons y l ih =>
      intro j
      cases j with
      | zero => rw [List.take_zero, T.szL_nil]; omega
      | succ j => rw [List.take_succ_cons, T.szL_cons, T.szL_cons]; have := ih j; omega
  have := h2 ts (k + 1)
  omega
theorem GL.step {w wr w2 : World} {mb pb po m : Nat} {args : List T} {ns1 : List Int} {nv f : Int} {s : Value} {b : Nat} {B' : List Nat} {k : Nat} {x : T} {s' : Value} {Bk : List Nat} (h : GL w wr mb pb po m args ns1 nv f s b B' k) (hx : args[k]? = some x) (hBn : (b :: B').Nodup) (hpB : pb ∉ b :: B') (hmB : mb ∉ b :: B') (hmp : mb ≠ pb) (hpl : pb < wr.heap.size) (hBl : ∀ j, j ∈ b :: B' → j < wr.heap.size)
    (hsub : ∀ j, j ∈ Bk → j ∈ B') (hre : ∀ (w' : World) (x' : T), w'.cell? ⟨b, 0 + k * 3, none⟩ = some (.int .i64 x'.v) → w'.cell? ⟨b, 0 + k * 3 + 1, none⟩ = some (.int .i64 x'.f) → w'.cell? ⟨b, 0 + k * 3 + 2, none⟩ = some s' → x'.Own w' s' Bk →
        (∀ j, (j < 0 + k * 3 ∨ 0 + k * 3 + 2 < j) → w'.cell? ⟨b, j, none⟩ = wr.cell? ⟨b, j, none⟩) → (∀ i, i ∈ B' → i ∉ Bk → w'.heap[i]? = wr.heap[i]?) → OwnL w' (((giveT.giveL (args.take k) ns1).1 ++ args.drop k).set k x') b 0 B')
    (g1 : Tc w2 b (k * 3) (giveT x (giveT.giveL (args.take k) ns1).2).1.v (giveT x (giveT.giveL (args.take k) ns1).2).1.f s') (g2 : (giveT x (giveT.giveL (args.take k) ns1).2).1.Own w2 s' Bk) (g3 : ∃ m', m' ≤ m + 1 + T.sz.szL (args.take k) + x.sz ∧ IsAt w2 mb m' (numF (giveT x (giveT.giveL (args.take k) ns1).2).2)) (g4 : Chg wr w2 Bk mb b (k * 3)) :
    GL w w2 mb pb po m args ns1 nv f s b B' (k + 1) := by
  have hlt := (List.getElem?_eq_some_iff.1 hx).1
  have hlen : (giveT.giveL (args.take k) ns1).1.length = k := by rw [giveL_length, List.length_take]; omega
  have hbp : b ≠ pb := fun e => hpB (by rw [e]; exact List.mem_cons_self)
  have hpk : w2.heap[pb]? = wr.heap[pb]? := g4.block pb hpl (fun e => hbp e.symm) (fun e => hmp e.symm) (fun hj => hpB (List.mem_cons_of_mem _ (hsub pb hj)))
  rw [List.nodup_cons] at hBn
  refine ⟨?_, ?_, ⟨g4.os.trans h.chg.os, g4.tape.trans h.chg.tape, g4.output.trans h.chg.output, Nat.le_trans h.chg.size g4.size, fun j hj h1 h2 h3 => ?_, fun j hj => ?_, fun j => ?_⟩, h.tc.same hpk, fun j => by rw [g4.fr j]; exact h.fr j⟩
  · have hset : ((giveT.giveL (args.take k) ns1).1 ++ args.drop k).set k (giveT x (giveT.giveL (args.take k) ns1).2).1 = (giveT.giveL (args.take (k + 1)) ns1).1 ++ args.drop (k + 1) := by
      rw [giveL_step hx, List.drop_eq_getElem_cons hlt, List.append_assoc]
      have : ∀ (A R : List T) (y z : T), A.length = k → (A ++ y :: R).set k z = A ++ ([z] ++ R) := fun A R y z hA => by
        rw [List.set_append, if_neg (by omega), hA, Nat.sub_self]; rfl
      exact this _ _ _ _ hlen
    rw [← hset]
    refine hre w2 _ (by rw [Nat.zero_add]; exact g1.e0) (by rw [Nat.zero_add]; exact g1.e1) (by rw [Nat.zero_add]; exact g1.e2) g2 (fun j hj => g4.cell j (by omega)) (fun i hi hik => g4.block i (hBl i (List.mem_cons_of_mem _ hi)) (fun e => hBn.1 (by rw [← e]; exact hi)) (fun e => hmB (by rw [← e]; exact List.mem_cons_of_mem _ hi)) hik)
  · obtain ⟨m', h1, h2⟩ := g3
    rw [giveL_step hx]
    exact ⟨m', by rw [szL_take_step hx]; omega, h2⟩
  · rw [List.mem_cons, not_or] at h3
    have hjr : j < wr.heap.size := Nat.lt_of_lt_of_le hj h.chg.size
    rw [g4.block j hjr h3.1 h2 (fun hk => h3.2 (hsub j hk))]
    exact h.chg.block j hj h1 h2 (by rw [List.mem_cons, not_or]; exact h3)
  · rw [World.cell?_of_block (w := wr) (a := ⟨pb, j, none⟩) hpk]; exact h.chg.cell j hj
  · rw [World.frozen?_of_block (w := wr) (a := ⟨pb, j, none⟩) hpk]; exact h.chg.fr j
attribute [local go_sem ↓] Go.wp_at_zero Go.wp_at_succ
set_option maxRecDepth 100000 in
set_option maxHeartbeats 2000000 in
theorem give_any (mb : Nat) (N : Nat) : ∀ (t : T) (s : Value) (B : List Nat) (pb po m : Nat) (ns : List Int) (w : World), t.sz ≤ N → t.sz ≤ 1000 → (∀ x, x ∈ parts t → 0 ≤ x.v ∧ x.v ≤ 1000) → Tc w pb po t.v t.f s → t.Own w s B → B.Nodup → pb ∉ B → mb ∉ B → mb ≠ pb → IsAt w mb m (numF ns) → ns.Nodup → ns.length + t.sz ≤ 100000 → m + t.sz ≤ 100000 → (∀ k, k ∈ B → k < w.heap.size) →
    Calls Tryz.prog 103 #[.map (some mb), .pointer (some ⟨pb, po, none⟩)] w fun e w' => e = .returned (.tuple #[]) ∧ Tc w' pb po (giveT t ns).1.v (giveT t ns).1.f s ∧ (giveT t ns).1.Own w' s B ∧ (∃ m', m' ≤ m + t.sz ∧ IsAt w' mb m' (numF (giveT t ns).2)) ∧ Chg w w' B mb pb po := by
  induction N with
  | zero => intro t s B pb po m ns w h; have := t.sz_pos; omega
  | succ N ih =>
    intro t s B pb po m ns w hN h1000 hpv htc hown hBn hpB hmB hmp hM hns hnl hml hBl
    have hts := T.sz_eq t
    have hv := hpv t (parts_self t)
    obtain ⟨p0, p1, p2, pf⟩ := htc
    have HM := hide hM
    have Hown := hide hown
    have Hih := hide ih
    have Hpv := hide hpv
    have hMl := hM.lt
    have hpl := lt_of_cell p0
    have eg := eg103
    clear hM hown ih hpv
    go_enter Tryz.func103, Tryz.ntmps103
    go_upto_if 9 with fail
    go_cut [9] (fun v9 wc => Hid (Tc wc pb po (numV t.v ns) t.f s ∧ (∃ m1, m1 ≤ m + 1 ∧ IsAt wc mb m1 (numF (numL t.v ns))) ∧ Chg w wc [] mb pb po))
    case first =>
      by_cases hv0 : t.v = 0
      · have hn0 : numV t.v ns = 0 := by rw [numV, if_pos hv0]
        have hl0 : numL t.v ns = ns := by rw [numL, if_pos (Or.inl hv0)]
        have Hfin : Hid (Tc w pb po (numV t.v ns) t.f s ∧ (∃ m1, m1 ≤ m + 1 ∧ IsAt w mb m1 (numF (numL t.v ns))) ∧ Chg w w [] mb pb po) := by
          rw [hn0, hl0]
          exact ⟨⟨by rw [← hv0]; exact p0, p1, p2, pf⟩, ⟨m, by omega, HM.out⟩, Chg.refl _ _ _ _ _⟩
        clear hn0 hl0
        go_wp2_with fail
        go_meet
        exact Hfin
      · have hlook := MapAt.look HM.out (t := 143) Tryz.under143 (Tryz.zeroI _) (k := t.v) (by omega) (by omega)
        rw [getD_int] at hlook
        have hnv := numV_of (ns := ns) hv0
        have hnle := numV_le (v := t.v) (ns := ns) (by omega)
        obtain ⟨X, hX⟩ : ∃ X, X = numV t.v ns := ⟨_, rfl⟩
        by_cases hin : t.v ∈ ns
        · have hl0 : numL t.v ns = ns := by rw [numL, if_pos (Or.inr hin)]
          rw [hl0] at hnv
          rw [hnv, ← hX] at hlook
          have hX1 : 1 ≤ X := by rw [hX, numV, if_neg hv0]; omega
          have e1 : (X == 0) = false := by simp; omega
          have e2 : X ≠ 0 := by omega
          have Hfin : Hid (Tc (w.setCell ⟨pb, po, none⟩ (.int .i64 X)) pb po (numV t.v ns) t.f s ∧ (∃ m1, m1 ≤ m + 1 ∧ IsAt (w.setCell ⟨pb, po, none⟩ (.int .i64 X)) mb m1 (numF (numL t.v ns))) ∧ Chg w (w.setCell ⟨pb, po, none⟩ (.int .i64 X)) [] mb pb po) := by
            rw [hl0, ← hX]
            exact ⟨Tc.set ⟨p0, p1, p2, pf⟩ X, ⟨m, by omega, HM.out.set hmp _⟩, (Chg.refl _ _ _ _ _).set _⟩
          clear hX hnv hl0 hin
          simp only [Option.getD_some] at hlook
          go_wp2_with fail
          go_meet
          exact Hfin
        · have hl0 : numL t.v ns = ns ++ [t.v] := by rw [numL, if_neg (fun h => h.elim hv0 hin)]
          have hf0 : numF ns t.v = none := by rw [numF, if_neg hin]
          rw [hf0] at hlook
          simp only [Option.getD_none] at hlook
          have hX1 : X = (ns.length : Int) + 1 := by rw [hX, numV, if_neg hv0, hl0, List.idxOf_append, if_neg hin]; simp
          have hMd : IsAt w.drew mb m (numF ns) := MapAt.same HM.out rfl
          have hlen := fun ty => map_len hMd hns (t := 143) Tryz.under143 ty
          obtain ⟨w7, hrun, hM7, hg7⟩ := MapAt.store hMd (t := 143) Tryz.under143 (show m < maxLen by unfold maxLen; omega) (k := t.v) (by omega) (by omega) (.int .i64 ((ns.length : Int) + 1))
          have hM7' : IsAt w7 mb (m + 1) (numF (numL t.v ns)) := by
            have hfe : (fun k => (numF (numL t.v ns) k).map (Value.int .i64)) = (fun j => if j = t.v then some (Value.int .i64 ((ns.length : Int) + 1)) else (numF ns j).map (Value.int .i64)) := funext fun k => by
              rw [hl0, numF_new hv0 hin]
              by_cases e : k = t.v
              · rw [if_pos e, if_pos e]; rfl
              · rw [if_neg e, if_neg e]
            unfold IsAt
            rw [hfe]
            exact hM7
          have hlook7 := MapAt.look hM7' (t := 143) Tryz.under143 (Tryz.zeroI _) (k := t.v) (by omega) (by omega)
          rw [getD_int, hnv, ← hX] at hlook7
          simp only [Option.getD_some] at hlook7
          have hg7' : w.grownBy w7 (some mb) := ⟨hg7.os, hg7.tape, hg7.output, hg7.size, hg7.block⟩
          have hpb : w7.heap[pb]? = w.heap[pb]? := hg7'.block pb hpl (fun e => hmp (by injection e with e; exact e.symm))
          have htc7 : Tc w7 pb po t.v t.f s := Tc.same ⟨p0, p1, p2, pf⟩ hpb
          have Hfin : Hid (Tc (w7.setCell ⟨pb, po, none⟩ (.int .i64 X)) pb po (numV t.v ns) t.f s ∧ (∃ m1, m1 ≤ m + 1 ∧ IsAt (w7.setCell ⟨pb, po, none⟩ (.int .i64 X)) mb m1 (numF (numL t.v ns))) ∧ Chg w (w7.setCell ⟨pb, po, none⟩ (.int .i64 X)) [] mb pb po) := by
            rw [← hX]
            exact ⟨htc7.set X, ⟨m + 1, by omega, hM7'.set hmp _⟩, (Chg.grown hg7' hpl hmp []).set _⟩
          obtain ⟨r0, r1, r2, rf⟩ := htc7
          have d0 : w.drew.cell? ⟨pb, po, none⟩ = some (.int .i64 t.v) := p0
          have hX2 : X ≠ 0 := by omega
          clear hX hnv hl0 hin hf0 hM7 hM7' hg7 hg7' hpb hMd hX1
          go_wp2_with fail
          go_region
          all_goals
            go_wp2_with fail
            go_meet
            exact Hfin
    case rest =>
      obtain ⟨htc1, ⟨m1, hm1, hM1⟩, hch⟩ := Hid.out hcut
      obtain ⟨nv, hnv⟩ : ∃ nv, nv = numV t.v ns := ⟨_, rfl⟩
      obtain ⟨ns1, hns1⟩ : ∃ n1, n1 = numL t.v ns := ⟨_, rfl⟩
      rw [← hnv] at htc1
      rw [← hns1] at hM1
      have hown1 : t.Own wc s B := Own_mono (fun k hk => hch.block k (hBl k hk) (fun e => hpB (by rw [← e]; exact hk)) (fun e => hmB (by rw [← e]; exact hk)) (by simp)) Hown.out
      have hns1n : ns1.Nodup := by rw [hns1]; exact numL_nodup hns
      have hns1l : ns1.length ≤ ns.length + 1 := by rw [hns1]; exact numL_len _ _
      have HG : Hid (giveT t ns = (⟨nv, t.f, (giveT.giveL t.args ns1).1⟩, (giveT.giveL t.args ns1).2)) := by show _ = _; rw [giveT_eq, ← hnv, ← hns1]
      have hplc : pb < wc.heap.size := Nat.lt_of_lt_of_le hpl hch.size
      have hBlc : ∀ k, k ∈ B → k < wc.heap.size := fun k hk => Nat.lt_of_lt_of_le (hBl k hk) hch.size
      clear hcut p0 p1 p2 pf Hown HM hnv hns1
      rcases Own_iff.1 hown1 with ⟨ha, rfl, rfl⟩ | ⟨hne, b, B', rfl, rfl, hfr, hOL⟩
      · obtain ⟨p0, p1, p2, pf⟩ := htc1
        have Hfin : Hid (Tc wc pb po (giveT t ns).1.v (giveT t ns).1.f (.slice none 0 0) ∧ (giveT t ns).1.Own wc (.slice none 0 0) [] ∧ (∃ m', m' ≤ m + t.sz ∧ IsAt wc mb m' (numF (giveT t ns).2)) ∧ Chg w wc [] mb pb po) := by
          rw [HG.out, ha]
          have := t.sz_pos
          exact ⟨⟨p0, p1, p2, pf⟩, Own_iff.2 (Or.inl ⟨rfl, rfl, rfl⟩), ⟨m1, by omega, hM1⟩, hch⟩
        clear hM1 hch HG hts
        go_wp2_with fail
        go_loopw [39] (fun i wr => i = .int .i64 0 ∧ Hid (wr = wc)) (fun _ _ => 0)
        case atStart => exact ⟨rfl, rfl⟩
        case round =>
          obtain ⟨rfl, hwr⟩ := hrel
          obtain rfl := (show wc = _ from Eq.symm hwr)
          go_wp2_with fail
          go_end0
          exact ⟨rfl, Hfin.out⟩
      · have hal : t.args.length ≤ 1000 := by have := T.length_le t.args; omega
        have HL0 : Hid (GL w wc mb pb po m t.args ns1 nv t.f (.slice (some ⟨b, 0, none⟩) t.args.length t.args.length) b B' 0) := by
          refine ⟨hOL, ⟨m1, by rw [List.take_zero, T.szL_nil]; omega, hM1⟩, ⟨hch.os, hch.tape, hch.output, hch.size, fun j hj h1 h2 _ => hch.block j hj h1 h2 (by simp), hch.cell, hch.fr⟩, htc1, hfr⟩
        have HBn := hide hBn
        have HpB := hide hpB
        have HmB := hide hmB
        obtain ⟨p0, p1, p2, pf⟩ := htc1
        clear hM1 hch hOL hown1 hBn hpB hmB
        go_wp2_with fail
        go_loopw [39] (fun i wr => ∃ k : Nat, k ≤ t.args.length ∧ i = .int .i64 (k : Int) ∧ Hid (GL w wr mb pb po m t.args ns1 nv t.f (.slice (some ⟨b, 0, none⟩) t.args.length t.args.length) b B' k) ∧ Hid (wc.heap.size ≤ wr.heap.size)) (fun i _ => t.args.length - (intOf i).toNat)
        case atStart => exact ⟨0, Nat.zero_le _, rfl, HL0, Nat.le_refl _⟩
        case round =>
          obtain ⟨k, hk, rfl, hgl, hzr⟩ := hrel
          have HGL := hide (Hid.out hgl)
          have Hzr := hide (Hid.out hzr)
          clear hgl hzr
          by_cases hlt : k < t.args.length
          · obtain ⟨x, hx⟩ : ∃ x, t.args[k]? = some x := ⟨t.args[k], List.getElem?_eq_getElem hlt⟩
            have hlen : (giveT.giveL (t.args.take k) ns1).1.length = k := by rw [giveL_length, List.length_take]; omega
            have hxa : ((giveT.giveL (t.args.take k) ns1).1 ++ t.args.drop k)[k]? = some x := by
              rw [List.getElem?_append_right (by omega), hlen, Nat.sub_self, List.getElem?_drop, Nat.add_zero]; exact hx
            have hBn2 := HBn.out
            rw [List.nodup_cons] at hBn2
            obtain ⟨s', Bk, a0, a1, a2, a3, a4, a5, a6⟩ := OwnL_open HGL.out.own hxa hBn2.2
            obtain ⟨m2, hm2, hM2⟩ := HGL.out.map
            have hxm := List.mem_of_getElem? hx
            have hxs := arg_sz hxm
            have hst := szL_take_all hx
            have hgr := (give_grow (T.sz.szL (t.args.take k))).2 (t.args.take k) ns1 (Nat.le_refl _) hns1n
            have hzr2 := Hzr.out
            have HR := hide (Hih.out x s' Bk b (k * 3) m2 (giveT.giveL (t.args.take k) ns1).2 wr (by omega) (by omega) (fun y hy => Hpv.out y (parts_arg hxm hy)) ⟨by rw [Nat.zero_add] at a0; exact a0, by rw [Nat.zero_add] at a1; exact a1, by rw [Nat.zero_add] at a2; exact a2, HGL.out.fr⟩ a3 a5 (fun hj => hBn2.1 (a4 b hj)) (fun hj => HmB.out (List.mem_cons_of_mem _ (a4 mb hj))) (fun e => HmB.out (by rw [e]; exact List.mem_cons_self)) hM2 hgr.1 (by omega) (by omega) (fun j hj => by have := hBlc j (List.mem_cons_of_mem _ (a4 j hj)); omega))
            have HSt := hide (fun (w2 : World) => GL.step (w2 := w2) HGL.out hx HBn.out HpB.out HmB.out hmp (by omega) (fun j hj => by have := hBlc j hj; omega) a4 a6)
            obtain ⟨q0, q1, q2, qf⟩ := HGL.out.tc
            have hkI : (k : Int) < t.args.length := by omega
            have hk0 : (0 : Int) ≤ k := by omega
            have Hm2 := hide hm2
            clear a0 a1 a2 a3 a4 a5 a6 hM2 hx hxa hlen hBn2 hm2 hxm hgr
            go_wp2_with fail
            refine HR.out.mono ?_
            rintro e w2 ⟨rfl, g1, g2, ⟨m3, hm3, hM3⟩, g4⟩
            have HN := hide (HSt.out w2 g1 g2 ⟨m3, by have := Hm2.out; omega, hM3⟩ g4)
            have Hz2 := hide (Nat.le_trans Hzr.out g4.size)
            clear HR HSt g1 g2 hM3 g4 q0 q1 q2 qf
            go_wp2_with fail
            go_roundw
            case rel => exact ⟨k + 1, by omega, by go_num, HN, Hz2⟩
            case measure => simp [intOf]; omega
          · have hk2 : k = t.args.length := by omega
            subst hk2
            have hgl := HGL.out
            obtain ⟨h1, ⟨m2, h2, h3⟩, h4, h5, h6⟩ := hgl
            rw [List.take_length, List.drop_length, List.append_nil] at h1
            rw [List.take_length] at h2 h3
            have Hfin : Hid (Tc wr pb po (giveT t ns).1.v (giveT t ns).1.f (.slice (some ⟨b, 0, none⟩) t.args.length t.args.length) ∧ (giveT t ns).1.Own wr (.slice (some ⟨b, 0, none⟩) t.args.length t.args.length) (b :: B') ∧ (∃ m', m' ≤ m + t.sz ∧ IsAt wr mb m' (numF (giveT t ns).2)) ∧ Chg w wr (b :: B') mb pb po) := by
              rw [HG.out]
              refine ⟨h5, Own_iff.2 (Or.inr ⟨fun e => hne ?_, b, B', by simp only; rw [giveL_length], rfl, h6, h1⟩), ⟨m2, by omega, h3⟩, h4⟩
              have := giveL_length t.args ns1
              rw [show (giveT.giveL t.args ns1).1 = [] from e] at this
              exact List.length_eq_zero_iff.1 this.symm
            clear h1 h2 h3 h4 h5 h6
            go_wp2_with fail
            go_end0
            exact ⟨rfl, Hfin.out⟩
end Go.Proofs.YtbkedppkdhfpoabGreat

namespace Go.Proofs.YtbkedppkdhfpoabGreat
open Go.RowKit
def litHolds (n : Int) (ls : List (List Int)) (f : Int → Int) (x : Lit) : Bool := x.1 == (valT n ls f x.2.1 == valT n ls f x.2.2)
def clHolds (n : Int) (ls : List (List Int)) (f : Int → Int) (c : List Lit) : Bool := c.any (litHolds n ls f)
def LitsOk (ar : List Int) (c : List Lit) : Prop := ∀ x, x ∈ c → (x.2.1.sz ≤ 120 ∧ okP ar x.2.1) ∧ (x.2.2.sz ≤ 120 ∧ okP ar x.2.2)
theorem litsErr_ok {ar : List Int} : ∀ {c : List Lit}, litsErr ar c = 0 → LitsOk ar c := by
  intro c
  induction c with
  | nil => intro _ x hx; cases hx
  | cons y c ih =>
    intro h x hx
    rw [litsErr] at h
    by_cases h1 : termErr ar y.2.1 = 0
    · rw [if_pos h1] at h
      by_cases h2 : termErr ar y.2.2 = 0
      · rw [if_pos h2] at h
        rcases List.mem_cons.1 hx with rfl | hx
        · exact ⟨termErr_iff.1 h1, termErr_iff.1 h2⟩
        · exact ih h x hx
      · rw [if_neg h2] at h; exact absurd h h2
    · rw [if_neg h1] at h; exact absurd h h1
attribute [local go_sem ↓] Go.wp_at_zero Go.wp_at_succ
set_option maxRecDepth 100000 in
set_option maxHeartbeats 1000000 in
theorem holdsC2_any {ar : List Int} {n : Int} {ls : List (List Int)} (hmo : MOk ar n ls) (ta : Option Addr) (tc b m : Nat) (g : Int → Option Int) (hr : ∀ k, 0 ≤ (g k).getD 0 ∧ (g k).getD 0 < n) (bi bm : Nat) (x : Lit) (a1 : Option Addr) (c1 : Nat) (a2 : Option Addr) (c2 : Nat) (w : World) (hx : (x.2.1.sz ≤ 120 ∧ okP ar x.2.1) ∧ (x.2.2.sz ≤ 120 ∧ okP ar x.2.2))
    (hM : IsAt w b m g) (hT : TabsP w ls ta) (hi1 : InL w x.2.1.args a1) (hi2 : InL w x.2.2.args a2) (ci : w.cell? ⟨bi, 0, none⟩ = some (.map (some b))) (cn : w.cell? ⟨bm, 0, none⟩ = some (.int .i64 n)) (ct : w.cell? ⟨bm, 1, none⟩ = some (.slice ta ls.length tc)) :
    Calls Tryz.prog 70 #[.agg #[.bool x.1, .int .i64 x.2.1.v, .int .i64 x.2.1.f, .slice a1 x.2.1.args.length c1, .int .i64 x.2.2.v, .int .i64 x.2.2.f, .slice a2 x.2.2.args.length c2], .pointer (some ⟨bi, 0, none⟩), .pointer (some ⟨bm, 0, none⟩)] w fun e w' => e = .returned (.bool (litHolds n ls (fun k => (g k).getD 0) x)) ∧ Below w.heap.size w w' := by
  obtain ⟨W1, hW1⟩ : ∃ W1, W1 = w.alloc (.cells #[.bool x.1, .int .i64 x.2.1.v, .int .i64 x.2.1.f, .slice a1 x.2.1.args.length c1, .int .i64 x.2.2.v, .int .i64 x.2.2.f, .slice a2 x.2.2.args.length c2] 79) := ⟨_, rfl⟩
  have hb1 : Below w.heap.size w W1 := by rw [hW1]; exact below1 _ _
  have hc : ∀ j, W1.cell? ⟨w.heap.size, j, none⟩ = (#[Value.bool x.1, .int .i64 x.2.1.v, .int .i64 x.2.1.f, .slice a1 x.2.1.args.length c1, .int .i64 x.2.2.v, .int .i64 x.2.2.f, .slice a2 x.2.2.args.length c2])[j]? := fun j => by rw [hW1]; exact cell_new j rfl
  have d0 : W1.cell? ⟨w.heap.size, 0, none⟩ = some (.bool x.1) := hc 0
  have d1 : W1.cell? ⟨w.heap.size, 1, none⟩ = some (.int .i64 x.2.1.v) := hc 1
  have d2 : W1.cell? ⟨w.heap.size, 2, none⟩ = some (.int .i64 x.2.1.f) := hc 2
  have d3 : W1.cell? ⟨w.heap.size, 3, none⟩ = some (.slice a1 x.2.1.args.length c1) := hc 3
  have d4 : W1.cell? ⟨w.heap.size, 4, none⟩ = some (.int .i64 x.2.2.v) := hc 4
  have d5 : W1.cell? ⟨w.heap.size, 5, none⟩ = some (.int .i64 x.2.2.f) := hc 5
  have d6 : W1.cell? ⟨w.heap.size, 6, none⟩ = some (.slice a2 x.2.2.args.length c2) := hc 6
  have HC1 := hide (fun (w' : World) (hb' : Below W1.heap.size W1 w') => valueP_any hmo ta tc b m g x.2.1.sz x.2.1 a1 c1 w' (Nat.le_refl _) hx.1.2 (fun y _ _ => hr y.v) (IsAt.below (IsAt.below hM hb1) hb') (TabsP_below hb' (TabsP_below hb1 hT)) (InP_below hb' (InP_below hb1 hi1)))
  have HC2 := hide (fun (w' : World) (hb' : Below W1.heap.size W1 w') => valueP_any hmo ta tc b m g x.2.2.sz x.2.2 a2 c2 w' (Nat.le_refl _) hx.2.2 (fun y _ _ => hr y.v) (IsAt.below (IsAt.below hM hb1) hb') (TabsP_below hb' (TabsP_below hb1 hT)) (InP_below hb' (InP_below hb1 hi2)))
  have hS := hide (fun (w' : World) (hb' : Below W1.heap.size W1 w') => (show w'.cell? ⟨w.heap.size, 0, none⟩ = some (.bool x.1) ∧ w'.cell? ⟨w.heap.size, 1, none⟩ = some (.int .i64 x.2.1.v) ∧ w'.cell? ⟨w.heap.size, 1 + 1, none⟩ = some (.int .i64 x.2.1.f) ∧ w'.cell? ⟨w.heap.size, 1 + 2, none⟩ = some (.slice a1 x.2.1.args.length c1) ∧ w'.cell? ⟨w.heap.size, 4, none⟩ = some (.int .i64 x.2.2.v) ∧ w'.cell? ⟨w.heap.size, 4 + 1, none⟩ = some (.int .i64 x.2.2.f) ∧ w'.cell? ⟨w.heap.size, 4 + 2, none⟩ = some (.slice a2 x.2.2.args.length c2) ∧
      w'.cell? ⟨bi, 0, none⟩ = some (.map (some b)) ∧ w'.cell? ⟨bm, 0, none⟩ = some (.int .i64 n) ∧ w'.cell? ⟨bm, 1, none⟩ = some (.slice ta ls.length tc) from
    ⟨cellB hb' d0, cellB hb' d1, cellB hb' d2, cellB hb' d3, cellB hb' d4, cellB hb' d5, cellB hb' d6, cellB hb' (cellB hb1 ci), cellB hb' (cellB hb1 cn), cellB hb' (cellB hb1 ct)⟩))
  obtain ⟨X1, hX1⟩ : ∃ X, X = valT n ls (fun k => (g k).getD 0) x.2.1 := ⟨_, rfl⟩
  obtain ⟨X2, hX2⟩ : ∃ X, X = valT n ls (fun k => (g k).getD 0) x.2.2 := ⟨_, rfl⟩
  have HZ : Hid (litHolds n ls (fun k => (g k).getD 0) x = (x.1 == (X1 == X2))) := by show _ = _; rw [litHolds, ← hX1, ← hX2]
  rw [← hX1] at HC1
  rw [← hX2] at HC2
  have HF0 := hide (Below.refl W1.heap.size W1)
  have Hb1 := hide hb1
  have HW1 := hide hW1
  rw [HZ.out]
  clear hW1 hb1 hc d0 d1 d2 d3 d4 d5 d6 hX1 hX2 hM hT hi1 hi2 ci cn ct hr hx hmo HZ
  go_enter Tryz.func70, Tryz.ntmps70
  go_wp2_with fail
  rw [← HW1.out]
  go_region_held3 (fun w' => w'.cell? ⟨w.heap.size, 0, none⟩ = some (.bool x.1) ∧ w'.cell? ⟨w.heap.size, 1, none⟩ = some (.int .i64 x.2.1.v) ∧ w'.cell? ⟨w.heap.size, 1 + 1, none⟩ = some (.int .i64 x.2.1.f) ∧ w'.cell? ⟨w.heap.size, 1 + 2, none⟩ = some (.slice a1 x.2.1.args.length c1) ∧ w'.cell? ⟨w.heap.size, 4, none⟩ = some (.int .i64 x.2.2.v) ∧ w'.cell? ⟨w.heap.size, 4 + 1, none⟩ = some (.int .i64 x.2.2.f) ∧ w'.cell? ⟨w.heap.size, 4 + 2, none⟩ = some (.slice a2 x.2.2.args.length c2) ∧
      w'.cell? ⟨bi, 0, none⟩ = some (.map (some b)) ∧ w'.cell? ⟨bm, 0, none⟩ = some (.int .i64 n) ∧ w'.cell? ⟨bm, 1, none⟩ = some (.slice ta ls.length tc)) ((first | (refine hS.out _ ?_; (repeat' (first | with_reducible exact Hid.out ‹Hid (Below _ _ _)› | with_reducible exact Below.refl _ _ | (with_reducible refine Below.drew ?_))); done) | go_keep)) ((first
    | (go_at_call 71
       with_reducible refine (HC1.out _ ?_).mono ?_
       · (repeat' (first | with_reducible exact Hid.out ‹Hid (Below _ _ _)› | with_reducible exact Below.refl _ _ | (with_reducible refine Below.drew ?_)))
       rintro e wA ⟨rfl, hbA⟩
       have HbA : Hid (Below W1.heap.size W1 wA) := by
         refine Below.trans (b := _) ?_ (hbA.mono ?_)
         · (repeat' (first | with_reducible exact Hid.out ‹Hid (Below _ _ _)› | with_reducible exact Below.refl _ _ | (with_reducible refine Below.drew ?_)))
         · first | exact Nat.le_refl _ | exact HbB.out.size
       clear hbA)
    | (go_at_call 71
       with_reducible refine (HC2.out _ ?_).mono ?_
       · (repeat' (first | with_reducible exact Hid.out ‹Hid (Below _ _ _)› | with_reducible exact Below.refl _ _ | (with_reducible refine Below.drew ?_)))
       rintro e wB ⟨rfl, hbB⟩
       have HbB : Hid (Below W1.heap.size W1 wB) := by
         refine Below.trans (b := _) ?_ (hbB.mono ?_)
         · (repeat' (first | with_reducible exact Hid.out ‹Hid (Below _ _ _)› | with_reducible exact Below.refl _ _ | (with_reducible refine Below.drew ?_)))
         · first | exact Nat.le_refl _ | exact HbA.out.size
       clear hbB)))
  all_goals
    go_wp2_with fail
    go_ret
    exact ⟨rfl, Hb1.out.trans (Below.mono (by first | exact HbB.out | exact HbA.out) Hb1.out.size)⟩
theorem eg70 (args : Array Value) (w : World) : (callFunc 70 args).run Tryz.prog w = .ok (.enter 70 args) w := by kernel_rfl
theorem any_stepL {p : Lit → Bool} {c : List Lit} {k : Nat} {x : Lit} (hx : c[k]? = some x) (h : (c.take k).any p = false) : (p x = false → (c.take (k + 1)).any p = false) ∧ (p x = true → c.any p = true) := by
  have hlt := (List.getElem?_eq_some_iff.1 hx).1
  constructor
  · intro h1
    rw [List.take_add_one, hx, List.any_append, h]
    simpa using h1
  · intro h1
    rw [List.any_eq_true]
    exact ⟨x, List.mem_of_getElem? hx, h1⟩
structure HS (ar : List Int) (n : Int) (ls : List (List Int)) (ta : Option Addr) (tc b bi bm : Nat) (c : List Lit) (ca : Option Addr) (w : World) (m : Nat) (g : Int → Option Int) : Prop where
  mo : MOk ar n ls
  ok : LitsOk ar c
  len : c.length ≤ 8
  rng : ∀ k, 0 ≤ (g k).getD 0 ∧ (g k).getD 0 < n
  map : IsAt w b m g
  tabs : TabsP w ls ta
  lits : LitsP w c ca
  ci : w.cell? ⟨bi, 0, none⟩ = some (.map (some b))
  cn : w.cell? ⟨bm, 0, none⟩ = some (.int .i64 n)
  ct : w.cell? ⟨bm, 1, none⟩ = some (.slice ta ls.length tc)
theorem HS.below {ar : List Int} {n : Int} {ls : List (List Int)} {ta : Option Addr} {tc b bi bm : Nat} {c : List Lit} {ca : Option Addr} {w w' : World} {m : Nat} {g : Int → Option Int} (h : HS ar n ls ta tc b bi bm c ca w m g) (hb : Below w.heap.size w w') : HS ar n ls ta tc b bi bm c ca w' m g :=
  ⟨h.mo, h.ok, h.len, h.rng, h.map.below hb, TabsP_below hb h.tabs, LitsP_below hb h.lits, cellB hb h.ci, cellB hb h.cn, cellB hb h.ct⟩
set_option maxRecDepth 100000 in
set_option maxHeartbeats 400000 in
theorem indexL_any {ar : List Int} {n : Int} {ls : List (List Int)} {ta : Option Addr} {tc b bi bm : Nat} {c : List Lit} {ca : Option Addr} {w : World} {m : Nat} {g : Int → Option Int} (h : HS ar n ls ta tc b bi bm c ca w m g) (cc : Nat) :
    Calls Tryz.prog 106 #[.slice ca c.length cc, .func (.func 70) #[] #[.pointer (some ⟨bi, 0, none⟩), .pointer (some ⟨bm, 0, none⟩)]] w fun e w' => (∃ i : Int, e = .returned (.int .i64 i) ∧ decide (0 ≤ i) = clHolds n ls (fun k => (g k).getD 0) c) ∧ Below w.heap.size w w' := by
  have eg := eg70
  have H := hide h
  have hl8 := h.len
  clear h
  go_enter Tryz.func106, Tryz.ntmps106
  go_wp2_with fail
  go_loopw [8] (fun i wr => ∃ k : Nat, k ≤ c.length ∧ i = .int .i64 k ∧ Hid ((c.take k).any (litHolds n ls (fun k => (g k).getD 0)) = false) ∧ Hid (Below w.heap.size w wr)) (fun i _ => c.length - (intOf i).toNat)
  case atStart => exact ⟨0, Nat.zero_le _, rfl, rfl, Below.refl _ _⟩
  case round =>
    obtain ⟨k, hk, rfl, Hk, Hbr⟩ := hrel
    have Hr := hide (H.out.below Hbr.out)
    by_cases hlt : k < c.length
    · obtain ⟨cb, coff, rfl⟩ := LitsP_some H.out.lits (by omega)
      obtain ⟨x, hx⟩ : ∃ x, c[k]? = some x := ⟨c[k], List.getElem?_eq_getElem hlt⟩
      obtain ⟨a1, c1, a2, c2, k0, k1, k2, k3, k4, k5, k6, hi1, hi2⟩ := LitsP_at Hr.out.lits hx
      have Hst := hide (any_stepL hx Hk.out)
      have HC := hide (holdsC2_any Hr.out.mo ta tc b m g Hr.out.rng bi bm x a1 c1 a2 c2 wr (Hr.out.ok x (List.mem_of_getElem? hx)) Hr.out.map Hr.out.tabs hi1 hi2 Hr.out.ci Hr.out.cn Hr.out.ct)
      have hI : (k : Int) < c.length := by omega
      have hk0 : (0 : Int) ≤ k := by omega
      clear hx hi1 hi2 Hk
      go_wp2_with fail
      refine HC.out.mono ?_
      rintro e w' ⟨rfl, hb'⟩
      have Hb' := hide (Hbr.out.trans (hb'.mono Hbr.out.size))
      clear hb' HC k0 k1 k2 k3 k4 k5 k6
      cases hd : litHolds n ls (fun k => (g k).getD 0) x with
      | false =>
        have Hn := hide (Hst.out.1 hd)
        clear Hst hd
        go_wp2_with fail
        go_roundw
        case rel => exact ⟨k + 1, by omega, by go_num, Hn, Hb'⟩
        case measure => simp [intOf]; omega
      | true =>
        have Hn := hide (Hst.out.2 hd)
        clear Hst hd
        go_wp2_with fail
        go_ret
        exact ⟨⟨k, rfl, by rw [clHolds, Hn.out]; simp⟩, Hb'.out⟩
    · have hk2 : k = c.length := by omega
      subst hk2
      rw [List.take_length] at Hk
      go_wp2_with fail
      go_ret
      exact ⟨⟨-1, rfl, by rw [clHolds, Hk.out]; rfl⟩, Hbr.out⟩
set_option maxRecDepth 100000 in
set_option maxHeartbeats 400000 in
theorem holdsC1_any {ar : List Int} {n : Int} {ls : List (List Int)} {ta : Option Addr} {tc b bi bm : Nat} {c : List Lit} {ca : Option Addr} {w : World} {m : Nat} {g : Int → Option Int} (h : HS ar n ls ta tc b bi bm c ca w m g) (cc bc : Nat) (hc : w.cell? ⟨bc, 0, none⟩ = some (.slice ca c.length cc)) :
    Calls Tryz.prog 69 #[.pointer (some ⟨bc, 0, none⟩), .pointer (some ⟨bi, 0, none⟩), .pointer (some ⟨bm, 0, none⟩)] w fun e w' => e = .returned (.bool (clHolds n ls (fun k => (g k).getD 0) c)) ∧ Below w.heap.size w w' := by
  have HC : Hid (Calls Tryz.prog 44 #[.slice ca c.length cc, .func (.func 70) #[] #[.pointer (some ⟨bi, 0, none⟩), .pointer (some ⟨bm, 0, none⟩)]] w fun e w' => e = .returned (.bool (clHolds n ls (fun k => (g k).getD 0) c)) ∧ Below w.heap.size w w') := by
    have HX := hide (indexL_any h cc)
    clear h hc
    go_enter Tryz.func44, Tryz.ntmps44
    go_wp2_with fail
    refine HX.out.mono ?_
    rintro e w' ⟨⟨i, rfl, hi⟩, hb'⟩
    have Hi := hide hi
    have Hb := hide hb'
    clear hi hb'
    go_wp2_with fail
    go_ret
    exact ⟨ret_bool Hi.out, Hb.out⟩
  clear h
  go_enter Tryz.func69, Tryz.ntmps69
  go_wp2_with fail
  refine HC.out.mono ?_
  rintro e w' ⟨rfl, hb'⟩
  have Hb := hide hb'
  clear hb'
  go_wp2_with fail
  go_ret
  exact ⟨rfl, Hb.out⟩
end Go.Proofs.YtbkedppkdhfpoabGreat

namespace Go.Proofs.YtbkedppkdhfpoabGreat
open Go.RowKit Go.Maps
def OwnCl (w : World) : List Lit → Nat → Nat → List Nat → Prop
  | [], _, _, B => B = []
  | x :: c, g, off, B => ∃ s1 s2 B1 B2 Br, B = (B1 ++ B2) ++ Br ∧ w.cell? ⟨g, off, none⟩ = some (.bool x.1) ∧ w.cell? ⟨g, off + 1, none⟩ = some (.int .i64 x.2.1.v) ∧ w.cell? ⟨g, off + 2, none⟩ = some (.int .i64 x.2.1.f) ∧ w.cell? ⟨g, off + 3, none⟩ = some s1 ∧
      w.cell? ⟨g, off + 4, none⟩ = some (.int .i64 x.2.2.v) ∧ w.cell? ⟨g, off + 5, none⟩ = some (.int .i64 x.2.2.f) ∧ w.cell? ⟨g, off + 6, none⟩ = some s2 ∧ x.2.1.Own w s1 B1 ∧ x.2.2.Own w s2 B2 ∧ OwnCl w c g (off + 7) Br
theorem OwnCl_mono {w w' : World} : ∀ {c : List Lit} {g off : Nat} {B : List Nat}, (∀ k, k ∈ B → w'.heap[k]? = w.heap[k]?) → (∀ j, off ≤ j → j < off + c.length * 7 → w'.cell? ⟨g, j, none⟩ = w.cell? ⟨g, j, none⟩) → OwnCl w c g off B → OwnCl w' c g off B := by
  intro c
  induction c with
  | nil => intro g off B _ _ h; exact h
  | cons x c ih =>
    intro g off B hk hc h
    obtain ⟨s1, s2, B1, B2, Br, rfl, h0, h1, h2, h3, h4, h5, h6, o1, o2, hr⟩ := h
    have hl : (x :: c).length * 7 = 7 + c.length * 7 := by simp; omega
    rw [hl] at hc
    refine ⟨s1, s2, B1, B2, Br, rfl, by rw [hc off (by omega) (by omega)]; exact h0, by rw [hc (off + 1) (by omega) (by omega)]; exact h1, by rw [hc (off + 2) (by omega) (by omega)]; exact h2, by rw [hc (off + 3) (by omega) (by omega)]; exact h3, by rw [hc (off + 4) (by omega) (by omega)]; exact h4, by rw [hc (off + 5) (by omega) (by omega)]; exact h5, by rw [hc (off + 6) (by omega) (by omega)]; exact h6, Own_mono (fun k hk' => hk k (by simp [hk'])) o1, Own_mono (fun k hk' => hk k (by simp [hk'])) o2, ih (fun k hk' => hk k (by simp [hk'])) (fun j h1 h2 => hc j (by omega) (by omega)) hr⟩
theorem OwnCl_snoc {w : World} {x : Lit} {s1 s2 : Value} {B1 B2 : List Nat} : ∀ {c : List Lit} {g off : Nat} {B : List Nat}, OwnCl w c g off B → w.cell? ⟨g, off + c.length * 7, none⟩ = some (.bool x.1) → w.cell? ⟨g, off + c.length * 7 + 1, none⟩ = some (.int .i64 x.2.1.v) → w.cell? ⟨g, off + c.length * 7 + 2, none⟩ = some (.int .i64 x.2.1.f) → w.cell? ⟨g, off + c.length * 7 + 3, none⟩ = some s1 →
    w.cell? ⟨g, off + c.length * 7 + 4, none⟩ = some (.int .i64 x.2.2.v) → w.cell? ⟨g, off + c.length * 7 + 5, none⟩ = some (.int .i64 x.2.2.f) → w.cell? ⟨g, off + c.length * 7 + 6, none⟩ = some s2 → x.2.1.Own w s1 B1 → x.2.2.Own w s2 B2 → OwnCl w (c ++ [x]) g off (B ++ (B1 ++ B2)) := by
  intro c
  induction c with
  | nil =>
    intro g off B h h0 h1 h2 h3 h4 h5 h6 o1 o2
    rw [show B = [] from h]
    exact ⟨s1, s2, B1, B2, [], by simp, by simpa using h0, by simpa using h1, by simpa using h2, by simpa using h3, by simpa using h4, by simpa using h5, by simpa using h6, o1, o2, rfl⟩
  | cons y c ih =>
    intro g off B h h0 h1 h2 h3 h4 h5 h6 o1 o2
    obtain ⟨t1, t2, C1, C2, Br, rfl, g0, g1, g2, g3, g4, g5, g6, p1, p2, hr⟩ := h
    have e : off + (y :: c).length * 7 = off + 7 + c.length * 7 := by simp; omega
    rw [e] at h0 h1 h2 h3 h4 h5 h6
    exact ⟨t1, t2, C1, C2, Br ++ (B1 ++ B2), by simp, g0, g1, g2, g3, g4, g5, g6, p1, p2, ih hr h0 h1 h2 h3 h4 h5 h6 o1 o2⟩
theorem OwnCl_lits {w : World} : ∀ {c : List Lit} {g off : Nat} {B : List Nat}, OwnCl w c g off B → LitsP w c (some ⟨g, off, none⟩) := by
  intro c
  induction c with
  | nil => intro g off B _; trivial
  | cons x c ih =>
    intro g off B h
    obtain ⟨s1, s2, B1, B2, Br, rfl, h0, h1, h2, h3, h4, h5, h6, o1, o2, hr⟩ := h
    obtain ⟨a1, c1, rfl, i1⟩ := Own_in o1
    obtain ⟨a2, c2, rfl, i2⟩ := Own_in o2
    exact ⟨g, off, a1, c1, a2, c2, rfl, h0, h1, h2, h3, h4, h5, h6, i1, i2, ih hr⟩
def set7 (w : World) (b o : Nat) (u0 u1 u2 u3 u4 u5 u6 : Value) : World :=
  ((((((w.setCell ⟨b, o, none⟩ u0).setCell ⟨b, o + 1, none⟩ u1).setCell ⟨b, o + 2, none⟩ u2).setCell ⟨b, o + 3, none⟩ u3).setCell ⟨b, o + 4, none⟩ u4).setCell ⟨b, o + 5, none⟩ u5).setCell ⟨b, o + 6, none⟩ u6
theorem set7_block {w : World} {b o : Nat} {u0 u1 u2 u3 u4 u5 u6 : Value} {k : Nat} (h : k ≠ b) : (set7 w b o u0 u1 u2 u3 u4 u5 u6).heap[k]? = w.heap[k]? := by
  unfold set7
  rw [Below.heap_setCell _ _ _ _ h, Below.heap_setCell _ _ _ _ h, Below.heap_setCell _ _ _ _ h, Below.heap_setCell _ _ _ _ h, Below.heap_setCell _ _ _ _ h, Below.heap_setCell _ _ _ _ h, Below.heap_setCell _ _ _ _ h]
theorem set7_size {w : World} {b o : Nat} {u0 u1 u2 u3 u4 u5 u6 : Value} : (set7 w b o u0 u1 u2 u3 u4 u5 u6).heap.size = w.heap.size := by
  unfold set7; simp only [World.size_setCell]
theorem set7_fr {w : World} {b o : Nat} {u0 u1 u2 u3 u4 u5 u6 : Value} (a : Addr) : (set7 w b o u0 u1 u2 u3 u4 u5 u6).frozen? a = w.frozen? a := by
  unfold set7; simp only [World.frozen?_setCell]
theorem io_set (w : World) (a : Addr) (u : Value) : (w.setCell a u).os = w.os ∧ (w.setCell a u).tape = w.tape ∧ (w.setCell a u).output = w.output := ⟨rfl, rfl, rfl⟩
theorem set7_io {w : World} {b o : Nat} {u0 u1 u2 u3 u4 u5 u6 : Value} : (set7 w b o u0 u1 u2 u3 u4 u5 u6).os = w.os ∧ (set7 w b o u0 u1 u2 u3 u4 u5 u6).tape = w.tape ∧ (set7 w b o u0 u1 u2 u3 u4 u5 u6).output = w.output := by
  unfold set7
  refine ⟨?_, ?_, ?_⟩
  · rw [(io_set _ _ _).1, (io_set _ _ _).1, (io_set _ _ _).1, (io_set _ _ _).1, (io_set _ _ _).1, (io_set _ _ _).1, (io_set _ _ _).1]
  · rw [(io_set _ _ _).2.1, (io_set _ _ _).2.1, (io_set _ _ _).2.1, (io_set _ _ _).2.1, (io_set _ _ _).2.1, (io_set _ _ _).2.1, (io_set _ _ _).2.1]
  · rw [(io_set _ _ _).2.2, (io_set _ _ _).2.2, (io_set _ _ _).2.2, (io_set _ _ _).2.2, (io_set _ _ _).2.2, (io_set _ _ _).2.2, (io_set _ _ _).2.2]
theorem cell_set {w : World} {b i j : Nat} {u v : Value} (hv : w.cell? ⟨b, j, none⟩ = some v) : (w.setCell ⟨b, i, none⟩ u).cell? ⟨b, j, none⟩ = some (if i = j then u else v) := by
  by_cases e : i = j
  · subst e; rw [World.cell?_setCell_same _ _ _ hv, if_pos rfl]
  · rw [World.cell?_setCell_other _ _ _ _ (fun e3 => e (by injection e3)), if_neg e]; exact hv
theorem set7_cell {w : World} {b o j : Nat} {u0 u1 u2 u3 u4 u5 u6 v : Value} (hv : w.cell? ⟨b, j, none⟩ = some v) : (set7 w b o u0 u1 u2 u3 u4 u5 u6).cell? ⟨b, j, none⟩ = some (if o + 6 = j then u6 else if o + 5 = j then u5 else if o + 4 = j then u4 else if o + 3 = j then u3 else if o + 2 = j then u2 else if o + 1 = j then u1 else if o = j then u0 else v) := by
  unfold set7
  exact cell_set (cell_set (cell_set (cell_set (cell_set (cell_set (cell_set hv))))))
theorem set7_far {w : World} {b o j : Nat} {u0 u1 u2 u3 u4 u5 u6 : Value} (h : j < o ∨ o + 6 < j) : (set7 w b o u0 u1 u2 u3 u4 u5 u6).cell? ⟨b, j, none⟩ = w.cell? ⟨b, j, none⟩ := by
  have e : ∀ i, o ≤ i → i ≤ o + 6 → (⟨b, i, none⟩ : Addr) ≠ ⟨b, j, none⟩ := fun i h1 h2 e3 => by injection e3 with _ e4; omega
  unfold set7
  rw [World.cell?_setCell_other _ _ _ _ (e _ (by omega) (by omega)), World.cell?_setCell_other _ _ _ _ (e _ (by omega) (by omega)), World.cell?_setCell_other _ _ _ _ (e _ (by omega) (by omega)), World.cell?_setCell_other _ _ _ _ (e _ (by omega) (by omega)), World.cell?_setCell_other _ _ _ _ (e _ (by omega) (by omega)), World.cell?_setCell_other _ _ _ _ (e _ (by omega) (by omega)), World.cell?_setCell_other _ _ _ _ (e _ (by omega) (by omega))]
structure CC (w wr : World) (c : List Lit) (k : Nat) (B : List Nat) : Prop where
  own : OwnCl wr (c.take k) w.heap.size 0 B
  nd : B.Nodup
  rng : ∀ j, j ∈ B → w.heap.size < j ∧ j < wr.heap.size
  cells : ∀ j, j < c.length * 7 → ∃ u, wr.cell? ⟨w.heap.size, j, none⟩ = some u
  fr : ∀ j, wr.frozen? ⟨w.heap.size, j, none⟩ = false
  below : Below w.heap.size w wr
  gl : w.heap.size < wr.heap.size
theorem CC.step {w wr w2 : World} {c : List Lit} {k : Nat} {B : List Nat} {x : Lit} {s1 s2 : Value} {B1 B2 : List Nat} (h : CC w wr c k B) (hx : c[k]? = some x) (hb : Below wr.heap.size wr w2) (o1 : x.2.1.Own w2 s1 B1) (o2 : x.2.2.Own w2 s2 B2) (hn : (B1 ++ B2).Nodup) (hr : ∀ j, j ∈ B1 ++ B2 → wr.heap.size ≤ j ∧ j < w2.heap.size) :
    CC w (set7 w2 w.heap.size (k * 7) (.bool x.1) (.int .i64 x.2.1.v) (.int .i64 x.2.1.f) s1 (.int .i64 x.2.2.v) (.int .i64 x.2.2.f) s2) c (k + 1) (B ++ (B1 ++ B2)) := by
  have hlt := (List.getElem?_eq_some_iff.1 hx).1
  have hgl := h.gl
  have hsz := hb.size
  have hcell : ∀ j, j < c.length * 7 → ∃ u, w2.cell? ⟨w.heap.size, j, none⟩ = some u := fun j hj => by
    obtain ⟨u, hu⟩ := h.cells j hj
    exact ⟨u, cell_below hb hu⟩
  have hown : OwnCl w2 (c.take k) w.heap.size 0 B := OwnCl_mono (fun j hj => hb.block j (h.rng j hj).2) (fun j _ hj => hb.cell (p := ⟨w.heap.size, j, none⟩) hgl) h.own
  have hkl : (c.take k).length = k := by rw [List.length_take]; omega
  have hT : c.take (k + 1) = c.take k ++ [x] := by rw [List.take_add_one, hx]; rfl
  have hB : ∀ j, j ∈ B1 ++ B2 → j ≠ w.heap.size := fun j hj => by have := (hr j hj).1; omega
  obtain ⟨WS, hWS⟩ : ∃ WS, WS = set7 w2 w.heap.size (k * 7) (.bool x.1) (.int .i64 x.2.1.v) (.int .i64 x.2.1.f) s1 (.int .i64 x.2.2.v) (.int .i64 x.2.2.f) s2 := ⟨_, rfl⟩
  have hfar : ∀ j, (j < k * 7 ∨ k * 7 + 6 < j) → WS.cell? ⟨w.heap.size, j, none⟩ = w2.cell? ⟨w.heap.size, j, none⟩ := fun j hj => by rw [hWS]; exact set7_far hj
  have hblk : ∀ j, j ≠ w.heap.size → WS.heap[j]? = w2.heap[j]? := fun j hj => by rw [hWS]; exact set7_block hj
  have hsz2 : WS.heap.size = w2.heap.size := by rw [hWS]; exact set7_size
  have hfr2 : ∀ a, WS.frozen? a = w2.frozen? a := fun a => by rw [hWS]; exact set7_fr a
  have e0 : WS.cell? ⟨w.heap.size, k * 7, none⟩ = some (.bool x.1) := by obtain ⟨u, hu⟩ := hcell (k * 7) (by omega); rw [hWS, set7_cell hu]; simp
  have e1 : WS.cell? ⟨w.heap.size, k * 7 + 1, none⟩ = some (.int .i64 x.2.1.v) := by obtain ⟨u, hu⟩ := hcell (k * 7 + 1) (by omega); rw [hWS, set7_cell hu]; simp
  have e2 : WS.cell? ⟨w.heap.size, k * 7 + 2, none⟩ = some (.int .i64 x.2.1.f) := by obtain ⟨u, hu⟩ := hcell (k * 7 + 2) (by omega); rw [hWS, set7_cell hu]; simp
  have e3 : WS.cell? ⟨w.heap.size, k * 7 + 3, none⟩ = some s1 := by obtain ⟨u, hu⟩ := hcell (k * 7 + 3) (by omega); rw [hWS, set7_cell hu]; simp
  have e4 : WS.cell? ⟨w.heap.size, k * 7 + 4, none⟩ = some (.int .i64 x.2.2.v) := by obtain ⟨u, hu⟩ := hcell (k * 7 + 4) (by omega); rw [hWS, set7_cell hu]; simp
  have e5 : WS.cell? ⟨w.heap.size, k * 7 + 5, none⟩ = some (.int .i64 x.2.2.f) := by obtain ⟨u, hu⟩ := hcell (k * 7 + 5) (by omega); rw [hWS, set7_cell hu]; simp
  have e6 : WS.cell? ⟨w.heap.size, k * 7 + 6, none⟩ = some s2 := by obtain ⟨u, hu⟩ := hcell (k * 7 + 6) (by omega); rw [hWS, set7_cell hu]; simp
  have ecell : ∀ j, j < c.length * 7 → ∃ u, WS.cell? ⟨w.heap.size, j, none⟩ = some u := fun j hj => by obtain ⟨u, hu⟩ := hcell j hj; exact ⟨_, by rw [hWS]; exact set7_cell hu⟩
  have hos : WS.os = w2.os ∧ WS.tape = w2.tape ∧ WS.output = w2.output := by rw [hWS]; exact set7_io
  rw [← hWS]
  clear hWS
  refine ⟨?_, ?_, fun j hj => ?_, ecell, fun j => by rw [hfr2, hb.frozen (p := ⟨w.heap.size, j, none⟩) hgl]; exact h.fr j, ?_, by rw [hsz2]; omega⟩
  · rw [hT]
    have h9 : OwnCl WS (c.take k) w.heap.size 0 B := OwnCl_mono (fun j hj => hblk j (by have := (h.rng j hj).1; omega)) (fun j _ hj => hfar j (by rw [hkl] at hj; omega)) hown
    have q1 := Own_mono (w' := WS) (fun j hj => hblk j (hB j (List.mem_append_left _ hj))) o1
    have q2 := Own_mono (w' := WS) (fun j hj => hblk j (hB j (List.mem_append_right _ hj))) o2
    exact OwnCl_snoc h9 (by rw [hkl, Nat.zero_add]; exact e0) (by rw [hkl, Nat.zero_add]; exact e1) (by rw [hkl, Nat.zero_add]; exact e2) (by rw [hkl, Nat.zero_add]; exact e3) (by rw [hkl, Nat.zero_add]; exact e4) (by rw [hkl, Nat.zero_add]; exact e5) (by rw [hkl, Nat.zero_add]; exact e6) q1 q2
  · rw [List.nodup_append]
    refine ⟨h.nd, hn, fun a ha b hb' e => ?_⟩
    have h1 := (h.rng a ha).2
    have h2 := (hr b hb').1
    omega
  · rw [hsz2]
    rcases List.mem_append.1 hj with hj | hj
    · have := h.rng j hj; omega
    · have := hr j hj; omega
  · have hb2 := h.below.trans (hb.mono h.below.size)
    exact ⟨hos.1.trans hb2.os, hos.2.1.trans hb2.tape, hos.2.2.trans hb2.output, by rw [hsz2]; exact hb2.size, fun j hj => by rw [hblk j (by omega)]; exact hb2.block j hj⟩
def row7 (n : Nat) : Array Value := madeCells #[.bool false, .int .i64 0, .int .i64 0, .slice none 0 0, .int .i64 0, .int .i64 0, .slice none 0 0] (n * 7)
theorem run_make7 (n : Nat) (hn : n ≤ 100000) (w : World) : (Instr.makeSlice 26 (.int .i64 (n : Int)) (.int .i64 (n : Int))).run Tryz.prog w = .ok (.slice (some ⟨w.heap.size, 0, none⟩) n n) (w.alloc (.cells (row7 n) 79)) := by
  obtain ⟨i, hi, hzz⟩ := Option.map_eq_some_iff.1 Tryz.info79
  simp only [Prod.mk.injEq] at hzz
  obtain ⟨hz, hs, hb⟩ := hzz
  have hr := run_make (P := Tryz.prog) w 26 79 i _ Go.Proofs.Tryz.underlying26 hi hz .i64 .i64 n n (by omega) (Int.le_refl _) (by rw [hb]; omega) (by omega)
  simp only [Int.toNat_natCast, hs] at hr
  exact hr
theorem CC.start (w : World) (c : List Lit) : CC w (w.alloc (.cells (row7 c.length) 79)) c 0 [] := by
  refine ⟨rfl, List.nodup_nil, (fun j hj => by cases hj), fun j hj => ?_, fun j => ?_, below1 _ _, by simp⟩
  · have hs : j < (row7 c.length).size := by rw [row7, size_madeCells]; exact hj
    exact ⟨(row7 c.length)[j], by rw [cell_new j rfl]; simp [hs]⟩
  · exact frozen_of_heap (heap_alloc_new w _) j
attribute [local go_sem ↓] Go.wp_at_zero Go.wp_at_succ
set_option maxRecDepth 100000 in
set_option maxHeartbeats 2000000 in
theorem copyClause_any (c : List Lit) (ca : Option Addr) (cc : Nat) (w : World) (hl : c.length ≤ 1000) (hsz : ∀ x, x ∈ c → LitSz x) (hc : LitsP w c ca) :
    Calls Tryz.prog 91 #[.slice ca c.length cc] w fun e w' => e = .returned (.slice (some ⟨w.heap.size, 0, none⟩) c.length c.length) ∧ ∃ B, CC w w' c c.length B := by
  have hmk := run_make7 c.length (by omega)
  have Hc := hide hc
  have Hsz := hide hsz
  have HC0 := hide (CC.start w c)
  clear hc hsz
  go_enter Tryz.func91, Tryz.ntmps91
  go_wp2_with fail
  go_loopw [11] (fun i wr => ∃ (k : Nat) (B : List Nat), k ≤ c.length ∧ i = .int .i64 k ∧ Hid (CC w wr c k B)) (fun i _ => c.length - (intOf i).toNat)
  case atStart => exact ⟨0, [], Nat.zero_le _, rfl, HC0⟩
  case round =>
    obtain ⟨k, B, hk, rfl, HCC⟩ := hrel
    have hzr := HCC.out.below.size
    have hgl := HCC.out.gl
    by_cases hlt : k < c.length
    · obtain ⟨x, hx⟩ : ∃ x, c[k]? = some x := ⟨c[k], List.getElem?_eq_getElem hlt⟩
      obtain ⟨b, off, rfl⟩ := LitsP_some Hc.out (by omega)
      obtain ⟨a1, c1, a2, c2, k0, k1, k2, k3, k4, k5, k6, i1, i2⟩ := LitsP_at (LitsP_below HCC.out.below Hc.out) hx
      have hkI : (k : Int) < c.length := by omega
      have hk0 : (0 : Int) ≤ k := by omega
      obtain ⟨W1, hW1⟩ : ∃ W1, W1 = wr.alloc (.cells #[.bool x.1, .int .i64 x.2.1.v, .int .i64 x.2.1.f, .slice a1 x.2.1.args.length c1, .int .i64 x.2.2.v, .int .i64 x.2.2.f, .slice a2 x.2.2.args.length c2] 79) := ⟨_, rfl⟩
      have HW1 := hide hW1
      have hbW : Below wr.heap.size wr W1 := by rw [hW1]; exact below1 _ _
      have hx7 : L7 W1 wr.heap.size 0 x a1 c1 a2 c2 := by rw [hW1]; exact L7.new _ rfl
      have hxs := Hsz.out x (List.mem_of_getElem? hx)
      have HA := hide (fun (w' : World) (hb' : Below W1.heap.size W1 w') => copyOf_any (x.2.1.sz + 1) x.2.1 a1 c1 w' (by omega) hxs.1 (InP_below (hbW.trans (hb'.mono hbW.size)) i1))
      have HB := hide (fun (w' : World) (hb' : Below W1.heap.size W1 w') => copyOf_any (x.2.2.sz + 1) x.2.2 a2 c2 w' (by omega) hxs.2 (InP_below (hbW.trans (hb'.mono hbW.size)) i2))
      have HSt := hide (fun (w2 : World) (s1 s2 : Value) (B1 B2 : List Nat) (hb2 : Below W1.heap.size W1 w2) => CC.step (w2 := w2) (s1 := s1) (s2 := s2) (B1 := B1) (B2 := B2) HCC.out hx (hbW.trans (hb2.mono hbW.size)))
      have hS := hide (fun (w' : World) (hb' : Below W1.heap.size W1 w') => (show w'.cell? ⟨wr.heap.size, 0, none⟩ = some (.bool x.1) ∧ w'.cell? ⟨wr.heap.size, 1, none⟩ = some (.int .i64 x.2.1.v) ∧ w'.cell? ⟨wr.heap.size, 1 + 1, none⟩ = some (.int .i64 x.2.1.f) ∧ w'.cell? ⟨wr.heap.size, 1 + 2, none⟩ = some (.slice a1 x.2.1.args.length c1) ∧ w'.cell? ⟨wr.heap.size, 4, none⟩ = some (.int .i64 x.2.2.v) ∧ w'.cell? ⟨wr.heap.size, 4 + 1, none⟩ = some (.int .i64 x.2.2.f) ∧ w'.cell? ⟨wr.heap.size, 4 + 2, none⟩ = some (.slice a2 x.2.2.args.length c2) from
        ⟨cellB hb' hx7.e0, cellB hb' hx7.e1, cellB hb' hx7.e2, cellB hb' hx7.e3, cellB hb' hx7.e4, cellB hb' hx7.e5, cellB hb' hx7.e6⟩))
      have hS7 := hide (fun (w' : World) (hb' : Below W1.heap.size W1 w') (u0 u1 u2 u3 u4 u5 u6 : Value) => (show (set7 w' w.heap.size (k * 7) u0 u1 u2 u3 u4 u5 u6).cell? ⟨wr.heap.size, 0, none⟩ = some (.bool x.1) ∧ (set7 w' w.heap.size (k * 7) u0 u1 u2 u3 u4 u5 u6).cell? ⟨wr.heap.size, 1, none⟩ = some (.int .i64 x.2.1.v) ∧ (set7 w' w.heap.size (k * 7) u0 u1 u2 u3 u4 u5 u6).cell? ⟨wr.heap.size, 1 + 1, none⟩ = some (.int .i64 x.2.1.f) ∧ (set7 w' w.heap.size (k * 7) u0 u1 u2 u3 u4 u5 u6).cell? ⟨wr.heap.size, 1 + 2, none⟩ = some (.slice a1 x.2.1.args.length c1) ∧ (set7 w' w.heap.size (k * 7) u0 u1 u2 u3 u4 u5 u6).cell? ⟨wr.heap.size, 4, none⟩ = some (.int .i64 x.2.2.v) ∧ (set7 w' w.heap.size (k * 7) u0 u1 u2 u3 u4 u5 u6).cell? ⟨wr.heap.size, 4 + 1, none⟩ = some (.int .i64 x.2.2.f) ∧ (set7 w' w.heap.size (k * 7) u0 u1 u2 u3 u4 u5 u6).cell? ⟨wr.heap.size, 4 + 2, none⟩ = some (.slice a2 x.2.2.args.length c2) from by
        obtain ⟨z0, z1, z2, z3, z4, z5, z6⟩ := hS.out w' hb'
        have hne : wr.heap.size ≠ w.heap.size := by omega
        have hC : ∀ {o : Nat} {v : Value}, w'.cell? ⟨wr.heap.size, o, none⟩ = some v → (set7 w' w.heap.size (k * 7) u0 u1 u2 u3 u4 u5 u6).cell? ⟨wr.heap.size, o, none⟩ = some v := fun {o v} hv => by rw [World.cell?_of_block (w := w') (a := ⟨wr.heap.size, o, none⟩) (set7_block hne)]; exact hv
        exact ⟨hC z0, hC z1, hC z2, hC z3, hC z4, hC z5, hC z6⟩))
      have hRow := hide (fun (w' : World) (hb' : Below W1.heap.size W1 w') (j : Nat) (hj : j < c.length * 7) => (show ∃ u, w'.cell? ⟨w.heap.size, j, none⟩ = some u from by
        obtain ⟨u, hu⟩ := HCC.out.cells j hj
        exact ⟨u, cell_below hb' (cell_below hbW hu)⟩))
      have hFr := hide (fun (w' : World) (hb' : Below W1.heap.size W1 w') (j : Nat) => (show w'.frozen? ⟨w.heap.size, j, none⟩ = false from by
        rw [hb'.frozen (p := ⟨w.heap.size, j, none⟩) (Nat.lt_of_lt_of_le hgl hbW.size), hbW.frozen (p := ⟨w.heap.size, j, none⟩) hgl]; exact HCC.out.fr j))
      have HR := hide (Below.refl W1.heap.size W1)
      clear hW1 hbW hx7 i1 i2 hx hxs
      go_upto_region 5 with fail
      rw [← HW1.out]
      obtain ⟨l0, l1, l2, l3, l4, l5, l6⟩ := hS.out W1 HR.out
      go_region_held3 (fun w' => w'.cell? ⟨wr.heap.size, 0, none⟩ = some (.bool x.1) ∧ w'.cell? ⟨wr.heap.size, 1, none⟩ = some (.int .i64 x.2.1.v) ∧ w'.cell? ⟨wr.heap.size, 1 + 1, none⟩ = some (.int .i64 x.2.1.f) ∧ w'.cell? ⟨wr.heap.size, 1 + 2, none⟩ = some (.slice a1 x.2.1.args.length c1) ∧ w'.cell? ⟨wr.heap.size, 4, none⟩ = some (.int .i64 x.2.2.v) ∧ w'.cell? ⟨wr.heap.size, 4 + 1, none⟩ = some (.int .i64 x.2.2.f) ∧ w'.cell? ⟨wr.heap.size, 4 + 2, none⟩ = some (.slice a2 x.2.2.args.length c2)) ((first | (refine hS.out _ ?_; (repeat' (first | with_reducible exact Hid.out ‹Hid (Below _ _ _)› | with_reducible exact Below.refl _ _ | (with_reducible refine Below.drew ?_))); done) | exact hS7.out _ HbC.out _ _ _ _ _ _ _ | go_keep)) ((first
        | (go_at_call 153
           with_reducible refine (HA.out _ ?_).mono ?_
           · (repeat' (first | with_reducible exact Hid.out ‹Hid (Below _ _ _)› | with_reducible exact Below.refl _ _ | (with_reducible refine Below.drew ?_)))
           rintro e wA ⟨sA, BA, rfl, hoA, hnA, hrA, hbA⟩
           obtain ⟨aA, capA, rfl, _⟩ := Own_in hoA
           have HbA : Hid (Below W1.heap.size W1 wA) := by first | exact hbA | exact below_undrew hbA
           have HrA : Hid (∀ j, j ∈ BA → W1.heap.size ≤ j ∧ j < wA.heap.size) := hrA
           have HoA := hide hoA
           have HnA := hide hnA
           clear hoA hnA hrA hbA)
        | (go_at_call 153
           with_reducible refine (HB.out _ ?_).mono ?_
           · (repeat' (first | with_reducible exact Hid.out ‹Hid (Below _ _ _)› | with_reducible exact Below.refl _ _ | (with_reducible refine Below.drew ?_)))
           rintro e wB ⟨sB, BB, rfl, hoB, hnB, hrB, hbB⟩
           obtain ⟨aB, capB, rfl, _⟩ := Own_in hoB
           have HbB : Hid (Below wA.heap.size wA wB) := by first | exact hbB | exact below_undrew hbB
           have HbC := hide (HbA.out.trans (HbB.out.mono HbA.out.size))
           have HrB : Hid (∀ j, j ∈ BB → wA.heap.size ≤ j ∧ j < wB.heap.size) := hrB
           obtain ⟨v0, e0⟩ := hRow.out wB HbC.out (k * 7) (by omega)
           obtain ⟨v1, e1⟩ := hRow.out wB HbC.out (k * 7 + 1) (by omega)
           obtain ⟨v2, e2⟩ := hRow.out wB HbC.out (k * 7 + 2) (by omega)
           obtain ⟨v3, e3⟩ := hRow.out wB HbC.out (k * 7 + 3) (by omega)
           obtain ⟨v4, e4⟩ := hRow.out wB HbC.out (k * 7 + 4) (by omega)
           obtain ⟨v5, e5⟩ := hRow.out wB HbC.out (k * 7 + 5) (by omega)
           obtain ⟨v6, e6⟩ := hRow.out wB HbC.out (k * 7 + 6) (by omega)
           have f0 := hFr.out wB HbC.out (k * 7)
           have f1 := hFr.out wB HbC.out (k * 7 + 1)
           have f2 := hFr.out wB HbC.out (k * 7 + 2)
           have f3 := hFr.out wB HbC.out (k * 7 + 3)
           have f4 := hFr.out wB HbC.out (k * 7 + 4)
           have f5 := hFr.out wB HbC.out (k * 7 + 5)
           have f6 := hFr.out wB HbC.out (k * 7 + 6)
           have HoB := hide hoB
           have HnB := hide hnB
           clear hoB hnB hrB hbB)))
      have hoA2 : x.2.1.Own wB (.slice aA x.2.1.args.length capA) BA := Own_mono (fun j hj => HbB.out.block j (HrA.out j hj).2) HoA.out
      have hsA := HbA.out.size
      have hsB := HbB.out.size
      have hW1z : wr.heap.size ≤ W1.heap.size := by rw [HW1.out]; simp
      have HN := hide (HSt.out wB _ _ BA BB HbC.out hoA2 HoB.out (by
        rw [List.nodup_append]
        exact ⟨HnA.out, HnB.out, fun a ha b' hb' e => by have h1 := (HrA.out a ha).2; have h2 := (HrB.out b' hb').1; omega⟩) (fun j hj => by
        rcases List.mem_append.1 hj with h | h
        · have := HrA.out j h; omega
        · have := HrB.out j h; omega))
      clear hoA2 hsA hsB
      go_wp2_with fail
      go_roundw
      case rel => exact ⟨k + 1, _, by omega, by go_num, HN⟩
      case measure => simp [intOf]; omega
    · have hk2 : k = c.length := by omega
      subst hk2
      go_wp2_with fail
      go_ret
      exact ⟨rfl, B, HCC.out⟩
end Go.Proofs.YtbkedppkdhfpoabGreat
