/- A list of terms of the call's own, and what lies behind each of them. -/
import Derived.Test.YtppeedpmofimhaaRefAt
import Derived.Test.YtppeedpmofimhaaBack
namespace Go.Proofs.Ytppeedpmofimhaa
open Go.RowKit

/-- The document's own putting: no number of a variable is kept on the way. -/
def putR (u : T) : T → List Int → T
  | _, [] => u
  | t, i :: p => ⟨0, t.f, t.args.mapIdx fun k c => if (k : Int) = i then putR u c p else c⟩

/-- Three cells a term, and its arguments. -/
def Kids (p : Nat → Prop) (w : World) : List T → List Value → Prop
  | [], cs => cs = []
  | t :: ts, cs => ∃ a cap rest, cs = .int .i64 t.v :: .int .i64 t.f :: .slice a t.args.length cap :: rest ∧ InP p w t.args a ∧ Kids p w ts rest
theorem Kids_append {p : Nat → Prop} {w : World} {ts us : List T} : ∀ {cs ds : List Value}, Kids p w ts cs → Kids p w us ds → Kids p w (ts ++ us) (cs ++ ds) := by
  induction ts with
  | nil => intro cs ds h1 h2; rw [show cs = [] from h1]; exact h2
  | cons t ts ih =>
    intro cs ds h1 h2
    obtain ⟨a, cap, rest, rfl, h0, h⟩ := h1
    exact ⟨a, cap, rest ++ ds, rfl, h0, ih h h2⟩
theorem Kids_mono {p q : Nat → Prop} {w w' : World} {ts : List T} (hs : ∀ k, p k → k < w.heap.size → q k ∧ w'.heap[k]? = w.heap[k]?) : ∀ {cs : List Value}, Kids p w ts cs → Kids q w' ts cs := by
  induction ts with
  | nil => intro cs h; exact h
  | cons t ts ih =>
    intro cs h
    obtain ⟨a, cap, rest, rfl, h0, h⟩ := h
    exact ⟨a, cap, rest, rfl, InP_mono (fun b o v hp hv => ⟨(hs b hp (lt_of_cell hv)).1, by rw [World.cell?_of_block (w := w) (a := ⟨b, o, none⟩) (hs b hp (lt_of_cell hv)).2]; exact hv⟩) _ _ _ (Nat.le_refl _) h0, ih h⟩

/-- A list of the call's own that holds these terms; nothing that lies behind them lies in the list's own block. -/
def Outs (q : Nat → Prop) (base : Nat) (w : World) (l : Value) (ts : List T) : Prop :=
  ∃ xs, w.ownsRow base 27 3 l ts.length xs ∧ Kids (fun k => (q k ∨ base ≤ k) ∧ l.ownBlock ≠ some k) w ts xs

theorem Outs_nil {q : Nat → Prop} {base : Nat} {w : World} : Outs q base w (.slice none 0 0) [] := ⟨[], ⟨rfl, Or.inl ⟨rfl, rfl⟩⟩, rfl⟩
theorem Outs_same {q : Nat → Prop} {base : Nat} {w w' : World} {l : Value} {ts : List T} (h : Outs q base w l ts) (hs : ∀ k, (q k ∨ base ≤ k) → k < w.heap.size → w'.heap[k]? = w.heap[k]?) : Outs q base w' l ts := by
  obtain ⟨xs, h1, h2⟩ := h
  exact ⟨xs, own_same h1 (fun g hg => hs g (Or.inr (own_lt h1 g hg).1) (own_lt h1 g hg).2), Kids_mono (fun k hk hlt => ⟨hk, hs k hk.1 hlt⟩) h2⟩
theorem Outs_below {q : Nat → Prop} {base : Nat} {w w' : World} {l : Value} {ts : List T} (h : Outs q base w l ts) (hb : Below w.heap.size w w') : Outs q base w' l ts := Outs_same h (fun k _ hk => hb.block k hk)
theorem Outs_step {q : Nat → Prop} {base : Nat} {w w' : World} {l : Value} {ts : List T} {c : T} {xs : List Value} {a : Option Addr} {cap g cap2 : Nat} (hk : Kids (fun k => (q k ∨ base ≤ k) ∧ l.ownBlock ≠ some k) w ts xs)
    (hc : InP (fun k => (q k ∨ base ≤ k) ∧ l.ownBlock ≠ some k) w c.args a)
    (hown : w'.ownsRow base 27 3 (.slice (some ⟨g, 0, none⟩) (ts.length + 1) cap2) (ts.length + 1) (xs ++ [.int .i64 c.v, .int .i64 c.f, .slice a c.args.length cap])) (hg : w.grownBy w' l.ownBlock) (hat : l.ownBlock = some g ∨ g = w.heap.size) :
    Outs q base w' (.slice (some ⟨g, 0, none⟩) (ts.length + 1) cap2) (ts ++ [c]) := by
  refine ⟨_, by rw [List.length_append]; exact hown, Kids_mono (p := fun k => (q k ∨ base ≤ k) ∧ l.ownBlock ≠ some k) (w := w) (fun k hp hlt => ⟨⟨hp.1, ?_⟩, hg.block k hlt (fun e => hp.2 e.symm)⟩) (Kids_append hk ⟨a, cap, [], rfl, hc, rfl⟩)⟩
  rcases hat with hat | hat
  · rw [show (Value.slice (some ⟨g, 0, none⟩) (ts.length + 1) cap2).ownBlock = some g from rfl, ← hat]; exact hp.2
  · show some g ≠ some k
    intro e; cases e; omega
theorem Kids_in {p : Nat → Prop} {w : World} {g : Nat} (hpg : p g) {ts : List T} : ∀ {off : Nat} {cs : List Value}, Kids p w ts cs → (∀ j u, cs[j]? = some u → w.cell? ⟨g, off + j, none⟩ = some u) → InP p w ts (some ⟨g, off, none⟩) := by
  induction ts with
  | nil => intro off cs _ _; exact InP_nil
  | cons t ts ih =>
    intro off cs h hc
    obtain ⟨a, cap, rest, rfl, h0, h⟩ := h
    refine InP_cons.2 ⟨g, off, .slice a t.args.length cap, rfl, hpg, hc 0 _ rfl, hc 1 _ rfl, hc 2 _ rfl, In_iff.2 ⟨a, cap, rfl, h0⟩, ih h fun j u hu => ?_⟩
    rw [show off + 3 + j = off + (j + 3) from by omega]
    exact hc (j + 3) u (by simpa using hu)
theorem Outs_end {q : Nat → Prop} {base : Nat} {w : World} {l : Value} {ts : List T} (h : Outs q base w l ts) : ∃ a cap, l = .slice a ts.length cap ∧ InP (fun k => q k ∨ base ≤ k) w ts a := by
  obtain ⟨xs, h1, h2⟩ := h
  by_cases h0 : 0 < ts.length
  · obtain ⟨g, cap, rfl, hb, hlt, hcell⟩ := own_cells h1 h0
    exact ⟨_, cap, rfl, Kids_in (Or.inr hb) (Kids_mono (fun k hk _ => ⟨hk.1, rfl⟩) h2) (fun j u hu => by rw [Nat.zero_add]; exact hcell j u hu)⟩
  · obtain ⟨a, c, rfl⟩ := own_shape h1
    have : ts = [] := List.length_eq_zero_iff.1 (by omega)
    subst this
    exact ⟨a, c, rfl, InP_nil⟩

/-- Where all is right, the document's putting is the program's. -/
theorem putR_putT {ar : List Int} {u : T} : ∀ {p : List Int} {t c : T}, atT t p = some c → okP ar t → putR u t p = putT u t p := by
  intro p
  induction p with
  | nil => intro t c _ _; rfl
  | cons i p ih =>
    intro t c h hok
    rw [atT] at h
    by_cases hi : 0 ≤ i ∧ i < t.args.length
    · rw [if_pos hi] at h
      obtain ⟨d, hd, hc⟩ := Option.bind_eq_some_iff.1 h
      obtain ⟨hp, hl⟩ := okP_iff.1 hok
      have hlt : i.toNat < t.args.length := by omega
      have hv : t.v = 0 := by
        rcases Classical.em (t.v = 0) with h0 | h0
        · exact h0
        · rw [partErr_var h0, varErr] at hp
          split at hp
          · cases hp
          · split at hp
            · cases hp
            · omega
      rw [putT_at hd, putR, hv]
      congr 1
      apply List.ext_getElem?
      intro k
      rw [List.getElem?_mapIdx, List.getElem?_set]
      by_cases hk : i.toNat = k
      · subst hk
        rw [if_pos rfl, if_pos hlt, hd]
        simp only [Option.map_some]
        rw [if_pos (by omega), ih hc (okL_mem.1 hl d (List.mem_of_getElem? hd))]
      · rw [if_neg hk]
        cases hk2 : t.args[k]? with
        | none => rfl
        | some y =>
          simp only [Option.map_some]
          rw [if_neg (by omega)]
    · rw [if_neg hi] at h; cases h

end Go.Proofs.Ytppeedpmofimhaa
