/- What stands fast within one round of the document's own order: what the round reads, and where it lies. -/
import Derived.Test.YthlcghimjfgedaaGrefP
import Derived.Test.YthlcghimjfgedaaGrefT
namespace Go.Proofs.Ythlcghimjfgedaa
open Go.RowKit

theorem cell_below {w w' : World} {b o : Nat} {v : Value} (hb : Below w.heap.size w w') (h : w.cell? ⟨b, o, none⟩ = some v) : w'.cell? ⟨b, o, none⟩ = some v := by
  rw [hb.cell (p := ⟨b, o, none⟩) (lt_of_cell h)]; exact h
theorem drewB (B : Nat) (w : World) (n : Nat) : Below B w (w.drewN n) := ⟨rfl, rfl, rfl, Nat.le_refl _, fun _ _ => rfl⟩
theorem any_stepR {l : List T} {p : T → Bool} {m : Nat} {c : T} (h : l[m]? = some c) : (l.take (m + 1)).any p = ((l.take m).any p || p c) := by
  rw [List.take_add_one, h]; simp
theorem all_step {l : List T} {p : T → Bool} {m : Nat} {c : T} (h : l[m]? = some c) : (l.take (m + 1)).all p = ((l.take m).all p && p c) := by
  rw [List.take_add_one, h]; simp
theorem drop_at {l : List T} {m : Nat} {c : T} (h : l[m]? = some c) : l.drop m = c :: l.drop (m + 1) := by
  have hlt : m < l.length := by
    rcases Nat.lt_or_ge m l.length with h1 | h1
    · exact h1
    · rw [List.getElem?_eq_none h1] at h; cases h
  rw [List.getElem?_eq_getElem hlt] at h
  simp only [Option.some.injEq] at h
  rw [← h, List.getElem_cons_drop]
theorem firstN_drop {xs ys : List T} {m : Nat} {c d : T} (hx : xs[m]? = some c) (hy : ys[m]? = some d) : firstN gt (xs.drop m) (ys.drop m) = if sameT c d then firstN gt (xs.drop (m + 1)) (ys.drop (m + 1)) else gt c d := by
  rw [drop_at hx, drop_at hy, firstN]
theorem okP_parts {ar : List Int} : ∀ (n : Nat), (∀ t : T, t.sz ≤ n → okP ar t → ∀ p, p ∈ parts t → okP ar p ∧ p.sz ≤ t.sz) ∧ (∀ ts : List T, T.sz.szL ts ≤ n → okP.okL ar ts → ∀ p, p ∈ parts.partsL ts → okP ar p ∧ p.sz ≤ T.sz.szL ts) := by
  intro n
  induction n with
  | zero =>
    refine ⟨fun t h => by have := t.sz_pos; omega, fun ts h _ p hp => ?_⟩
    cases ts with
    | nil => simp [parts.partsL] at hp
    | cons t ts => have := t.sz_pos; rw [T.szL_cons] at h; omega
  | succ n ih =>
    have h1 : ∀ t : T, t.sz ≤ n + 1 → okP ar t → ∀ p, p ∈ parts t → okP ar p ∧ p.sz ≤ t.sz := fun t h hk p hp => by
      have hte := T.sz_eq t
      rw [parts_eq, List.mem_append, List.mem_singleton] at hp
      rcases hp with hp | rfl
      · have := ih.2 t.args (by omega) (okP_iff.1 hk).2 p hp
        exact ⟨this.1, by omega⟩
      · exact ⟨hk, Nat.le_refl _⟩
    refine ⟨h1, fun ts => ?_⟩
    induction ts with
    | nil => intro _ _ p hp; simp [parts.partsL] at hp
    | cons t ts iht =>
      intro h hk p hp
      rw [T.szL_cons] at h ⊢
      rw [partsL_cons, List.mem_append] at hp
      rcases hp with hp | hp
      · have := h1 t (by omega) (okL_cons.1 hk).1 p hp
        exact ⟨this.1, by omega⟩
      · have := iht (by omega) (okL_cons.1 hk).2 p hp
        exact ⟨this.1, by omega⟩

/-- What a round reads. -/
structure Cx (lo1 lo2 K : Nat) (s t x y : T) (i k gs gt' ga gb b1 b2 : Nat) (xla : Option Addr) (xlc : Nat) (lx : List Int) (yla : Option Addr) (ylc : Nat) (ly : List Int) (rb : Nat → Nat) (M : Nat → Nat → Bool) (xa : Option Addr) (xc : Nat) (ya : Option Addr) (yc : Nat) (w : World) : Prop where
  hx : (parts s)[i]? = some x
  hy : (parts t)[k]? = some y
  lxl : lx.length = x.args.length
  lyl : ly.length = y.args.length
  lxm : ∀ (m : Nat) (c : T), x.args[m]? = some c → ∃ j : Nat, lx[m]? = some (j : Int) ∧ j < i ∧ (parts s)[j]? = some c
  lym : ∀ (m : Nat) (c : T), y.args[m]? = some c → ∃ j : Nat, ly[m]? = some (j : Int) ∧ j < k ∧ (parts t)[j]? = some c
  la : w.cell? ⟨ga, i, none⟩ = some (.slice xla lx.length xlc)
  lai : Ints w lx xla
  lb : w.cell? ⟨gb, k, none⟩ = some (.slice yla ly.length ylc)
  lbi : Ints w ly yla
  ps : PartsAt lo1 w gs s
  pt : PartsAt lo2 w gt' t
  tt : TT K s.sz t.sz (i + 1) rb w M
  rt : Right (parts s) (parts t) M i k
  bx : Three w b1 (.int .i64 x.v) (.int .i64 x.f) (.slice xa x.args.length xc)
  bY : Three w b2 (.int .i64 y.v) (.int .i64 y.f) (.slice ya y.args.length yc)
  yi : InL w y.args ya
theorem Cx.below {lo1 lo2 K : Nat} {s t x y : T} {i k gs gt' ga gb b1 b2 : Nat} {xla : Option Addr} {xlc : Nat} {lx : List Int} {yla : Option Addr} {ylc : Nat} {ly : List Int} {rb : Nat → Nat} {M : Nat → Nat → Bool} {xa : Option Addr} {xc : Nat} {ya : Option Addr} {yc : Nat} {w w' : World}
    (h : Cx lo1 lo2 K s t x y i k gs gt' ga gb b1 b2 xla xlc lx yla ylc ly rb M xa xc ya yc w) (hb : Below w.heap.size w w') : Cx lo1 lo2 K s t x y i k gs gt' ga gb b1 b2 xla xlc lx yla ylc ly rb M xa xc ya yc w' :=
  ⟨h.hx, h.hy, h.lxl, h.lyl, h.lxm, h.lym, by rw [hb.cell (p := ⟨ga, i, none⟩) (lt_of_cell h.la)]; exact h.la, Ints_below hb h.lai, by rw [hb.cell (p := ⟨gb, k, none⟩) (lt_of_cell h.lb)]; exact h.lb, Ints_below hb h.lbi,
    h.ps.below hb, h.pt.below hb, h.tt.below hb, h.rt, h.bx.below hb, h.bY.below hb, InP_below hb h.yi⟩
/-- Argument m of x: where it lies, and what the table says of it. -/
theorem Cx.argX {lo1 lo2 K : Nat} {s t x y : T} {i k gs gt' ga gb b1 b2 : Nat} {xla : Option Addr} {xlc : Nat} {lx : List Int} {yla : Option Addr} {ylc : Nat} {ly : List Int} {rb : Nat → Nat} {M : Nat → Nat → Bool} {xa : Option Addr} {xc : Nat} {ya : Option Addr} {yc : Nat} {w : World}
    (h : Cx lo1 lo2 K s t x y i k gs gt' ga gb b1 b2 xla xlc lx yla ylc ly rb M xa xc ya yc w) {m : Nat} {c : T} (hc : x.args[m]? = some c) :
    ∃ (j b off : Nat) (ca : Option Addr) (cc : Nat), xla = some ⟨b, off, none⟩ ∧ w.cell? ⟨b, off + m, none⟩ = some (.int .i64 (j : Int)) ∧ j < i ∧ (parts s)[j]? = some c ∧ w.cell? ⟨gs, j * 3, none⟩ = some (.int .i64 c.v) ∧ w.cell? ⟨gs, j * 3 + 1, none⟩ = some (.int .i64 c.f) ∧ w.cell? ⟨gs, j * 3 + 2, none⟩ = some (.slice ca c.args.length cc) ∧ InL w c.args ca ∧
      w.cell? ⟨K, j, none⟩ = some (.slice (some ⟨rb j, 0, none⟩) t.sz t.sz) ∧ (∀ k' z, (parts t)[k']? = some z → k' < t.sz → w.cell? ⟨rb j, k', none⟩ = some (.bool (gt c z))) := by
  obtain ⟨j, hj1, hj2, hj3⟩ := h.lxm m c hc
  have hm : m < lx.length := by
    rcases Nat.lt_or_ge m lx.length with h1 | h1
    · exact h1
    · rw [List.getElem?_eq_none h1] at hj1; cases hj1
  obtain ⟨b, off, e1, hcell⟩ := Ints_some h.lai (by omega)
  obtain ⟨ca, cc, p0, p1, p2, pin⟩ := h.ps.2 j c hj3
  refine ⟨j, b, off, ca, cc, e1, ?_, hj2, hj3, p0, p1, p2, InP_imp (fun _ _ => trivial) pin, h.tt.rows j (by omega), fun k' z hz hk' => ?_⟩
  · have h2 := hcell m hm
    rw [List.getD_eq_getElem?_getD, hj1] at h2
    exact h2
  · rw [h.tt.ent j k' (by omega) hk', h.rt j k' c z hj3 hz (Or.inl hj2)]
/-- Argument m of y. -/
theorem Cx.argY {lo1 lo2 K : Nat} {s t x y : T} {i k gs gt' ga gb b1 b2 : Nat} {xla : Option Addr} {xlc : Nat} {lx : List Int} {yla : Option Addr} {ylc : Nat} {ly : List Int} {rb : Nat → Nat} {M : Nat → Nat → Bool} {xa : Option Addr} {xc : Nat} {ya : Option Addr} {yc : Nat} {w : World}
    (h : Cx lo1 lo2 K s t x y i k gs gt' ga gb b1 b2 xla xlc lx yla ylc ly rb M xa xc ya yc w) {m : Nat} {c : T} (hc : y.args[m]? = some c) (hk : k < t.sz) :
    ∃ (j b off : Nat) (ca : Option Addr) (cc : Nat), yla = some ⟨b, off, none⟩ ∧ w.cell? ⟨b, off + m, none⟩ = some (.int .i64 (j : Int)) ∧ j < k ∧ (parts t)[j]? = some c ∧ w.cell? ⟨gt', j * 3, none⟩ = some (.int .i64 c.v) ∧ w.cell? ⟨gt', j * 3 + 1, none⟩ = some (.int .i64 c.f) ∧ w.cell? ⟨gt', j * 3 + 2, none⟩ = some (.slice ca c.args.length cc) ∧ InL w c.args ca ∧
      w.cell? ⟨K, i, none⟩ = some (.slice (some ⟨rb i, 0, none⟩) t.sz t.sz) ∧ w.cell? ⟨rb i, j, none⟩ = some (.bool (gt x c)) := by
  obtain ⟨j, hj1, hj2, hj3⟩ := h.lym m c hc
  have hm : m < ly.length := by
    rcases Nat.lt_or_ge m ly.length with h1 | h1
    · exact h1
    · rw [List.getElem?_eq_none h1] at hj1; cases hj1
  obtain ⟨b, off, e1, hcell⟩ := Ints_some h.lbi (by omega)
  obtain ⟨ca, cc, p0, p1, p2, pin⟩ := h.pt.2 j c hj3
  refine ⟨j, b, off, ca, cc, e1, ?_, hj2, hj3, p0, p1, p2, InP_imp (fun _ _ => trivial) pin, h.tt.rows i (by omega), ?_⟩
  · have h2 := hcell m hm
    rw [List.getD_eq_getElem?_getD, hj1] at h2
    exact h2
  · rw [h.tt.ent i j (by omega) (by omega), h.rt i j x c h.hx hj3 (Or.inr ⟨rfl, hj2⟩)]

end Go.Proofs.Ythlcghimjfgedaa
