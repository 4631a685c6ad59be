/- The document's ArgsOf. -/
import Derived.Test.YthlcghimjfgedaaRows2
import Derived.Test.YthlcghimjfgedaaRising
namespace Go.Proofs.Ythlcghimjfgedaa
open Go.RowKit

theorem Try.underlying110 : Try.prog.underlying 110 = some (.slice 22) := by kernel_rfl
theorem Try.info22 : (Try.prog.info? 22).map (fun i => (i.zero, i.size, i.bytes)) = some (some (.slice none 0 0), 1, 24) := by kernel_rfl

/-- What is appended: the values that lie at an address. -/
def SrcV (w : World) (x : Value) (news : List Value) : Prop := (∃ b off c, x = .slice (some ⟨b, off, none⟩) news.length c ∧ ∀ j u, news[j]? = some u → w.cell? ⟨b, off + j, none⟩ = some u) ∧ ∀ u ∈ news, u.oneCell' = true

theorem wpList_append_vals {w : World} {ops : Array Oper} {rest : List Oper} {o : Oper} {a : Act} {Q : Exit → Act → World → Prop} (hgd : o.guard = none) (s x : Operand) (ho : o.op = .call { callee := .builtin .append, args := #[s, x], argTypes := #[110, 110] })
    (base : Nat) (v : Value) (n : Nat) (xs : List Value) (hs : a.eval s = v) (hown : w.ownsRow base 22 1 v n xs) (xv : Value) (news : List Value) (hx : a.eval x = xv) (hsrc : SrcV w xv news) (hl : n + news.length ≤ 2000) (hbase : base ≤ w.heap.size)
    (h : ∀ v' w', w'.ownsRow base 22 1 v' (n + news.length) (xs ++ news) → w.grownBy w' v.ownBlock → (v'.ownBlock = v.ownBlock ∨ v'.ownBlock = some w.heap.size) → wpList Try.prog ops Q rest (a.put o.dst v') w') : wpList Try.prog ops Q (o :: rest) a w := by
  refine wpList_plain hgd fun _ hK => ?_
  obtain ⟨i, hi, hzz⟩ := Option.map_eq_some_iff.1 Try.info22
  simp only [Prod.mk.injEq] at hzz
  obtain ⟨hz0, hz1, hz2⟩ := hzz
  obtain ⟨⟨b, off, c, rfl, hc⟩, hone⟩ := hsrc
  obtain ⟨v', w', hr, h2, h3, _, h5⟩ := run_append_own_at (P := Try.prog) w base 110 o.type 22 i (.slice none 0 0) 1 24 Try.underlying110 hi hz0 hz1 hz2 rfl (by decide) v n xs hown ⟨b, off, none⟩ news.length c news (by simp) (fun j u hu => by
    have e : (⟨b, off, none⟩ : Addr).add j = ⟨b, off + j, none⟩ := by simp [Addr.add]
    rw [e]; exact hc j u hu) hone (by unfold maxLen; omega) (by omega) hbase
  unfold Oper.wp execOp
  simp only [ho, resolve, invoke, builtin, Sem.run_bind, Sem.run_pure, Result.andThen_ok, List.map_toArray, List.map_cons, List.map_nil, hs, hx, hr]
  exact hK _ _ (h v' w' h2 h3 h5)

theorem RK_one {p : Nat → Prop} {w : World} {ls : List (List Int)} : ∀ {cs : List Value}, RK p w ls cs → ∀ u ∈ cs, u.oneCell' = true := by
  induction ls with
  | nil => intro cs h u hu; rw [show cs = [] from h] at hu; cases hu
  | cons l ls ih =>
    intro cs h u hu
    obtain ⟨a, cap, rest, rfl, _, h⟩ := h
    rcases List.mem_cons.1 hu with rfl | hu
    · rfl
    · exact ih h u hu

theorem own_cells1 {w : World} {base n : Nat} {v : Value} {xs : List Value} (h : w.ownsRow base 22 1 v n xs) (hn : 0 < n) : ∃ g cap, v = .slice (some ⟨g, 0, none⟩) n cap ∧ base ≤ g ∧ g < w.heap.size ∧ (∀ j u, xs[j]? = some u → w.cell? ⟨g, j, none⟩ = some u) ∧ ∀ j, w.frozen? ⟨g, j, none⟩ = false := by
  rcases h.2 with ⟨_, h0⟩ | ⟨g, cap, cur, rfl, hb, hg, hc, hm, hs, ht⟩
  · omega
  refine ⟨g, cap, rfl, hb, ?_, fun j u hu => ?_, fun j => by simp [World.frozen?, hg]⟩
  · rcases Nat.lt_or_ge g w.heap.size with h | h
    · exact h
    · rw [Array.getElem?_eq_none h] at hg; cases hg
  · have hj : j < xs.length := by
      rcases Nat.lt_or_ge j xs.length with h | h
      · exact h
      · rw [List.getElem?_eq_none h] at hu; cases hu
    have e1 : cur[j]? = some u := by
      have h2 : (cur.toList.take (n * 1))[j]? = some u := by rw [ht]; exact hu
      rw [List.getElem?_take_of_lt (by have := h.1; omega)] at h2
      simpa using h2
    simp [World.cell?, hg, e1]

/-- The rows of x, the first k of them moved by m. -/
def movedRows (X : List (List Int)) (m k : Nat) : List (List Int) := (X.take k).map (fun l => l.map (· + (m : Int))) ++ X.drop k
theorem moved_zero (X : List (List Int)) (m : Nat) : movedRows X m 0 = X := rfl
theorem moved_all (X : List (List Int)) (m : Nat) : movedRows X m X.length = X.map (fun l => l.map (· + (m : Int))) := by
  rw [movedRows, List.take_length, List.drop_length, List.append_nil]
theorem moved_length (X : List (List Int)) (m k : Nat) : (movedRows X m k).length = X.length := by
  rw [movedRows, List.length_append, List.length_map, List.length_take, List.length_drop]; omega
theorem moved_at {X : List (List Int)} {m k : Nat} {l : List Int} (h : X[k]? = some l) : (movedRows X m k)[k]? = some l ∧ (movedRows X m k).set k (l.map (· + (m : Int))) = movedRows X m (k + 1) := by
  have hlt : k < X.length := by
    rcases Nat.lt_or_ge k X.length with h | h
    · exact h
    · rw [List.getElem?_eq_none h] at *; simp_all
  have hd : X.drop k = l :: X.drop (k + 1) := by
    rw [List.getElem?_eq_getElem hlt] at h
    have : X[k] = l := by simpa using h
    rw [← this, List.getElem_cons_drop]
  have hlen : ((X.take k).map (fun l => l.map (· + (m : Int)))).length = k := by rw [List.length_map, List.length_take]; omega
  constructor
  · rw [movedRows, List.getElem?_append_right (by omega), hlen, Nat.sub_self, hd]; rfl
  · rw [movedRows, movedRows, hd, List.set_append_right _ _ (by omega), hlen, Nat.sub_self, List.set_cons_zero, List.take_add_one, h, List.map_append]
    simp

/-- A row of x, stored. -/
theorem rows_store {base n g cx kk : Nat} {mid wj : World} {rows : List (List Int)} {l' : List Int} {ma : Option Addr} {mc : Nat} (h : RowsI base (fun b => base ≤ b ∧ b ≠ g) mid (.slice (some ⟨g, 0, none⟩) n cx) rows) (hn : rows.length = n) (hb : Below mid.heap.size mid wj)
    (hom : OwnI mid.heap.size wj (.slice ma l'.length mc) l') (hbase : base ≤ mid.heap.size) : RowsI base (fun b => base ≤ b ∧ b ≠ g) (wj.setCell ⟨g, kk, none⟩ (.slice ma l'.length mc)) (.slice (some ⟨g, 0, none⟩) n cx) (rows.set kk l') := by
  obtain ⟨xs, h1, h2⟩ := h
  rw [hn] at h1
  have hg := own_lt h1 g rfl
  refine ⟨xs.set kk (.slice ma l'.length mc), by rw [List.length_set, hn]; exact own_set (own_same h1 (fun g' hg' => hb.block g' (own_lt h1 g' hg').2)) _, RK_set (RK_mono (fun k hk hlt => ⟨hk, ?_⟩) h2) ?_⟩
  · rw [Below.heap_setCell _ _ _ _ hk.2]; exact hb.block k hlt
  · obtain ⟨a, cap, he, hi⟩ := OwnI.ip hom
    simp only [Value.slice.injEq, true_and] at he
    obtain ⟨rfl, rfl⟩ := he
    refine IP_mono (fun k hk hlt => ?_) hi
    have h3 := own_lt hom k hk
    exact ⟨⟨by omega, by omega⟩, Below.heap_setCell _ _ _ _ (by show k ≠ g; omega)⟩

/-- The rows of x behind those of out. -/
theorem rows_join {B S g : Nat} {wo wi w' : World} {vo va v' : Value} {xo xi : List Value} {R1 R2 : List (List Int)} (hko : RK (fun b => B ≤ b ∧ vo.ownBlock ≠ some b ∧ va.ownBlock ≠ some b) wo R1 xo) (hki : RK (fun b => S ≤ b ∧ b ≠ g) wi R2 xi) (hb : Below wo.heap.size wo wi) (hS : S = wo.heap.size) (hBS : B ≤ S)
    (hlo : ∀ k, vo.ownBlock = some k → k < S) (hla : ∀ k, va.ownBlock = some k → k < S) (hown : w'.ownsRow B 22 1 v' (R1.length + R2.length) (xo ++ xi)) (hgr : wi.grownBy w' vo.ownBlock) (hat : v'.ownBlock = vo.ownBlock ∨ v'.ownBlock = some wi.heap.size) :
    RowsI B (fun b => B ≤ b ∧ v'.ownBlock ≠ some b ∧ va.ownBlock ≠ some b) w' v' (R1 ++ R2) := by
  have hz := hb.size
  refine ⟨xo ++ xi, by rw [List.length_append]; exact hown, RK_append (RK_mono (fun k hk hlt => ?_) hko) (RK_mono (fun k hk hlt => ?_) hki)⟩
  · refine ⟨⟨hk.1, ?_, hk.2.2⟩, by rw [hgr.block k (by omega) (fun e => hk.2.1 e.symm)]; exact hb.block k hlt⟩
    rcases hat with h | h
    · rw [h]; exact hk.2.1
    · rw [h]; intro e; cases e; omega
  · have hne : vo.ownBlock ≠ some k := fun e => by have := hlo k e; omega
    refine ⟨⟨by omega, ?_, fun e => by have := hla k e; omega⟩, hgr.block k hlt (fun e => hne e.symm)⟩
    rcases hat with h | h
    · rw [h]; exact hne
    · rw [h]; intro e; cases e; omega

/-- The numbers grow; the rows stay. -/
theorem rows_beside {B : Nat} {w w' : World} {v va va' : Value} {rows : List (List Int)} (h : RowsI B (fun b => B ≤ b ∧ v.ownBlock ≠ some b ∧ va.ownBlock ≠ some b) w v rows) (hdis : ∀ g, v.ownBlock = some g → va.ownBlock ≠ some g) (hgr : w.grownBy w' va.ownBlock) (hat : va'.ownBlock = va.ownBlock ∨ va'.ownBlock = some w.heap.size) :
    RowsI B (fun b => B ≤ b ∧ v.ownBlock ≠ some b ∧ va'.ownBlock ≠ some b) w' v rows ∧ ∀ g, v.ownBlock = some g → va'.ownBlock ≠ some g := by
  obtain ⟨xs, h1, h2⟩ := h
  have hne : ∀ k, va.ownBlock ≠ some k → k < w.heap.size → va'.ownBlock ≠ some k := fun k hk hlt => by
    rcases hat with h | h
    · rw [h]; exact hk
    · rw [h]; intro e; cases e; omega
  exact ⟨⟨xs, own_same h1 (fun g hg => hgr.block g (own_lt h1 g hg).2 (fun e => hdis g hg e.symm)), RK_mono (fun k hk hlt => ⟨⟨hk.1, hk.2.1, hne k hk.2.2 hlt⟩, hgr.block k hlt (fun e => hk.2.2 e.symm)⟩) h2⟩, fun g hg => hne g (hdis g hg) (own_lt h1 g hg).2⟩
theorem rows_src {base n g cx : Nat} {p : Nat → Prop} {w : World} {rows : List (List Int)} {xs : List Value} (h1 : w.ownsRow base 22 1 (.slice (some ⟨g, 0, none⟩) n cx) n xs) (h2 : RK p w rows xs) (hn : rows.length = n) (h0 : 0 < n) : SrcV w (.slice (some ⟨g, 0, none⟩) n cx) xs := by
  obtain ⟨g', cx', he, _, _, hc, _⟩ := own_cells1 h1 h0
  simp only [Value.slice.injEq, Option.some.injEq, Addr.mk.injEq, and_true, true_and] at he
  obtain ⟨rfl, rfl⟩ := he
  refine ⟨⟨g, 0, cx, by rw [RK_length h2, hn], fun j u hu => by rw [Nat.zero_add]; exact hc j u hu⟩, RK_one h2⟩

end Go.Proofs.Ythlcghimjfgedaa
