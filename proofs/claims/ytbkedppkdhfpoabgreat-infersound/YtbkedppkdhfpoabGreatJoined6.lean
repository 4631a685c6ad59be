/- What variables are bound to, as a map of the program's own. The document's own Put. The document's own putting in. The program's own putting in: by a map. The unifier makes parts the same. The unifier's join. A list of bindings of the call's own. The unifier's parts while they are added: a list of the call's own; and what a term adds. Appending to the unifier's parts; the state while a term's parts are added, and what may change. -/
import Derived.BigQuiet
import Derived.Deep.AppendLies
import Derived.Deep.DeepCutAuto
import Derived.Deep.RegionLaw
import Derived.Laws.AppendOwnNone
import Derived.Maps.AppendAt
import Derived.Test.YtbkedppkdhfpoabGreatJoined5
namespace Go.Proofs.YtbkedppkdhfpoabGreat
open Go.RowKit Go.Maps
theorem Tryz.underlying319 : Tryz.prog.underlying 319 = some (.map 3 77) := by kernel_rfl
theorem wpList_store_map (w : World) {ops : Array Oper} {rest : List Oper} {o : Oper} {a : Act} {Q : Exit → Act → World → Prop} (hg : o.guard = none) (m x v : Operand) (t : TypeId) (hop : o.op = Op.mapUpdate t m x v)
    (e : TypeId) (ht : Tryz.prog.underlying t = some (.map 3 e)) (b n : Nat) (f : Int → Option Value) (hm : a.eval m = .map (some b)) (hM : MapAt w b n f) (hn : n < maxLen) (k : Int) (val : Value) (hx : a.eval x = .int .i64 k) (hv : a.eval v = val) (h0 : -9223372036854775808 ≤ k) (h1 : k ≤ 9223372036854775807)
    (hK : ∀ w', MapAt w' b (n + 1) (fun j => if j = k then some val else f j) → w.grownBy w' (some b) → wpList Tryz.prog ops Q rest (a.put o.dst undef) w') : wpList Tryz.prog ops Q (o :: rest) a w := by
  refine wpList_plain hg fun K' hK' => ?_
  obtain ⟨w', hrun, r1, r2⟩ := hM.store ht hn h0 h1 val
  unfold Oper.wp
  simp [execOp, hop, hm, hx, hv, hrun, Result.andThen]
  exact hK' _ _ (hK w' r1 r2)
def BMap (q : Nat → Prop) (w : World) (bs : List (Int × T)) (f : Int → Option Value) : Prop :=
  ∀ v : Int, (lookB bs v = none → f v = none) ∧ ∀ u, lookB bs v = some u → ∃ a cap, f v = some (.agg #[.int .i64 u.v, .int .i64 u.f, .slice a u.args.length cap]) ∧ InP q w u.args a
theorem BMap.mono {q : Nat → Prop} {w w' : World} {bs : List (Int × T)} {f : Int → Option Value} (h : BMap q w bs f) (hs : ∀ k, q k → k < w.heap.size → w'.heap[k]? = w.heap[k]?) : BMap q w' bs f := fun v =>
  ⟨(h v).1, fun u hu => by obtain ⟨a, cap, h1, h2⟩ := (h v).2 u hu; exact ⟨a, cap, h1, InP_same hs h2⟩⟩
theorem lookB_snoc (bs : List (Int × T)) (x : Int × T) (v : Int) : lookB (bs ++ [x]) v = match lookB bs v with
    | some u => some u
    | none => if x.1 = v then some x.2 else none := by
  induction bs with
  | nil => obtain ⟨a, b⟩ := x; rfl
  | cons y bs ih =>
    obtain ⟨a, b⟩ := y
    rw [List.cons_append, lookB, lookB]
    by_cases h : a = v
    · rw [if_pos h, if_pos h]
    · rw [if_neg h, if_neg h, ih]
theorem lookB_none {bs : List (Int × T)} {v : Int} (h : ∀ x, x ∈ bs → x.1 ≠ v) : lookB bs v = none := by
  cases e : lookB bs v with
  | none => rfl
  | some u => exact absurd rfl (h (v, u) (lookB_mem e))
def Once (bs : List (Int × T)) : Prop := ∀ (i j : Nat) (x y : Int × T), bs[i]? = some x → bs[j]? = some y → x.1 = y.1 → i = j
theorem lookB_take {bs : List (Int × T)} (ho : Once bs) {k : Nat} {x : Int × T} (hx : bs[k]? = some x) (v : Int) : lookB (bs.take (k + 1)) v = if v = x.1 then some x.2 else lookB (bs.take k) v := by
  have h0 : lookB (bs.take k) x.1 = none := lookB_none (fun y hy e => by
    obtain ⟨i, hi, e2⟩ := List.getElem_of_mem hy
    have hik : i < k := by rw [List.length_take] at hi; omega
    have h2 : bs[i]? = some y := by rw [← e2, List.getElem_take, List.getElem?_eq_getElem]
    have := ho i k y x h2 hx e
    omega)
  rw [List.take_add_one, hx]
  show lookB (bs.take k ++ [x]) v = _
  rw [lookB_snoc]
  by_cases e : v = x.1
  · subst e; rw [h0, if_pos rfl]
  · rw [if_neg e, if_neg (fun h => e h.symm)]
    cases lookB (bs.take k) v <;> rfl
set_option maxRecDepth 100000 in
set_option maxHeartbeats 1000000 in
theorem boundBy_any (bs : List (Int × T)) (ba : Option Addr) (bc : Nat) (w : World) (q : Nat → Prop) (hq : ∀ k, q k → k < w.heap.size) (hl : bs.length ≤ 1000) (ho : Once bs) (hr : ∀ x, x ∈ bs → 1 ≤ x.1 ∧ x.1 ≤ 1000) (hin : Binds q w bs ba) :
    Calls Tryz.prog 295 #[.slice ba bs.length bc] w fun e w' => ∃ b f, e = .returned (.map (some b)) ∧ w.heap.size ≤ b ∧ MapAt w' b bs.length f ∧ BMap q w' bs f ∧ Below w.heap.size w w' := by
  have hmm := @run_makeMap Tryz.prog
  have Hq := hide hq
  have Hr := hide hr
  have Hin := hide hin
  have Ho := hide ho
  clear hq hr hin ho
  go_enter Tryz.func295, Tryz.ntmps295
  go_wp2_with fail
  go_loopw [9] (fun i wr => ∃ (k : Nat) (f : Int → Option Value), k ≤ bs.length ∧ i = .int .i64 k ∧ MapAt wr w.heap.size k f ∧ BMap q wr (bs.take k) f ∧ Below w.heap.size w wr) (fun i _ => bs.length - (intOf i).toNat)
  case atStart => exact ⟨0, fun _ => none, Nat.zero_le _, rfl, MapAt.made w, fun v => ⟨fun _ => rfl, fun u hu => by cases hu⟩, below1 _ _⟩
  case round =>
    obtain ⟨k, f, hk, rfl, hM, hB, hb⟩ := hrel
    have hMl := hM.lt
    have HM := hide hM
    have HB := hide hB
    have Hb := hide hb
    clear hM hB hb hmm
    by_cases hlt : k < bs.length
    · obtain ⟨b, off, rfl⟩ := Binds_some Hin.out (by omega)
      obtain ⟨x, hx⟩ : ∃ x, bs[k]? = some x := ⟨bs[k], List.getElem?_eq_getElem hlt⟩
      obtain ⟨a1, cap1, hqb, c0, c1, c2, c3, hin1⟩ := Binds_at (Binds_below Hb.out Hin.out) hx
      have hxr := Hr.out x (List.mem_of_getElem? hx)
      have hqb' := Hq.out b hqb
      have hkI : (k : Int) < bs.length := by omega
      have hk0 : (0 : Int) ≤ k := by omega
      have Hx := hide hx
      have Hin1 := hide hin1
      have hbb := lt_of_cell c0
      clear hx hin1
      go_wp2_with (at_mapUpdate; refine wpList_store_map _ rfl _ _ _ 319 rfl 77 Tryz.underlying319 w.heap.size k f rfl (HM.out.below (below1 _ _)) (by unfold maxLen; omega) x.1 (.agg #[.int .i64 x.2.v, .int .i64 x.2.f, .slice a1 x.2.args.length cap1]) (by first | rfl | simp [go_sem]) (by first | rfl | simp [go_sem]) (by omega) (by omega) ?_; intro w2 hM2 hg2)
      have hkeep : ∀ j, q j → j < wr.heap.size → w2.heap[j]? = wr.heap[j]? := fun j hj hjl => by
        have := Hq.out j hj
        rw [hg2.block j (by rw [World.size_alloc]; omega) (fun e => by cases e; omega), Below.heap_alloc _ _ _ hjl]
      have hb2 : Below w.heap.size w w2 := (Hb.out.alloc (by omega) _).grown hg2 (by rw [World.size_alloc]; omega) (fun j hj => by cases hj; exact Nat.le_refl _)
      have hB2 : BMap q w2 (bs.take (k + 1)) (fun j => if j = x.1 then some (.agg #[.int .i64 x.2.v, .int .i64 x.2.f, .slice a1 x.2.args.length cap1]) else f j) := fun v => by
        rw [lookB_take Ho.out Hx.out]
        by_cases e : v = x.1
        · simp only [if_pos e]
          refine ⟨fun h => (by cases h), fun u hu => ?_⟩
          obtain rfl : x.2 = u := by simpa using hu
          exact ⟨a1, cap1, rfl, InP_same hkeep Hin1.out⟩
        · simp only [if_neg e]
          exact (HB.out.mono hkeep) v
      go_roundw
      case rel => exact ⟨k + 1, _, by omega, by go_num, hM2, hB2, hb2⟩
      case measure => simp [intOf]; omega
    · have hk2 : k = bs.length := by omega
      subst hk2
      rw [List.take_length] at HB
      go_wp2_with fail
      go_ret
      exact ⟨w.heap.size, f, rfl, Nat.le_refl _, HM.out, HB.out, Hb.out⟩
end Go.Proofs.YtbkedppkdhfpoabGreat

namespace Go.Proofs.YtbkedppkdhfpoabGreat
open Go.RowKit
theorem below3 (w : World) (o1 o2 o3 : Obj) : Below w.heap.size w (((w.alloc o1).alloc o2).alloc o3) := (below2 w o1 o2).alloc (by simp; omega) o3
attribute [local go_sem ↓] Go.wp_at_zero Go.wp_at_succ
end Go.Proofs.YtbkedppkdhfpoabGreat

namespace Go.Proofs.YtbkedppkdhfpoabGreat
open Go.RowKit
theorem okP_v {ar : List Int} {t : T} (h : okP ar t) : 0 ≤ t.v := by
  have h1 := (okP_iff.1 h).1
  rw [partErr] at h1
  by_cases hv : t.v = 0
  · omega
  · rw [if_pos hv] at h1
    by_cases h2 : t.v < 1 ∨ 1000 < t.v
    · rw [if_pos h2] at h1; cases h1
    · omega
attribute [local go_sem ↓] Go.wp_at_zero Go.wp_at_succ
end Go.Proofs.YtbkedppkdhfpoabGreat

namespace Go.Proofs.YtbkedppkdhfpoabGreat
open Go.RowKit Go.Maps
theorem Tryz.zero77 (w : World) : (zeroValue 77).run Tryz.prog w = .ok (.agg #[.int .i64 0, .int .i64 0, .slice none 0 0]) w := by kernel_rfl
theorem Kids_length {p : Nat → Prop} {w : World} {ts : List T} : ∀ {cs : List Value}, Kids p w ts cs → cs.length = ts.length * 3 := by
  induction ts with
  | nil => intro cs h; rw [show cs = [] from h]; rfl
  | cons t ts ih =>
    intro cs h
    obtain ⟨a, cap, rest, rfl, _, h⟩ := h
    have := ih h
    simp only [List.length_cons]; omega
structure Mk (w wr : World) (v f : Int) (n : Nat) (L : List T) (k g b7 : Nat) : Prop where
  kids : ∃ cs, Kids (fun x => w.heap.size + 1 < x ∧ x ≠ g) wr (L.take k) cs ∧ ∀ j u, cs[j]? = some u → wr.cell? ⟨g, j, none⟩ = some u
  cells : ∀ j, j < n * 3 → ∃ u, wr.cell? ⟨g, j, none⟩ = some u
  fr : ∀ j, wr.frozen? ⟨g, j, none⟩ = false
  made : Three wr b7 (.int .i64 v) (.int .i64 f) (.slice (some ⟨g, 0, none⟩) n n)
  res : Three wr (w.heap.size + 1) (.int .i64 0) (.int .i64 0) (.slice none 0 0)
  below : Below w.heap.size w wr
  gg : w.heap.size + 1 < g
  gl : g < wr.heap.size
  bb : w.heap.size + 1 < b7
  ne : b7 ≠ g
theorem Mk.step {w wr w2 : World} {v f : Int} {n k g b7 : Nat} {L : List T} {c : T} {a2 : Option Addr} {cap2 : Nat} {o : Obj} (h : Mk w wr v f n L k g b7) (hL : L.length = n) (hc : L[k]? = some c) (hb : Below (wr.alloc o).heap.size (wr.alloc o) w2) (hi : InP (fun x => (wr.alloc o).heap.size ≤ x) w2 c.args a2) :
    Mk w (set3 w2 g (k * 3) (.int .i64 c.v) (.int .i64 c.f) (.slice a2 c.args.length cap2)) v f n L (k + 1) g b7 := by
  have hk : k < n := by
    rcases Nat.lt_or_ge k L.length with h | h
    · omega
    · rw [List.getElem?_eq_none h] at hc; cases hc
  have hgl := h.gl
  have hgg := h.gg
  have hwb := h.below.size
  have hb' : Below wr.heap.size wr w2 := (below1 _ _).trans (hb.mono (by simp))
  have hs2 := hb'.size
  obtain ⟨cs, hk1, hk2⟩ := h.kids
  have hcl := Kids_length hk1
  rw [List.length_take_of_le (by omega)] at hcl
  have hcells : ∀ j, j < n * 3 → ∃ u, w2.cell? ⟨g, j, none⟩ = some u := fun j hj => by
    rw [hb'.cell (p := ⟨g, j, none⟩) hgl]; exact h.cells j hj
  have hsame := set3_same (w := w2) (b := g) (off := k * 3) (u0 := .int .i64 c.v) (u1 := .int .i64 c.f) (u2 := .slice a2 c.args.length cap2) (fun j _ hj2 => hcells j (by omega))
  refine ⟨⟨cs ++ [.int .i64 c.v, .int .i64 c.f, .slice a2 c.args.length cap2], ?_, ?_⟩, ?_, ?_, (h.made.below hb').same (set3_block h.ne), (h.res.below hb').same (set3_block (by have := h.gg; omega)), below_set3 (h.below.trans (hb'.mono hwb)) (by have := h.gg; omega) _ _ _, h.gg, by rw [set3_size]; omega, h.bb, h.ne⟩
  · rw [List.take_add_one, hc]
    refine Kids_append (Kids_mono (fun x hx hxl => ⟨hx, by rw [set3_block hx.2]; exact hb'.block x hxl⟩) hk1) ⟨a2, cap2, [], rfl, ?_, rfl⟩
    refine InP_mono (fun b o v hp hv => ?_) _ _ _ (Nat.le_refl _) hi
    have hp : wr.heap.size + 1 ≤ b := by simpa using hp
    exact ⟨⟨by omega, by omega⟩, by rw [World.cell?_of_block (w := w2) (a := ⟨b, o, none⟩) (set3_block (show b ≠ g by omega))]; exact hv⟩
  · intro j u hu
    rcases Nat.lt_or_ge j cs.length with hj | hj
    · rw [List.getElem?_append_left hj] at hu
      rw [set3_cell (by omega), hb'.cell (p := ⟨g, j, none⟩) hgl]; exact hk2 j u hu
    · rw [List.getElem?_append_right hj, hcl] at hu
      have hj3 : j - k * 3 = 0 ∨ j - k * 3 = 1 ∨ j - k * 3 = 2 := by
        rcases Nat.lt_or_ge (j - k * 3) 3 with h9 | h9
        · omega
        · rw [List.getElem?_eq_none (by simpa using h9)] at hu; cases hu
      rcases hj3 with e | e | e
      · rw [e] at hu
        obtain rfl : Value.int .i64 c.v = u := by simpa using hu
        rw [show j = k * 3 by omega]; exact hsame.1
      · rw [e] at hu
        obtain rfl : Value.int .i64 c.f = u := by simpa using hu
        rw [show j = k * 3 + 1 by omega]; exact hsame.2.1
      · rw [e] at hu
        obtain rfl : Value.slice a2 c.args.length cap2 = u := by simpa using hu
        rw [show j = k * 3 + 2 by omega]; exact hsame.2.2
  · intro j hj
    by_cases h3 : j < k * 3 ∨ k * 3 + 2 < j
    · rw [set3_cell h3]; exact hcells j hj
    · have : j = k * 3 ∨ j = k * 3 + 1 ∨ j = k * 3 + 2 := by omega
      rcases this with rfl | rfl | rfl
      · exact ⟨_, hsame.1⟩
      · exact ⟨_, hsame.2.1⟩
      · exact ⟨_, hsame.2.2⟩
  · intro j
    rw [set3_frozen, hb'.frozen (p := ⟨g, j, none⟩) hgl]; exact h.fr j
theorem Mk.fin {w wr : World} {v f : Int} {n g b7 : Nat} {L : List T} (h : Mk w wr v f n L n g b7) (hL : L.length = n) : InP (fun x => w.heap.size + 1 < x) wr L (some ⟨g, 0, none⟩) := by
  obtain ⟨cs, h1, h2⟩ := h.kids
  rw [← hL, List.take_length] at h1
  exact Kids_in h.gg (Kids_mono (fun x hx _ => ⟨hx.1, rfl⟩) h1) (fun j u hu => by rw [Nat.zero_add]; exact h2 j u hu)
theorem Mk.start {w wr : World} {v f : Int} {n g b7 : Nat} {L : List T} (hg : wr.heap[g]? = some (.cells (row3 n) 77)) (h7 : Three wr b7 (.int .i64 v) (.int .i64 f) (.slice (some ⟨g, 0, none⟩) n n)) (hr : Three wr (w.heap.size + 1) (.int .i64 0) (.int .i64 0) (.slice none 0 0)) (hb : Below w.heap.size w wr) (h1 : w.heap.size + 1 < g) (h2 : w.heap.size + 1 < b7) (h3 : b7 ≠ g) : Mk w wr v f n L 0 g b7 := by
  refine ⟨⟨[], rfl, fun j u hu => by simp at hu⟩, fun j hj => ?_, fun j => frozen_of_heap hg j, h7, hr, hb, h1, (Array.getElem?_eq_some_iff.1 hg).1, h2, h3⟩
  have hs : j < (row3 n).size := by rw [size_row3]; exact hj
  refine ⟨(row3 n)[j], ?_⟩
  unfold World.cell?
  rw [hg]
  simp [hs]
theorem Mk.behind {w wr : World} {v f : Int} {n k g b7 : Nat} {L : List T} (h : Mk w wr v f n L k g b7) (hk : k < n) : ∀ (o : Obj) (w2 : World), Below (wr.alloc o).heap.size (wr.alloc o) w2 → (w2.cell? ⟨b7, 2, none⟩ = some (.slice (some ⟨g, 0, none⟩) n n)) ∧
      (∃ v0 v1 v2, w2.cell? ⟨g, k * 3, none⟩ = some v0 ∧ w2.cell? ⟨g, k * 3 + 1, none⟩ = some v1 ∧ w2.cell? ⟨g, k * 3 + 2, none⟩ = some v2) ∧ (∀ j, w2.frozen? ⟨g, j, none⟩ = false) := by
  intro o w2 hb
  have hb' : Below wr.heap.size wr w2 := (below1 _ _).trans (hb.mono (by simp))
  have hgl := h.gl
  obtain ⟨v0, e0⟩ := h.cells (k * 3) (by omega)
  obtain ⟨v1, e1⟩ := h.cells (k * 3 + 1) (by omega)
  obtain ⟨v2, e2⟩ := h.cells (k * 3 + 2) (by omega)
  exact ⟨(h.made.below hb').c2, ⟨v0, v1, v2, cell_below hb' e0, cell_below hb' e1, cell_below hb' e2⟩, fun j => by rw [hb'.frozen (p := ⟨g, j, none⟩) hgl]; exact h.fr j⟩
set_option maxRecDepth 100000 in
set_option maxHeartbeats 2000000 in
theorem applyP_any (ar : List Int) (q : Nat → Prop) (bs : List (Int × T)) (b n : Nat) (f : Int → Option Value) (hpos : ∀ v, v ≤ 0 → lookB bs v = none) (hus : ∀ v u, (v, u) ∈ bs → u.sz ≤ 1000) (N : Nat) : ∀ (t : T) (a : Option Addr) (cap : Nat) (w : World), t.sz < N → t.sz ≤ 1000 → MapAt w b n f → BMap q w bs f → okP ar t → InL w t.args a →
    Calls Tryz.prog 296 #[.map (some b), .agg #[.int .i64 t.v, .int .i64 t.f, .slice a t.args.length cap]] w fun e w' =>
      ∃ a' cap', e = .returned (.agg #[.int .i64 (applyT bs t).v, .int .i64 (applyT bs t).f, .slice a' (applyT bs t).args.length cap']) ∧ InP (fun k => w.heap.size ≤ k) w' (applyT bs t).args a' ∧ Below w.heap.size w w' := by
  induction N with
  | zero => intro t a cap w hN; omega
  | succ N ih =>
    intro t a cap w hN ht hM hB hok hin
    have Hih := hide ih
    have hv0 := okP_v hok
    have hv1 : t.v ≤ 1000 := by
      have h1 := (okP_iff.1 hok).1
      rw [partErr] at h1
      by_cases hv : t.v = 0
      · omega
      · rw [if_pos hv] at h1
        by_cases h2 : t.v < 1 ∨ 1000 < t.v
        · rw [if_pos h2] at h1; cases h1
        · omega
    have hte := T.sz_eq t
    have hlook := fun o1 o2 => (hM.below (below2 w o1 o2)).look_ok (t := 319) Tryz.underlying319 (Tryz.zero77 _) (k := t.v) (by omega) (by omega)
    have HM := hide hM
    have HB := hide hB
    have Hok := hide hok
    clear ih hM hB hok
    cases hlk : lookB bs t.v with
    | some u =>
      have hp : putIn bs t.v = some u := by
        rw [putIn, if_pos ?_, hlk]
        rcases Int.lt_or_le 0 t.v with h | h
        · exact h
        · rw [hpos _ h] at hlk; cases hlk
      obtain ⟨a1, cap1, hf, hin1⟩ := (HB.out t.v).2 u hlk
      rw [applyT_some hp]
      rw [hf] at hlook
      have husz := hus _ _ (lookB_mem hlk)
      have Hin1 := hide (InP_imp (q := fun _ => True) (fun _ _ => trivial) hin1)
      clear hlk hp hf hin1
      go_enter Tryz.func296, Tryz.ntmps296
      go_wp2_with fail
      refine (copyOf_any (u.sz + 1) u a1 cap1 _ (by omega) husz (InP_below (w := w) (below3 _ _ _ _) Hin1.out)).mono ?_
      rintro e w3 ⟨s, Bc, rfl, hown, _, hrg, hb3⟩
      obtain ⟨a2, cap2, rfl, hin2⟩ := In_iff.1 (Own_inP hown)
      have hz3 := hb3.size
      simp at hz3
      have HR : Hid (Three w3 (w.heap.size + 1) (.int .i64 0) (.int .i64 0) (.slice none 0 0)) := Three.below ((Three.new 77 (by simp)).alloc _) hb3
      obtain ⟨m0, m1, m2, n0, n1, n2⟩ := HR.out
      have Hin2 : Hid (InP (fun k => w.heap.size ≤ k ∧ k ≠ w.heap.size + 1) w3 u.args a2) := InP_imp (fun k hk => by have := (hrg k hk).1; simp at this; omega) hin2
      have Hb3 : Hid (Below w.heap.size w w3) := (below3 _ _ _ _).trans (hb3.mono (by simp; omega))
      clear hown hrg hb3 hin2
      go_wp2_with fail
      obtain ⟨z0, z1, z2, _, _, _⟩ := HR.out.set (.int .i64 u.v) (.int .i64 u.f) (.slice a2 u.args.length cap2)
      simp only [set3, Nat.zero_add] at z0 z1 z2
      exact bodyPost_ret (v := .agg #[.int .i64 u.v, .int .i64 u.f, .slice a2 u.args.length cap2]) (by simp [results, Tryz.results296, go_sem, z0, z1, z2]) rfl ⟨a2, cap2, rfl, InP_imp (fun k hk => hk.1) (InP_same (fun k hk _ => set3_block (b := w.heap.size + 1) (off := 0) hk.2) Hin2.out), below_set3 (b := w.heap.size + 1) (off := 0) Hb3.out (by omega) _ _ _⟩
    | none =>
      have hp : putIn bs t.v = none := by
        rw [putIn, hlk]; split <;> rfl
      have hf := (HB.out t.v).1 hlk
      rw [applyT_none hp]
      rw [hf] at hlook
      obtain ⟨L, hL⟩ : ∃ L, L = t.args.map (applyT bs) := ⟨_, rfl⟩
      have hLl : L.length = t.args.length := by rw [hL]; simp
      have HLk := hide (show ∀ (k : Nat) (x : T), t.args[k]? = some x → L[k]? = some (applyT bs x) from fun k x hx => by rw [hL]; simp [hx])
      rw [← hL]
      show Calls _ _ _ _ fun e w' => ∃ a' cap', e = .returned (.agg #[.int .i64 t.v, .int .i64 t.f, .slice a' L.length cap']) ∧ InP (fun k => w.heap.size ≤ k) w' L a' ∧ Below w.heap.size w w'
      have htl : t.args.length ≤ 1000 := by have := T.length_le t.args; omega
      have Hin := hide hin
      have hmk := run_make3 t.args.length (by omega)
      clear hlk hp hf hL hin
      obtain ⟨W3, hW3⟩ : ∃ W3, W3 = (((w.alloc (.cells #[.int .i64 t.v, .int .i64 t.f, .slice a t.args.length cap] 77)).alloc (.cells #[.int .i64 0, .int .i64 0, .slice none 0 0] 77)).alloc (.cells #[.int .i64 0, .int .i64 0, .slice none 0 0] 77)) := ⟨_, rfl⟩
      have hT3 : Hid (Three W3 w.heap.size (.int .i64 t.v) (.int .i64 t.f) (.slice a t.args.length cap)) := by rw [hW3]; exact ((Three.new 77 rfl).alloc _).alloc _
      have hR3 : Hid (Three W3 (w.heap.size + 1) (.int .i64 0) (.int .i64 0) (.slice none 0 0)) := by rw [hW3]; exact (Three.new 77 (by simp)).alloc _
      have hWb : Hid (Below w.heap.size w W3) := by rw [hW3]; exact below3 _ _ _ _
      have hzW : W3.heap.size = w.heap.size + 3 := by rw [hW3]; simp
      have HW3 := hide hW3
      clear hW3
      go_enter Tryz.func296, Tryz.ntmps296
      go_upto_region 4 with fail
      rw [← HW3.out]
      obtain ⟨t0, t1, t2, _, _, _⟩ := hT3.out
      go_cut [7] (fun v7 wc => ∃ g b7, v7 = .pointer (some ⟨b7, 0, none⟩) ∧ Mk w wc t.v t.f t.args.length L 0 g b7 ∧ Hid (Below W3.heap.size W3 wc))
      case first =>
        go_region
        all_goals (go_wp2_with fail; go_meet)
        · refine ⟨w.heap.size + 3, w.heap.size + 3 + 1, rfl, Mk.start ?_ ?_ ?_ ?_ (by omega) (by omega) (by omega), ?_⟩
          · rw [← hzW]; exact (Below.heap_alloc (W3.alloc _) _ _ (by simp)).trans (heap_alloc_new W3 _)
          · exact Three.same (Three.new 77 (by rw [World.size_alloc, hzW])) rfl
          · exact Three.same ((hR3.out.alloc _).alloc _) rfl
          · exact Below.drew (hWb.out.trans ((below2 _ _ _).mono (by omega)))
          · exact Below.drew (below2 _ _ _)
        · refine ⟨w.heap.size + 3 + 1, w.heap.size + 3, rfl, Mk.start ?_ ?_ ?_ ?_ (by omega) (by omega) (by omega), ?_⟩
          · have h9 := heap_alloc_new (W3.alloc (.cells #[.int .i64 t.v, .int .i64 t.f, .slice (some ⟨w.heap.size + 3 + 1, 0, none⟩) t.args.length t.args.length] 77)) (.cells (row3 t.args.length) 77)
            rw [World.size_alloc, hzW] at h9
            exact h9
          · exact Three.same ((Three.new 77 hzW.symm).alloc _) rfl
          · exact Three.same ((hR3.out.alloc _).alloc _) rfl
          · exact Below.drew (hWb.out.trans ((below2 _ _ _).mono (by omega)))
          · exact Below.drew (below2 _ _ _)
      case rest =>
        obtain ⟨g, b7, rfl, hmk0, HBc⟩ := hcut
        have Hmk0 := hide hmk0
        obtain ⟨t0, t1, t2, _, _, _⟩ := hT3.out.below HBc.out
        clear hmk0 hmk hT3 hR3 hWb HW3 hzW
        go_wp2_with fail
        go_loopw [32] (fun i wr => ∃ (k : Nat), k ≤ t.args.length ∧ i = .int .i64 k ∧ Mk w wr t.v t.f t.args.length L k g b7) (fun i _ => t.args.length - (intOf i).toNat)
        case atStart => exact ⟨0, Nat.zero_le _, rfl, Hmk0.out⟩
        case round =>
          obtain ⟨k, hk, rfl, hmk⟩ := hrel
          have Hmk := hide hmk
          have Hinr := hide (InP_below hmk.below Hin.out)
          obtain ⟨d0, d1, d2, g0, g1, g2⟩ := hmk.res
          obtain ⟨p0, p1, p2, _, _, _⟩ := hmk.made
          have hgl := hmk.gl
          have hbl := hmk.made.lt
          have hgg := hmk.gg
          clear hmk
          by_cases hlt : k < t.args.length
          · obtain ⟨b', off, rfl⟩ := InP_some Hinr.out (by omega)
            obtain ⟨c, hc⟩ : ∃ c, t.args[k]? = some c := ⟨t.args[k], List.getElem?_eq_getElem hlt⟩
            obtain ⟨a1, cap1, _, k0, k1, k2, hin1⟩ := InP_at Hinr.out hc
            have hcsz : c.sz < N ∧ c.sz ≤ 1000 := by
              have := T.szL_mem (List.mem_of_getElem? hc)
              omega
            have HLc := hide (HLk.out k c hc)
            have Hco := hide (okArg Hok.out (List.mem_of_getElem? hc))
            have Hcall := hide (Hmk.out.behind hlt)
            have Hbw := hide Hmk.out.below
            have Hin1 := hide hin1
            clear hc hin1
            have HMr := hide (HM.out.below Hbw.out)
            have HBr := hide (HB.out.mono (fun j _ hj => Hbw.out.block j hj))
            have HMo := hide (fun o => (HMr.out.below (below1 wr o)).same (w' := (wr.alloc o).drew) rfl)
            have HBo := hide (fun o => HBr.out.mono (w' := (wr.alloc o).drew) (fun j _ hj => (below1 wr o).block j hj))
            have HIo := hide (fun o => InP_heap (w := wr.alloc o) (w' := (wr.alloc o).drew) rfl (InP_alloc o Hin1.out))
            have hz1 : w.heap.size + 1 < wr.heap.size := by omega
            go_wp2_with fail
            go_region_with (go_at_call 296; refine (Hih.out c a1 cap1 _ hcsz.1 hcsz.2 (HMo.out _) (HBo.out _) Hco.out (HIo.out _)).mono ?_; rintro e w2 ⟨a2, cap2, rfl, hin2, hb1⟩; have hb2 := below_undrew hb1; clear hb1; obtain ⟨q2, ⟨v0, v1, v2, e0, e1, e2⟩, qf⟩ := Hcall.out _ w2 hb2; have q0 := qf (k * 3); have q1 := qf (k * 3 + 1); have q3 := qf (k * 3 + 2); clear qf)
            all_goals
              go_wp2_with fail
              go_roundw
              case rel => exact ⟨k + 1, by omega, by go_num, Hmk.out.step hLl HLc.out hb2 hin2⟩
              case measure => simp [intOf]; omega
          · have hk2 : k = t.args.length := by omega
            subst hk2
            have HF := hide (Hmk.out.fin hLl)
            have Hres := hide (Hmk.out.res.set (.int .i64 t.v) (.int .i64 t.f) (.slice (some ⟨g, 0, none⟩) t.args.length t.args.length))
            have Hbw := hide Hmk.out.below
            go_wp2_with fail
            obtain ⟨z0, z1, z2, _, _, _⟩ := Hres.out
            simp only [set3, Nat.zero_add] at z0 z1 z2
            exact bodyPost_ret (v := .agg #[.int .i64 t.v, .int .i64 t.f, .slice (some ⟨g, 0, none⟩) t.args.length t.args.length]) (by simp [results, Tryz.results296, go_sem, z0, z1, z2]) rfl ⟨some ⟨g, 0, none⟩, t.args.length, by rw [hLl], InP_imp (fun j hj => by omega) (InP_same (fun j hj _ => set3_block (b := w.heap.size + 1) (off := 0) (show j ≠ _ by omega)) HF.out), below_set3 (b := w.heap.size + 1) (off := 0) Hbw.out (by omega) _ _ _⟩
end Go.Proofs.YtbkedppkdhfpoabGreat

namespace Go.Proofs.YtbkedppkdhfpoabGreat
open Go.RowKit
theorem grown_refl (b : Nat) (w : World) : w.grownBy w (some b) := ⟨rfl, rfl, rfl, Nat.le_refl _, fun _ _ _ => rfl⟩
theorem grown_set {b : Nat} {w w' : World} (h : w.grownBy w' (some b)) (o : Nat) (v : Value) : w.grownBy (w'.setCell ⟨b, o, none⟩ v) (some b) :=
  h.trans ⟨rfl, rfl, rfl, by simp [World.setCell], fun k _ hk => Below.heap_setCell _ _ _ _ (fun e => hk (by simp only [e]))⟩
theorem grown_cell {b : Nat} {w w' : World} (h : w.grownBy w' (some b)) {k o : Nat} {v : Value} (hk : k ≠ b) (hc : w.cell? ⟨k, o, none⟩ = some v) : w'.cell? ⟨k, o, none⟩ = some v := by
  rw [World.cell?_of_block (w := w) (a := ⟨k, o, none⟩) (h.block k (lt_of_cell hc) (fun e => hk (by cases e; rfl)))]; exact hc
theorem NumsQ_grown {q : Nat → Prop} {w w' : World} {b : Nat} (h : w.grownBy w' (some b)) (hq : ∀ k, q k → k ≠ b) {ns : List Nat} {a : Option Addr} (hn : NumsQ q w ns a) : NumsQ q w' ns a := by
  obtain ⟨hl, hn⟩ := hn
  rcases hn with h0 | ⟨x, off, h1, h2, h3⟩
  · exact ⟨hl, Or.inl h0⟩
  · exact ⟨hl, Or.inr ⟨x, off, h1, h2, fun i hi => grown_cell h (hq x h2) (h3 i hi)⟩⟩
theorem NumsQ_below {q : Nat → Prop} {w w' : World} (h : Below w.heap.size w w') {ns : List Nat} {a : Option Addr} (hn : NumsQ q w ns a) : NumsQ q w' ns a := by
  obtain ⟨hl, hn⟩ := hn
  rcases hn with h0 | ⟨x, off, h1, h2, h3⟩
  · exact ⟨hl, Or.inl h0⟩
  · exact ⟨hl, Or.inr ⟨x, off, h1, h2, fun i hi => cell_below h (h3 i hi)⟩⟩
theorem UAt.below {q : Nat → Prop} {w w' : World} {u b c : Nat} {P : List Pt} (h : UAt q w u b c P) (hb : Below w.heap.size w w') : UAt q w' u b c P := by
  refine ⟨cell_below hb h.list, fun k p hp => ?_, h.qu, h.ub, h.len, fun k => by rw [hb.frozen (p := ⟨b, k, none⟩) h.ltb]; exact h.frb k, fun k => by rw [hb.frozen (p := ⟨u, k, none⟩) (lt_of_cell h.list)]; exact h.fru k, Nat.lt_of_lt_of_le h.ltb hb.size⟩
  obtain ⟨ta, tl, tc, aa, ac, c0, c1, c2, c3, c4, c5, hn⟩ := h.at6 k p hp
  exact ⟨ta, tl, tc, aa, ac, cell_below hb c0, cell_below hb c1, cell_below hb c2, cell_below hb c3, cell_below hb c4, cell_below hb c5, NumsQ_below hb hn⟩
def eqR (rec : List Pt → Nat → Nat → Option (Bool × List Pt)) : List Nat → List Nat → List Pt → Option (Bool × List Pt)
  | a :: l, b :: m, P => match rec P a b with
    | none => none
    | some x => if x.1 = true then eqR rec l m x.2 else some (false, x.2)
  | _, _, P => some (true, P)
def eqL (rec : List Pt → Nat → Nat → Option (Bool × List Pt)) (l m : List Nat) (P : List Pt) : Option (Bool × List Pt) := if l.length = m.length then eqR rec l m P else some (false, P)
theorem eqR_cons {rec : List Pt → Nat → Nat → Option (Bool × List Pt)} {a b : Nat} {l m : List Nat} {P : List Pt} {x : Bool × List Pt} (h : eqR rec (a :: l) (b :: m) P = some x) : ∃ y, rec P a b = some y ∧ (if y.1 = true then eqR rec l m y.2 else some (false, y.2)) = some x := by
  rw [eqR] at h
  split at h
  · cases h
  · rename_i y hy; exact ⟨y, hy, h⟩
theorem drop_getD {l : List Nat} {j : Nat} (h : j < l.length) : l.drop j = l.getD j 0 :: l.drop (j + 1) := by
  rw [List.drop_eq_getElem_cons h]; simp [List.getD, List.getElem?_eq_getElem h]
theorem eg260 (args : Array Value) (w : World) : (callFunc 260 args).run Tryz.prog w = .ok (.enter 260 args) w := by kernel_rfl
set_option maxRecDepth 100000 in
set_option maxHeartbeats 1000000 in
theorem equalJoin_any (q : Nat → Prop) (u b c : Nat) (rec : List Pt → Nat → Nat → Option (Bool × List Pt))
    (hc : ∀ (P : List Pt) (i j : Nat) (x : Bool × List Pt) (w : World), UAt q w u b c P → rec P i j = some x → Calls Tryz.prog 260 #[.pointer (some ⟨u, 0, none⟩), .int .i64 (i : Int), .int .i64 (j : Int)] w fun e w' => e = .returned (.bool x.1) ∧ UAt q w' u b c x.2 ∧ w.grownBy w' (some b))
    (l m : List Nat) (la : Option Addr) (lc : Nat) (ma : Option Addr) (mc : Nat) (P : List Pt) (x : Bool × List Pt) (w : World) (hU : UAt q w u b c P) (hl : NumsQ q w l la) (hm : NumsQ q w m ma) (hx : eqL rec l m P = some x) :
    Calls Tryz.prog 287 #[.slice la l.length lc, .slice ma m.length mc, .func (.func 260) #[.pointer (some ⟨u, 0, none⟩)] #[]] w fun e w' => e = .returned (.bool x.1) ∧ UAt q w' u b c x.2 ∧ w.grownBy w' (some b) := by
  have hll := hl.1
  have hqu := hide hU.qu
  have Hc := hide hc
  have HU := hide hU
  have Hl := hide hl
  have Hm := hide hm
  have e75 := eg260
  clear hc hU hl hm
  by_cases h3 : l.length = m.length
  · have e3 : ((l.length : Int) != m.length) = false := by simp; omega
    rw [eqL, if_pos h3] at hx
    have Hx := hide hx
    have H3 := hide h3
    clear h3 hx
    go_enter Tryz.func287, Tryz.ntmps287
    go_wp2_with fail
    go_loopw [17] (fun i wr => ∃ (k : Nat) (Q : List Pt), k ≤ l.length ∧ i = .int .i64 k ∧ Hid (eqR rec (l.drop k) (m.drop k) Q = some x) ∧ Hid (UAt q wr u b c Q) ∧ Hid (w.grownBy wr (some b))) (fun i _ => l.length - (intOf i).toNat)
    case atStart => exact ⟨0, P, Nat.zero_le _, rfl, Hx, HU, grown_refl _ _⟩
    case round =>
      obtain ⟨k, Q, hk, rfl, HL, HUr, Hgr⟩ := hrel
      by_cases hlt : k < l.length
      · have hlt2 : k < m.length := by have := H3.out; omega
        obtain ⟨b1, off1, rfl, _, hc1⟩ := NumsQ_at (NumsQ_grown Hgr.out (fun k hk => (hqu.out k hk).2) Hl.out) (show 0 < l.length by omega)
        obtain ⟨b2, off2, rfl, _, hc2⟩ := NumsQ_at (NumsQ_grown Hgr.out (fun k hk => (hqu.out k hk).2) Hm.out) (show 0 < m.length by omega)
        have k0 := hc1 k hlt
        have m0 := hc2 k hlt2
        have hL := HL.out
        rw [drop_getD hlt, drop_getD hlt2] at hL
        obtain ⟨y, hy, hxy⟩ := eqR_cons hL
        have HC := hide (Hc.out Q (l.getD k 0) (m.getD k 0) y wr HUr.out hy)
        have Hxy := hide hxy
        generalize l.getD k 0 = ak at *
        generalize m.getD k 0 = bk at *
        have hkI : (k : Int) < l.length := by omega
        have hkJ : (k : Int) < m.length := by omega
        have hk0 : (0 : Int) ≤ k := by omega
        have hk3 : k ≤ 100000 := by omega
        clear hL hy hxy HL hc1 hc2
        go_wp2_with fail
        refine HC.out.mono ?_
        rintro e w3 ⟨rfl, hU3, hg3⟩
        have HU3 := hide hU3
        have Hg3 := hide (Hgr.out.trans hg3)
        clear hU3 hg3 HC HUr Hgr
        obtain ⟨y1, y2⟩ := y
        cases y1 with
        | true =>
          have Hgo : Hid (eqR rec (l.drop (k + 1)) (m.drop (k + 1)) y2 = some x) := by
            have h9 := Hxy.out
            rw [if_pos rfl] at h9; exact h9
          clear Hxy
          simp only at HU3
          go_wp2_with fail
          go_roundw
          case rel => exact ⟨k + 1, y2, by omega, by go_num, Hgo, HU3, Hg3⟩
          case measure => simp [intOf]; omega
        | false =>
          have Hgo : Hid ((false, y2) = x) := by
            have h9 := Hxy.out
            rw [if_neg (by simp)] at h9; exact Option.some.inj h9
          clear Hxy
          simp only at HU3
          go_wp2_with fail
          go_ret
          rw [← Hgo.out]
          exact ⟨rfl, HU3.out, Hg3.out⟩
      · have hk2 : k = l.length := by omega
        subst hk2
        have Hgo : Hid ((true, Q) = x) := by
          have h9 := HL.out
          rw [List.drop_length, eqR] at h9
          · exact Option.some.inj h9
          · intro a l' b' m' hh; cases hh
        clear HL
        go_wp2_with fail
        go_ret
        rw [← Hgo.out]
        exact ⟨rfl, HUr.out, Hgr.out⟩
  · have e3 : ((l.length : Int) != m.length) = true := by simp; omega
    rw [eqL, if_neg h3] at hx
    have Hx := hide (Option.some.inj hx)
    clear h3 hx
    go_enter Tryz.func287, Tryz.ntmps287
    go_wp2_with fail
    go_ret
    rw [← Hx.out]
    exact ⟨rfl, HU.out, grown_refl _ _⟩
end Go.Proofs.YtbkedppkdhfpoabGreat

namespace Go.Proofs.YtbkedppkdhfpoabGreat
open Go.RowKit
structure Six (w : World) (b : Nat) (v0 v1 v2 v3 v4 v5 : Value) : Prop where
  c0 : w.cell? ⟨b, 0, none⟩ = some v0
  c1 : w.cell? ⟨b, 1, none⟩ = some v1
  c2 : w.cell? ⟨b, 2, none⟩ = some v2
  c3 : w.cell? ⟨b, 3, none⟩ = some v3
  c4 : w.cell? ⟨b, 4, none⟩ = some v4
  c5 : w.cell? ⟨b, 5, none⟩ = some v5
theorem Six.new {w : World} {v0 v1 v2 v3 v4 v5 : Value} {n : Nat} (e : TypeId) (hn : n = w.heap.size) : Six (w.alloc (.cells #[v0, v1, v2, v3, v4, v5] e)) n v0 v1 v2 v3 v4 v5 := by
  subst hn
  constructor <;> (rw [cell_new _ rfl]; rfl)
theorem Six.below {w w' : World} {b : Nat} {v0 v1 v2 v3 v4 v5 : Value} (h : Six w b v0 v1 v2 v3 v4 v5) (hb : Below w.heap.size w w') : Six w' b v0 v1 v2 v3 v4 v5 :=
  ⟨cell_below hb h.c0, cell_below hb h.c1, cell_below hb h.c2, cell_below hb h.c3, cell_below hb h.c4, cell_below hb h.c5⟩
theorem grown_below' {b : Nat} {w w' w'' : World} (h : w.grownBy w' (some b)) (hb : Below w'.heap.size w' w'') : w.grownBy w'' (some b) :=
  h.trans ⟨hb.os, hb.tape, hb.output, hb.size, fun k hk _ => hb.block k hk⟩
theorem below_drewW (w : World) (n : Nat) : Below w.heap.size w (w.drewN n) := ⟨rfl, rfl, rfl, Nat.le_refl _, fun _ _ => rfl⟩
def joinB (rec : List Pt → Nat → Nat → Option (Bool × List Pt)) (P : List Pt) (x y : Nat) (p q : Pt) : Option (Bool × List Pt) :=
  if q.v = 0 then (if p.f = q.f then eqL rec p.args q.args (P.set y { q with like := x }) else some (false, P.set y { q with like := x })) else some (true, P.set y { q with like := x })
def joinF : Nat → List Pt → Nat → Nat → Option (Bool × List Pt)
  | 0, _, _, _ => none
  | n + 1, P, i, j => match headF P (P.length + 1) i with
    | none => none
    | some a => match headF P (P.length + 1) j with
      | none => none
      | some b => if a = b then some (true, P) else match P[a]? with
        | none => none
        | some p => match P[b]? with
          | none => none
          | some q => if q.v < p.v then joinB (joinF n) P b a q p else joinB (joinF n) P a b p q
theorem joinF_some {n : Nat} {P : List Pt} {i j : Nat} {x : Bool × List Pt} (hm : joinF n P i j = some x) : ∃ m a b, n = m + 1 ∧ headF P (P.length + 1) i = some a ∧ headF P (P.length + 1) j = some b ∧
    ((a = b ∧ (true, P) = x) ∨ (a ≠ b ∧ ∃ p q, P[a]? = some p ∧ P[b]? = some q ∧ (if q.v < p.v then joinB (joinF m) P b a q p else joinB (joinF m) P a b p q) = some x)) := by
  cases n with
  | zero => cases hm
  | succ n =>
    rw [joinF] at hm
    split at hm
    · cases hm
    · rename_i a ha
      split at hm
      · cases hm
      · rename_i b hb
        refine ⟨n, a, b, rfl, ha, hb, ?_⟩
        split at hm
        · rename_i e; exact Or.inl ⟨e, Option.some.inj hm⟩
        · rename_i e
          split at hm
          · cases hm
          · rename_i p hp
            split at hm
            · cases hm
            · rename_i q hq
              exact Or.inr ⟨e, p, q, hp, hq, hm⟩
set_option maxRecDepth 100000 in
set_option maxHeartbeats 2000000 in
theorem join_any (q : Nat → Prop) (u b c : Nat) (N : Nat) : ∀ (P : List Pt) (i j : Nat) (x : Bool × List Pt) (w : World), UAt q w u b c P → joinF N P i j = some x →
    Calls Tryz.prog 260 #[.pointer (some ⟨u, 0, none⟩), .int .i64 (i : Int), .int .i64 (j : Int)] w fun e w' => e = .returned (.bool x.1) ∧ UAt q w' u b c x.2 ∧ w.grownBy w' (some b) := by
  induction N with
  | zero => intro P i j x w _ h; cases h
  | succ N ih =>
    intro P i j x w hU hm
    obtain ⟨m, k, l, hN, hk, hl, hx⟩ := joinF_some hm
    obtain rfl : N = m := by omega
    have Hk := hide (head_any q w u b c P _ i k hU hk)
    have Hl := hide (head_any q w u b c P _ j l hU hl)
    have hkl := headF_lt hk
    have hll := headF_lt hl
    have hlen := hU.len
    have cu := hU.list
    have hkI : (k : Int) < P.length := by omega
    have hlI : (l : Int) < P.length := by omega
    have hk0 : (0 : Int) ≤ k := by omega
    have hl0 : (0 : Int) ≤ l := by omega
    have HU := hide hU
    have Hih := hide ih
    have Hx := hide hx
    clear hm hU hk hl hN ih hx
    go_enter Tryz.func260, Tryz.ntmps260
    go_wp2_with fail
    refine Hk.out.mono ?_
    rintro e w' ⟨rfl, hw'⟩
    obtain rfl := hw'.symm
    clear hw' Hk
    go_wp2_with fail
    refine Hl.out.mono ?_
    rintro e w' ⟨rfl, hw'⟩
    obtain rfl := hw'.symm
    clear hw' Hl
    rcases Hx.out with ⟨e9, hx9⟩ | ⟨hne, p, r, hp, hr, hx9⟩
    · have e0 : ((k : Int) == (l : Int)) = true := by simp [e9]
      have Hx9 := hide hx9
      clear e9 hx9 Hx
      go_wp2_with fail
      go_ret
      rw [← Hx9.out]
      exact ⟨rfl, HU.out, grown_refl _ _⟩
    · have e0 : ((k : Int) == (l : Int)) = false := by simp; omega
      obtain ⟨_, _, _, _, _, p0, _⟩ := HU.out.at6 k p hp
      obtain ⟨_, _, _, _, _, r0, _⟩ := HU.out.at6 l r hr
      have HUd := hide (fun n => HU.out.below (below_drewW w n))
      have Hgd := hide (fun n => grown_below' (grown_refl b w) (below_drewW w n))
      have Hne := hide hne
      have Hp := hide hp
      have Hr := hide hr
      by_cases hlt : r.v < p.v
      · rw [if_pos hlt] at hx9
        have Hx9 := hide hx9
        clear hx9 Hx hp hr hne
        go_wp2_with fail
        go_quiet (fail)
        go_upto_region 6 with fail
        have Hpy := Hp
        have Hpx := Hr
        have Hxy : Hid (l ≠ k) := Hne.out.symm
        clear p0 r0
        obtain ⟨_, _, _, _, _, _, _, _, _, d4, _, _⟩ := HU.out.at6 k p Hpy.out
        have hf4 := HU.out.frb (k * 6 + 4)
        go_upto_region 7 with fail
        obtain ⟨W1, hW1⟩ : ∃ W1, W1 = (w.drewN nq).setCell ⟨b, k * 6 + 4, none⟩ (.int .i64 (l : Int)) := ⟨_, rfl⟩
        have HU1 : Hid (UAt q W1 u b c (P.set k { p with like := l })) := by rw [hW1]; exact (HUd.out nq).setLike Hpy.out l
        have Hg1 : Hid (w.grownBy W1 (some b)) := by rw [hW1]; exact grown_set (Hgd.out nq) _ _
        rw [← hW1]
        clear hW1 HUd Hgd d4 cu HU hf4
        obtain ⟨ta, tl, tc, aa, ac, x0, x1, x2, x3, x4, x5, hnx⟩ := HU1.out.at6 l r (by rw [List.getElem?_set_ne Hxy.out.symm]; exact Hpx.out)
        obtain ⟨ta', tl', tc', aa', ac', y0, y1, y2, y3, y4, y5, hny⟩ := HU1.out.at6 k { p with like := l } (List.getElem?_set_self (by omega))
        have cu1 := HU1.out.list
        rw [List.length_set] at cu1
        simp only at y0 y1 y3 y4 y5 hny
        have hub1 : u < W1.heap.size := lt_of_cell cu1
        have hbb1 : b < W1.heap.size := HU1.out.ltb
        have Hnx := hide hnx
        have Hny := hide hny
        clear hnx hny
        go_cut [7, 8] (fun v7 v8 wc => ∃ n7 n8, v7 = .pointer (some ⟨n7, 0, none⟩) ∧ v8 = .pointer (some ⟨n8, 0, none⟩) ∧ Six wc n7 (.int .i64 r.v) (.int .i64 r.f) (.slice ta tl tc) (.slice aa r.args.length ac) (.int .i64 (r.like : Int)) (.int .i64 r.size) ∧ Six wc n8 (.int .i64 p.v) (.int .i64 p.f) (.slice ta' tl' tc') (.slice aa' p.args.length ac') (.int .i64 (l : Int)) (.int .i64 p.size) ∧ Hid (Below W1.heap.size W1 wc))
        case first => as_aux_lemma =>
          go_region
          all_goals (go_wp2_with fail; go_meet; refine ⟨_, _, rfl, rfl, ?_, ?_, ?_⟩)
          all_goals first | exact Below.drew (below2 _ _ _) | (refine Six.below ?_ (Below.drew (Below.refl _ _)); first | exact (Six.new _ rfl).below (below1 _ _) | exact Six.new _ (by simp))
        case rest => as_aux_lemma =>
          obtain ⟨n7, n8, rfl, rfl, h7, h8, Hbc⟩ := hcut
          obtain ⟨s0, s1, s2, s3, s4, s5⟩ := h7
          obtain ⟨t0, t1, t2, t3, t4, t5⟩ := h8
          have HUc := hide (HU1.out.below Hbc.out)
          have Hgc := hide (grown_below' Hg1.out Hbc.out)
          have hx8 := Hx9.out
          rw [joinB] at hx8
          by_cases hv : p.v = 0
          · have e1 : (p.v != 0) = false := by simpa using hv
            rw [if_pos hv] at hx8
            by_cases hf : r.f = p.f
            · have e2 : (r.f == p.f) = true := by simpa using hf
              rw [if_pos hf] at hx8
              have HE := hide (equalJoin_any q u b c (joinF N) Hih.out r.args p.args aa ac aa' ac' _ x wc HUc.out (NumsQ_below Hbc.out Hnx.out) (NumsQ_below Hbc.out Hny.out) hx8)
              clear hx8 hv hf Hx9 x0 x1 x2 x3 x4 x5 y0 y1 y2 y3 y4 y5 cu1
              go_wp2_with fail
              refine HE.out.mono ?_
              rintro e w3 ⟨rfl, hU3, hg3⟩
              have HU3 := hide hU3
              have Hg3 := hide (Hgc.out.trans hg3)
              clear hU3 hg3 HE
              go_wp2_with fail
              go_ret
              exact ⟨rfl, HU3.out, Hg3.out⟩
            · have e2 : (r.f == p.f) = false := by simpa using hf
              rw [if_neg hf] at hx8
              have Hx8 := hide (Option.some.inj hx8)
              clear hx8 hv hf Hx9 x0 x1 x2 x3 x4 x5 y0 y1 y2 y3 y4 y5 cu1
              go_wp2_with fail
              go_ret
              rw [← Hx8.out]
              exact ⟨rfl, HUc.out, Hgc.out⟩
          · have e1 : (p.v != 0) = true := by simpa using hv
            rw [if_neg hv] at hx8
            have Hx8 := hide (Option.some.inj hx8)
            clear hx8 hv Hx9 x0 x1 x2 x3 x4 x5 y0 y1 y2 y3 y4 y5 cu1
            go_wp2_with fail
            go_ret
            rw [← Hx8.out]
            exact ⟨rfl, HUc.out, Hgc.out⟩
      · rw [if_neg hlt] at hx9
        have Hx9 := hide hx9
        clear hx9 Hx hp hr hne
        go_wp2_with fail
        go_quiet (fail)
        go_upto_region 6 with fail
        have Hpy := Hr
        have Hpx := Hp
        have Hxy : Hid (k ≠ l) := Hne.out
        clear p0 r0
        obtain ⟨_, _, _, _, _, _, _, _, _, d4, _, _⟩ := HU.out.at6 l r Hpy.out
        have hf4 := HU.out.frb (l * 6 + 4)
        go_upto_region 7 with fail
        obtain ⟨W1, hW1⟩ : ∃ W1, W1 = (w.drewN nq).setCell ⟨b, l * 6 + 4, none⟩ (.int .i64 (k : Int)) := ⟨_, rfl⟩
        have HU1 : Hid (UAt q W1 u b c (P.set l { r with like := k })) := by rw [hW1]; exact (HUd.out nq).setLike Hpy.out k
        have Hg1 : Hid (w.grownBy W1 (some b)) := by rw [hW1]; exact grown_set (Hgd.out nq) _ _
        rw [← hW1]
        clear hW1 HUd Hgd d4 cu HU hf4
        obtain ⟨ta, tl, tc, aa, ac, x0, x1, x2, x3, x4, x5, hnx⟩ := HU1.out.at6 k p (by rw [List.getElem?_set_ne Hxy.out.symm]; exact Hpx.out)
        obtain ⟨ta', tl', tc', aa', ac', y0, y1, y2, y3, y4, y5, hny⟩ := HU1.out.at6 l { r with like := k } (List.getElem?_set_self (by omega))
        have cu1 := HU1.out.list
        rw [List.length_set] at cu1
        simp only at y0 y1 y3 y4 y5 hny
        have hub1 : u < W1.heap.size := lt_of_cell cu1
        have hbb1 : b < W1.heap.size := HU1.out.ltb
        have Hnx := hide hnx
        have Hny := hide hny
        clear hnx hny
        go_cut [7, 8] (fun v7 v8 wc => ∃ n7 n8, v7 = .pointer (some ⟨n7, 0, none⟩) ∧ v8 = .pointer (some ⟨n8, 0, none⟩) ∧ Six wc n7 (.int .i64 p.v) (.int .i64 p.f) (.slice ta tl tc) (.slice aa p.args.length ac) (.int .i64 (p.like : Int)) (.int .i64 p.size) ∧ Six wc n8 (.int .i64 r.v) (.int .i64 r.f) (.slice ta' tl' tc') (.slice aa' r.args.length ac') (.int .i64 (k : Int)) (.int .i64 r.size) ∧ Hid (Below W1.heap.size W1 wc))
        case first => as_aux_lemma =>
          go_region
          all_goals (go_wp2_with fail; go_meet; refine ⟨_, _, rfl, rfl, ?_, ?_, ?_⟩)
          all_goals first | exact Below.drew (below2 _ _ _) | (refine Six.below ?_ (Below.drew (Below.refl _ _)); first | exact (Six.new _ rfl).below (below1 _ _) | exact Six.new _ (by simp))
        case rest => as_aux_lemma =>
          obtain ⟨n7, n8, rfl, rfl, h7, h8, Hbc⟩ := hcut
          obtain ⟨s0, s1, s2, s3, s4, s5⟩ := h7
          obtain ⟨t0, t1, t2, t3, t4, t5⟩ := h8
          have HUc := hide (HU1.out.below Hbc.out)
          have Hgc := hide (grown_below' Hg1.out Hbc.out)
          have hx8 := Hx9.out
          rw [joinB] at hx8
          by_cases hv : r.v = 0
          · have e1 : (r.v != 0) = false := by simpa using hv
            rw [if_pos hv] at hx8
            by_cases hf : p.f = r.f
            · have e2 : (p.f == r.f) = true := by simpa using hf
              rw [if_pos hf] at hx8
              have HE := hide (equalJoin_any q u b c (joinF N) Hih.out p.args r.args aa ac aa' ac' _ x wc HUc.out (NumsQ_below Hbc.out Hnx.out) (NumsQ_below Hbc.out Hny.out) hx8)
              clear hx8 hv hf Hx9 x0 x1 x2 x3 x4 x5 y0 y1 y2 y3 y4 y5 cu1
              go_wp2_with fail
              refine HE.out.mono ?_
              rintro e w3 ⟨rfl, hU3, hg3⟩
              have HU3 := hide hU3
              have Hg3 := hide (Hgc.out.trans hg3)
              clear hU3 hg3 HE
              go_wp2_with fail
              go_ret
              exact ⟨rfl, HU3.out, Hg3.out⟩
            · have e2 : (p.f == r.f) = false := by simpa using hf
              rw [if_neg hf] at hx8
              have Hx8 := hide (Option.some.inj hx8)
              clear hx8 hv hf Hx9 x0 x1 x2 x3 x4 x5 y0 y1 y2 y3 y4 y5 cu1
              go_wp2_with fail
              go_ret
              rw [← Hx8.out]
              exact ⟨rfl, HUc.out, Hgc.out⟩
          · have e1 : (r.v != 0) = true := by simpa using hv
            rw [if_neg hv] at hx8
            have Hx8 := hide (Option.some.inj hx8)
            clear hx8 hv Hx9 x0 x1 x2 x3 x4 x5 y0 y1 y2 y3 y4 y5 cu1
            go_wp2_with fail
            go_ret
            rw [← Hx8.out]
            exact ⟨rfl, HUc.out, Hgc.out⟩
end Go.Proofs.YtbkedppkdhfpoabGreat

namespace Go.Proofs.YtbkedppkdhfpoabGreat
open Go.RowKit
def KidsB (p : Nat → Prop) (w : World) : List (Int × T) → List Value → Prop
  | [], cs => cs = []
  | x :: bs, cs => ∃ a cap rest, cs = .int .i64 x.1 :: .int .i64 x.2.v :: .int .i64 x.2.f :: .slice a x.2.args.length cap :: rest ∧ InP p w x.2.args a ∧ KidsB p w bs rest
theorem KidsB_append {p : Nat → Prop} {w : World} {bs us : List (Int × T)} : ∀ {cs ds : List Value}, KidsB p w bs cs → KidsB p w us ds → KidsB p w (bs ++ us) (cs ++ ds) := by
  induction bs with
  | nil => intro cs ds h1 h2; rw [show cs = [] from h1]; exact h2
  | cons x bs ih =>
    intro cs ds h1 h2
    obtain ⟨a, cap, rest, rfl, h0, h⟩ := h1
    exact ⟨a, cap, rest ++ ds, rfl, h0, ih h h2⟩
theorem KidsB_mono {p q : Nat → Prop} {w w' : World} {bs : List (Int × T)} (hs : ∀ k, p k → k < w.heap.size → q k ∧ w'.heap[k]? = w.heap[k]?) : ∀ {cs : List Value}, KidsB p w bs cs → KidsB q w' bs cs := by
  induction bs with
  | nil => intro cs h; exact h
  | cons x bs ih =>
    intro cs h
    obtain ⟨a, cap, rest, rfl, h0, h⟩ := h
    exact ⟨a, cap, rest, rfl, InP_mono (fun b o v hp hv => ⟨(hs b hp (lt_of_cell hv)).1, by rw [World.cell?_of_block (w := w) (a := ⟨b, o, none⟩) (hs b hp (lt_of_cell hv)).2]; exact hv⟩) _ _ _ (Nat.le_refl _) h0, ih h⟩
theorem KidsB_in {p : Nat → Prop} {w : World} {g : Nat} (hpg : p g) {bs : List (Int × T)} : ∀ {off : Nat} {cs : List Value}, KidsB p w bs cs → (∀ j u, cs[j]? = some u → w.cell? ⟨g, off + j, none⟩ = some u) → Binds p w bs (some ⟨g, off, none⟩) := by
  induction bs with
  | nil => intro off cs _ _; trivial
  | cons x bs ih =>
    intro off cs h hc
    obtain ⟨a, cap, rest, rfl, h0, h⟩ := h
    refine ⟨g, off, a, cap, rfl, hpg, hc 0 _ rfl, hc 1 _ rfl, hc 2 _ rfl, hc 3 _ rfl, h0, ih h fun j u hu => ?_⟩
    rw [show off + 4 + j = off + (j + 4) from by omega]
    exact hc (j + 4) u (by simpa using hu)
def OutsB (q : Nat → Prop) (base : Nat) (w : World) (l : Value) (bs : List (Int × T)) : Prop :=
  ∃ xs, w.ownsRow base 93 4 l bs.length xs ∧ KidsB (fun k => (q k ∨ base ≤ k) ∧ l.ownBlock ≠ some k) w bs xs
theorem OutsB_nil {q : Nat → Prop} {base : Nat} {w : World} : OutsB q base w (.slice none 0 0) [] := ⟨[], ⟨rfl, Or.inl ⟨rfl, rfl⟩⟩, rfl⟩
theorem OutsB_same {q : Nat → Prop} {base : Nat} {w w' : World} {l : Value} {bs : List (Int × T)} (h : OutsB q base w l bs) (hs : ∀ k, (q k ∨ base ≤ k) → k < w.heap.size → w'.heap[k]? = w.heap[k]?) : OutsB q base w' l bs := by
  obtain ⟨xs, h1, h2⟩ := h
  exact ⟨xs, own_same h1 (fun g hg => hs g (Or.inr (own_lt h1 g hg).1) (own_lt h1 g hg).2), KidsB_mono (fun k hk hlt => ⟨hk, hs k hk.1 hlt⟩) h2⟩
theorem OutsB_below {q : Nat → Prop} {base : Nat} {w w' : World} {l : Value} {bs : List (Int × T)} (h : OutsB q base w l bs) (hb : Below w.heap.size w w') : OutsB q base w' l bs := OutsB_same h (fun k _ hk => hb.block k hk)
theorem OutsB_step {q : Nat → Prop} {base : Nat} {w w' : World} {l : Value} {bs : List (Int × T)} {x : Int × T} {xs : List Value} {a : Option Addr} {cap g cap2 : Nat} (hk : KidsB (fun k => (q k ∨ base ≤ k) ∧ l.ownBlock ≠ some k) w bs xs)
    (hc : InP (fun k => (q k ∨ base ≤ k) ∧ l.ownBlock ≠ some k) w x.2.args a)
    (hown : w'.ownsRow base 93 4 (.slice (some ⟨g, 0, none⟩) (bs.length + 1) cap2) (bs.length + 1) (xs ++ [.int .i64 x.1, .int .i64 x.2.v, .int .i64 x.2.f, .slice a x.2.args.length cap])) (hg : w.grownBy w' l.ownBlock) (hat : l.ownBlock = some g ∨ g = w.heap.size) :
    OutsB q base w' (.slice (some ⟨g, 0, none⟩) (bs.length + 1) cap2) (bs ++ [x]) := by
  refine ⟨_, by rw [List.length_append]; exact hown, KidsB_mono (p := fun k => (q k ∨ base ≤ k) ∧ l.ownBlock ≠ some k) (w := w) (fun k hp hlt => ⟨⟨hp.1, ?_⟩, hg.block k hlt (fun e => hp.2 e.symm)⟩) (KidsB_append hk ⟨a, cap, [], rfl, hc, rfl⟩)⟩
  rcases hat with hat | hat
  · rw [show (Value.slice (some ⟨g, 0, none⟩) (bs.length + 1) cap2).ownBlock = some g from rfl, ← hat]; exact hp.2
  · show some g ≠ some k
    intro e; cases e; omega
theorem own_cellsN {w : World} {base n : Nat} {e : TypeId} {sz : Nat} {v : Value} {xs : List Value} (h : w.ownsRow base e sz v n xs) (hn : 0 < n) : ∃ g cap, v = .slice (some ⟨g, 0, none⟩) n cap ∧ base ≤ g ∧ g < w.heap.size ∧ ∀ j u, xs[j]? = some u → w.cell? ⟨g, j, none⟩ = some u := by
  rcases h.2 with ⟨_, h0⟩ | ⟨g, cap, cur, rfl, hb, hg, hc, hm, hs, ht⟩
  · omega
  refine ⟨g, cap, rfl, hb, ?_, fun j u hu => ?_⟩
  · rcases Nat.lt_or_ge g w.heap.size with h | h
    · exact h
    · rw [Array.getElem?_eq_none h] at hg; cases hg
  · have hj : j < xs.length := by
      rcases Nat.lt_or_ge j xs.length with h | h
      · exact h
      · rw [List.getElem?_eq_none h] at hu; cases hu
    have e1 : cur[j]? = some u := by
      have h2 : (cur.toList.take (n * sz))[j]? = some u := by rw [ht]; exact hu
      rw [List.getElem?_take_of_lt (by have := h.1; omega)] at h2
      simpa using h2
    simp [World.cell?, hg, e1]
theorem OutsB_end {q : Nat → Prop} {base : Nat} {w : World} {l : Value} {bs : List (Int × T)} (h : OutsB q base w l bs) : ∃ a cap, l = .slice a bs.length cap ∧ Binds (fun k => q k ∨ base ≤ k) w bs a := by
  obtain ⟨xs, h1, h2⟩ := h
  by_cases h0 : 0 < bs.length
  · obtain ⟨g, cap, rfl, hb, hlt, hcell⟩ := own_cellsN h1 h0
    exact ⟨_, cap, rfl, KidsB_in (Or.inr hb) (KidsB_mono (fun k hk _ => ⟨hk.1, rfl⟩) h2) (fun j u hu => by rw [Nat.zero_add]; exact hcell j u hu)⟩
  · obtain ⟨a, c, rfl⟩ := own_shape h1
    have : bs = [] := List.length_eq_zero_iff.1 (by omega)
    subst this
    exact ⟨a, c, rfl, trivial⟩
theorem Tryz.info93 : (Tryz.prog.info? 93).map (fun i => (i.zero, i.size, i.bytes)) = some (some (.agg #[.int .i64 0, .int .i64 0, .int .i64 0, .slice none 0 0]), 4, 48) := by kernel_rfl
theorem four_new {w : World} {v a b : Int} {s : Value} {e : TypeId} {n : Nat} (hn : n = w.heap.size) : ∀ (j : Nat) (u : Value), [Value.int .i64 v, .int .i64 a, .int .i64 b, s][j]? = some u →
    (w.alloc (.cells #[.int .i64 v, .int .i64 a, .int .i64 b, s] e)).cell? ((⟨n, 0, none⟩ : Addr).add j) = some u := by
  intro j u hu
  have e1 : (⟨n, 0, none⟩ : Addr).add j = ⟨n, j, none⟩ := by simp [Addr.add]; omega
  rw [e1, cell_new j hn]
  simpa using hu
end Go.Proofs.YtbkedppkdhfpoabGreat

namespace Go.Proofs.YtbkedppkdhfpoabGreat
open Go.RowKit
theorem NumsQ_mono {q s : Nat → Prop} {w w' : World} (hs : ∀ k, q k → k < w.heap.size → s k ∧ w'.heap[k]? = w.heap[k]?) {ns : List Nat} {a : Option Addr} (hn : NumsQ q w ns a) : NumsQ s w' ns a := by
  obtain ⟨hl, hn⟩ := hn
  rcases hn with h0 | ⟨x, off, h1, h2, h3⟩
  · exact ⟨hl, Or.inl h0⟩
  · by_cases h9 : ns = []
    · exact ⟨hl, Or.inl h9⟩
    · have hp : 0 < ns.length := List.length_pos_iff.2 h9
      have hlt := lt_of_cell (h3 0 hp)
      exact ⟨hl, Or.inr ⟨x, off, h1, (hs x h2 hlt).1, fun i hi => by rw [World.cell?_of_block (w := w) (a := ⟨x, off + i, none⟩) (hs x h2 hlt).2]; exact h3 i hi⟩⟩
def KidsU (p : Nat → Prop) (w : World) : List Pt → List Value → Prop
  | [], cs => cs = []
  | x :: P, cs => ∃ ta tl tc aa ac rest, cs = .int .i64 x.v :: .int .i64 x.f :: .slice ta tl tc :: .slice aa x.args.length ac :: .int .i64 (x.like : Int) :: .int .i64 x.size :: rest ∧ NumsQ p w x.args aa ∧ KidsU p w P rest
theorem KidsU_append {p : Nat → Prop} {w : World} {P Q : List Pt} : ∀ {cs ds : List Value}, KidsU p w P cs → KidsU p w Q ds → KidsU p w (P ++ Q) (cs ++ ds) := by
  induction P with
  | nil => intro cs ds h1 h2; rw [show cs = [] from h1]; exact h2
  | cons x P ih =>
    intro cs ds h1 h2
    obtain ⟨ta, tl, tc, aa, ac, rest, rfl, h0, h⟩ := h1
    exact ⟨ta, tl, tc, aa, ac, rest ++ ds, rfl, h0, ih h h2⟩
theorem KidsU_mono {p q : Nat → Prop} {w w' : World} {P : List Pt} (hs : ∀ k, p k → k < w.heap.size → q k ∧ w'.heap[k]? = w.heap[k]?) : ∀ {cs : List Value}, KidsU p w P cs → KidsU q w' P cs := by
  induction P with
  | nil => intro cs h; exact h
  | cons x P ih =>
    intro cs h
    obtain ⟨ta, tl, tc, aa, ac, rest, rfl, h0, h⟩ := h
    exact ⟨ta, tl, tc, aa, ac, rest, rfl, NumsQ_mono hs h0, ih h⟩
theorem KidsU_at {p : Nat → Prop} {w : World} {g : Nat} {P : List Pt} : ∀ {off : Nat} {cs : List Value}, KidsU p w P cs → (∀ j u, cs[j]? = some u → w.cell? ⟨g, off + j, none⟩ = some u) → ∀ k x, P[k]? = some x → At6 p w g (off + k * 6) x := by
  induction P with
  | nil => intro off cs _ _ k x h; simp at h
  | cons y P ih =>
    intro off cs h hc k x hk
    obtain ⟨ta, tl, tc, aa, ac, rest, rfl, h0, h⟩ := h
    cases k with
    | zero =>
      simp at hk; subst hk
      exact ⟨ta, tl, tc, aa, ac, by simpa using hc 0 _ rfl, by simpa using hc 1 _ rfl, by simpa using hc 2 _ rfl, by simpa using hc 3 _ rfl, by simpa using hc 4 _ rfl, by simpa using hc 5 _ rfl, h0⟩
    | succ k =>
      have h9 := ih (off := off + 6) h (fun j u hu => by rw [show off + 6 + j = off + (j + 6) from by omega]; exact hc (j + 6) u (by simpa using hu)) k x (by simpa using hk)
      rw [show off + (k + 1) * 6 = off + 6 + k * 6 by omega]
      exact h9
def OutsU (base : Nat) (w : World) (l : Value) (P : List Pt) : Prop :=
  ∃ xs, w.ownsRow base 326 6 l P.length xs ∧ KidsU (fun k => base ≤ k ∧ l.ownBlock ≠ some k) w P xs
theorem OutsU_end {base : Nat} {w : World} {l : Value} {P : List Pt} {u : Nat} (h : OutsU base w l P) (hu : w.cell? ⟨u, 0, none⟩ = some l) (hub : u < base) (hfu : ∀ k, w.frozen? ⟨u, k, none⟩ = false) (hp : 0 < P.length) (hl : P.length ≤ 100000) :
    ∃ b c, l = .slice (some ⟨b, 0, none⟩) P.length c ∧ base ≤ b ∧ UAt (fun k => base ≤ k ∧ k ≠ b) w u b c P := by
  obtain ⟨xs, h1, h2⟩ := h
  obtain ⟨g, cap, rfl, hb, hlt, hcell⟩ := own_cellsN h1 hp
  refine ⟨g, cap, rfl, hb, hu, fun k p hk => ?_, fun k hk => ⟨by omega, hk.2⟩, by omega, hl, fun k => ?_, hfu, hlt⟩
  · have h9 := KidsU_at (off := 0) (KidsU_mono (q := fun k => base ≤ k ∧ k ≠ g) (fun k hk _ => ⟨⟨hk.1, fun e => hk.2 (by rw [e]; rfl)⟩, rfl⟩) h2) (fun j v hv => by rw [Nat.zero_add]; exact hcell j v hv) k p hk
    rw [Nat.zero_add] at h9
    exact h9
  · rcases h1.2 with ⟨h0, _⟩ | ⟨g', cap', cur, h0, _, hh, _⟩
    · cases h0
    · cases h0
      exact frozen_of_heap hh k
def lookN : List (Int × Nat) → Int → Option Nat
  | [], _ => none
  | x :: l, v => if x.1 = v then some x.2 else lookN l v
def addT : T → List Pt × List (Int × Nat) → Nat × List Pt × List (Int × Nat)
  | ⟨v, f, args⟩, s => match lookN s.2 v with
    | some n => (n, s)
    | none =>
      let r := addL args s
      (r.2.1.length, r.2.1 ++ [⟨v, f, r.1, r.2.1.length, 0⟩], if v = 0 then r.2.2 else (v, r.2.1.length) :: r.2.2)
  where
  addL : List T → List Pt × List (Int × Nat) → List Nat × List Pt × List (Int × Nat)
    | [], s => ([], s)
    | t :: ts, s =>
      let r := addT t s
      let x := addL ts r.2
      (r.1 :: x.1, x.2)
end Go.Proofs.YtbkedppkdhfpoabGreat

namespace Go.Proofs.YtbkedppkdhfpoabGreat
open Go.RowKit
theorem Tryz.info326 : (Tryz.prog.info? 326).map (fun i => (i.zero, i.size, i.bytes)) = some (some (.agg #[.int .i64 0, .int .i64 0, .slice none 0 0, .slice none 0 0, .int .i64 0, .int .i64 0]), 6, 80) := by kernel_rfl
theorem Tryz.underlying296 : Tryz.prog.underlying 296 = some (.slice 326) := by kernel_rfl
def SrcU (w : World) (x : Value) (m : Nat) (news : List Value) : Prop :=
  (x = .slice none 0 0 ∧ m = 0 ∧ news = []) ∨ ∃ b off c, x = .slice (some ⟨b, off, none⟩) m c ∧ news.length = m * 6 ∧ (∀ j u, news[j]? = some u → w.cell? ⟨b, off + j, none⟩ = some u) ∧ ∀ u, u ∈ news → u.oneCell' = true
theorem run_append_u {w : World} {base n m : Nat} {v x : Value} {xs news : List Value} (ty : TypeId) (hown : w.ownsRow base 326 6 v n xs) (hx : SrcU w x m news) (hl : n + m ≤ 200000) (hbase : base ≤ w.heap.size) :
    ∃ v' w', (Builtin.append_ #[296, 296] ty #[v, x]).run Tryz.prog w = .ok v' w' ∧ w'.ownsRow base 326 6 v' (n + m) (xs ++ news) ∧ w.grownBy w' v.ownBlock ∧ (v'.ownBlock = v.ownBlock ∨ v'.ownBlock = some w.heap.size) := by
  obtain ⟨i, hi, hzz⟩ := Option.map_eq_some_iff.1 Tryz.info326
  simp only [Prod.mk.injEq] at hzz
  obtain ⟨hz0, hz1, hz2⟩ := hzz
  rcases hx with ⟨rfl, rfl, rfl⟩ | ⟨b, off, c, rfl, hl2, hc, h1⟩
  · rw [List.append_nil]
    exact ⟨v, w, run_append_owned_none (P := Tryz.prog) w base 296 ty 326 i 6 Tryz.underlying296 hi _ _ _ hown, hown, ⟨rfl, rfl, rfl, Nat.le_refl _, fun _ _ _ => rfl⟩, Or.inl rfl⟩
  · obtain ⟨v', w', hr, h2, h3, _, h5⟩ := run_append_own_at (P := Tryz.prog) w base 296 ty 326 i (.agg #[.int .i64 0, .int .i64 0, .slice none 0 0, .slice none 0 0, .int .i64 0, .int .i64 0]) 6 80 Tryz.underlying296 hi hz0 hz1 hz2 rfl (by decide) v n xs hown ⟨b, off, none⟩ m c news hl2 (fun j u hu => by
        have e : (⟨b, off, none⟩ : Addr).add j = ⟨b, off + j, none⟩ := by simp [Addr.add]
        rw [e]; exact hc j u hu) h1 (by unfold maxLen; omega) (by omega) hbase
    exact ⟨v', w', hr, h2, h3, h5⟩
theorem wp_append_u {w : World} {o : Oper} {a : Act} {K : Act → World → Prop} {Q : Exit → Act → World → Prop} (s x : Operand) (ho : o.op = .call { callee := .builtin .append, args := #[s, x], argTypes := #[296, 296] })
    (base n m : Nat) (v : Value) (xs news : List Value) (hs : a.eval s = v) (hown : w.ownsRow base 326 6 v n xs) (xv : Value) (hx : a.eval x = xv) (hsrc : SrcU w xv m news) (hl : n + m ≤ 200000) (hbase : base ≤ w.heap.size)
    (h : ∀ v' w', w'.ownsRow base 326 6 v' (n + m) (xs ++ news) → w.grownBy w' v.ownBlock → (v'.ownBlock = v.ownBlock ∨ v'.ownBlock = some w.heap.size) → K (a.put o.dst v') w') : o.wp Tryz.prog a w K Q := by
  obtain ⟨v', w', hr, h2, h3, h4⟩ := run_append_u o.type hown hsrc hl hbase
  unfold Oper.wp execOp
  simp only [ho, resolve, invoke, builtin, Sem.run_bind, Sem.run_pure, Result.andThen_ok, List.map_toArray, List.map_cons, List.map_nil, hs, hx, hr]
  exact h v' w' h2 h3 h4
theorem step_append_u {w : World} {ops : Array Oper} {o : Oper} {a : Act} {K : Act → World → Prop} {Q : Exit → Act → World → Prop} {E : Prop} (hgd : o.guard = none) (s x : Operand) (ho : o.op = .call { callee := .builtin .append, args := #[s, x], argTypes := #[296, 296] })
    (base n m : Nat) (v : Value) (xs news : List Value) (hs : a.eval s = v) (hown : w.ownsRow base 326 6 v n xs) (xv : Value) (hx : a.eval x = xv) (hsrc : SrcU w xv m news) (hl : n + m ≤ 200000) (hbase : base ≤ w.heap.size)
    (h : ∀ v' w', w'.ownsRow base 326 6 v' (n + m) (xs ++ news) → w.grownBy w' v.ownBlock → (v'.ownBlock = v.ownBlock ∨ v'.ownBlock = some w.heap.size) → K (a.put o.dst v') w') :
    if Region.wanted o (yielded ops a.tmps) = true then Oper.wp Tryz.prog o a w K Q else E := by
  have hw : Region.wanted o (yielded ops a.tmps) = true := by simp [Region.wanted, hgd]
  rw [if_pos hw]
  exact wp_append_u s x ho base n m v xs news hs hown xv hx hsrc hl hbase h
structure AF (u mb : Nat) (w : World) (l : Value) (w' : World) (l' : Value) : Prop where
  os : w'.os = w.os
  tape : w'.tape = w.tape
  output : w'.output = w.output
  size : w.heap.size ≤ w'.heap.size
  block : ∀ k, k < w.heap.size → k ≠ u → k ≠ mb → l.ownBlock ≠ some k → w'.heap[k]? = w.heap[k]?
  row : l'.ownBlock = l.ownBlock ∨ ∃ g, l'.ownBlock = some g ∧ w.heap.size ≤ g
theorem AF.refl (u mb : Nat) (w : World) (l : Value) : AF u mb w l w l := ⟨rfl, rfl, rfl, Nat.le_refl _, fun _ _ _ _ _ => rfl, Or.inl rfl⟩
theorem AF.trans {u mb : Nat} {w w' w'' : World} {l l' l'' : Value} (h : AF u mb w l w' l') (h' : AF u mb w' l' w'' l'') : AF u mb w l w'' l'' := by
  have hs := h.size
  refine ⟨h'.os.trans h.os, h'.tape.trans h.tape, h'.output.trans h.output, Nat.le_trans hs h'.size, fun k hk h1 h2 h3 => ?_, ?_⟩
  · rw [h'.block k (by omega) h1 h2 (fun e => ?_), h.block k hk h1 h2 h3]
    rcases h.row with h4 | ⟨g, h4, h5⟩
    · exact h3 (h4.symm.trans e)
    · rw [h4] at e; cases e; omega
  · rcases h'.row with h4 | ⟨g, h4, h5⟩
    · rcases h.row with h6 | ⟨g, h6, h7⟩
      · exact Or.inl (h4.trans h6)
      · exact Or.inr ⟨g, h4.trans h6, h7⟩
    · exact Or.inr ⟨g, h4, by omega⟩
theorem AF.of_below {u mb : Nat} {w w' : World} {l : Value} (h : Below w.heap.size w w') : AF u mb w l w' l := ⟨h.os, h.tape, h.output, h.size, fun k hk _ _ _ => h.block k hk, Or.inl rfl⟩
theorem AF.below {u mb lo : Nat} {w w' : World} {l l' : Value} (h : AF u mb w l w' l') (hlo : lo ≤ w.heap.size) (hu : lo ≤ u) (hm : lo ≤ mb) (hr : ∀ g, l.ownBlock = some g → lo ≤ g) : Below lo w w' :=
  ⟨h.os, h.tape, h.output, h.size, fun k hk => h.block k (by omega) (by omega) (by omega) (fun e => by have := hr k e; omega)⟩
end Go.Proofs.YtbkedppkdhfpoabGreat
