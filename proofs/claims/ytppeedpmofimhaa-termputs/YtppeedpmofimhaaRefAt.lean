/- The document's own At, and the comparison beside an error. -/
import Derived.Test.YtppeedpmofimhaaRefTerms
import Derived.Test.YtppeedpmofimhaaSame
namespace Go.Proofs.Ytppeedpmofimhaa
open Go.RowKit

theorem below_drewN {B : Nat} {a w : World} (h : Below B a w) (n : Nat) : Below B a (w.drewN n) := ⟨h.os, h.tape, h.output, h.size, h.block⟩
theorem below_undrewN {w w2 : World} {n : Nat} (h : Below (w.drewN n).heap.size (w.drewN n) w2) : Below w.heap.size w w2 := ⟨h.os, h.tape, h.output, h.size, h.block⟩

theorem Ints_tail {w : World} {i : Int} {p : List Int} {b off : Nat} (h : Ints w (i :: p) (some ⟨b, off, none⟩)) : Ints w p (some ⟨b, off + 1, none⟩) := by
  by_cases h0 : p = []
  · exact Or.inl h0
  · rcases h with h | ⟨b', off', he, h⟩
    · cases h
    · simp only [Option.some.injEq, Addr.mk.injEq] at he
      obtain ⟨rfl, rfl, _⟩ := he
      exact Or.inr ⟨b, off + 1, rfl, fun j hj => by
        have := h (j + 1) (by simp; omega)
        rw [show off + (j + 1) = off + 1 + j from by omega] at this
        simpa using this⟩

/-- The place behind its first number. -/
theorem tail_any {w : World} {i : Int} {p : List Int} {b off cap : Nat} (h : Ints w (i :: p) (some ⟨b, off, none⟩)) (hc : p.length + 1 ≤ cap) :
    ∃ pa, (∀ w' : World, (Instr.slice 22 (.slice (some ⟨b, off, none⟩) (p.length + 1) cap) (some (.int .i64 1)) none none).run Try.prog w' = .ok (.slice pa p.length (cap - 1)) w') ∧ Ints w p pa := by
  have ht : Try.prog.underlying 22 = some (.slice (Try.prog.elem 22)) := by kernel_rfl
  have hsz : ∀ w : World, (sizeOf (Try.prog.elem 22)).run Try.prog w = .ok 1 w := fun w => by kernel_rfl
  have hrun := fun w' : World => run_slice_l (P := Try.prog) w' 22 (some ⟨b, off, none⟩) (p.length + 1) cap ht .i64 1 (by omega) (by omega)
  by_cases h1 : cap = 1
  · subst h1
    have hp : p = [] := List.length_eq_zero_iff.1 (by omega)
    subst hp
    refine ⟨some ⟨b, off, none⟩, fun w' => ?_, Or.inl rfl⟩
    rw [hrun w', hsz]
    simp [sliced]
  · refine ⟨some ⟨b, off + 1, none⟩, fun w' => ?_, Ints_tail h⟩
    rw [hrun w', hsz]
    simp [sliced, h1, Addr.add]

theorem found_form {t : T} {place : List Int} {w : World} {e : Ending} (h : Found t place w e) : ∃ (u : T) (a : Option Addr) (cap : Nat) (ok : Bool), e = .returned (.tuple #[.agg #[.int .i64 u.v, .int .i64 u.f, .slice a u.args.length cap], .bool ok]) ∧
    ((ok = true ∧ atT t place = some u ∧ InL w u.args a) ∨ (ok = false ∧ atT t place = none ∧ u = ⟨0, 0, []⟩ ∧ a = none ∧ cap = 0)) := by
  rcases h with ⟨u, a, cap, h1, rfl, h2⟩ | ⟨h1, rfl⟩
  · exact ⟨u, a, cap, true, rfl, Or.inl ⟨rfl, h1, h2⟩⟩
  · exact ⟨⟨0, 0, []⟩, none, 0, false, rfl, Or.inr ⟨rfl, h1, rfl, rfl, rfl⟩⟩
theorem found_back {t x u : T} {place p : List Int} {w : World} {a : Option Addr} {cap : Nat} {ok : Bool} (he : atT t place = atT x p)
    (h : (ok = true ∧ atT x p = some u ∧ InL w u.args a) ∨ (ok = false ∧ atT x p = none ∧ u = ⟨0, 0, []⟩ ∧ a = none ∧ cap = 0)) : Found t place w (.returned (.tuple #[.agg #[.int .i64 u.v, .int .i64 u.f, .slice a u.args.length cap], .bool ok])) := by
  rcases h with ⟨rfl, h1, h2⟩ | ⟨rfl, h1, rfl, rfl, rfl⟩
  · exact Or.inl ⟨u, a, cap, he.trans h1, rfl, h2⟩
  · exact Or.inr ⟨he.trans h1, rfl⟩

attribute [local go_sem ↓] Go.wp_at_zero Go.wp_at_succ
set_option maxRecDepth 100000 in
set_option maxHeartbeats 1000000 in
theorem atOf_any (w0 : World) (place : List Int) : ∀ (t : T) (a : Option Addr) (cap : Nat) (pa : Option Addr) (pcap : Nat) (w : World), Below w0.heap.size w0 w → Ints w place pa → place.length ≤ pcap → t.sz ≤ 1000 → InL w0 t.args a →
    Calls Try.prog 25 #[.agg #[.int .i64 t.v, .int .i64 t.f, .slice a t.args.length cap], .slice pa place.length pcap] w fun e w' => Found t place w0 e ∧ Below w.heap.size w w' := by
  induction place with
  | nil =>
    intro t a cap pa pcap w h0w hp hpc ht hin
    go_enter Try.func25, Try.ntmps25
    go_wp2_with fail
    exact bodyPost_ret (v := .tuple #[.agg #[.int .i64 t.v, .int .i64 t.f, .slice a t.args.length cap], .bool true]) (by simp [results, Try.results25, go_sem]) rfl ⟨Or.inl ⟨t, a, cap, rfl, rfl, hin⟩, below2 _ _ _⟩
  | cons i p ih =>
    intro t a cap pa pcap w h0w hp hpc ht hin
    have Hih := hide ih
    clear ih
    obtain ⟨b, off, rfl, hc⟩ := Ints_some hp (by simp)
    have hci : w.cell? ⟨b, off, none⟩ = some (.int .i64 i) := by have := hc 0 (by simp); simpa using this
    have hbi := lt_of_cell hci
    have hne : (((i :: p).length : Int) == 0) = false := by rw [beq_eq_false_iff_ne]; simp; omega
    have hlen : (0 : Int) < ((i :: p).length : Int) := by rw [List.length_cons]; omega
    have hp1 : (1 : Int) ≤ ((i :: p).length : Int) := by rw [List.length_cons]; omega
    have htl : t.args.length ≤ 1000 := by have := T.length_le t.args; have := T.sz_eq t; omega
    have Hp := hide hp
    have hatd : atT t (i :: p) = if 0 ≤ i ∧ i < t.args.length then (t.args[i.toNat]?).bind (fun u => atT u p) else none := rfl
    have Hatd := hide hatd
    have hl1 : (i :: p).length = p.length + 1 := by simp
    clear hc hp hatd
    rw [hl1] at hpc hne hlen hp1 ⊢
    by_cases h : 0 ≤ i ∧ i ≤ (t.args.length : Int) - 1
    · obtain ⟨n, hn⟩ := Int.eq_ofNat_of_zero_le h.1
      subst hn
      have hn2 : n < t.args.length := by omega
      obtain ⟨b1, off1, rfl⟩ := InP_some hin (by omega)
      obtain ⟨x, hx⟩ : ∃ x, t.args[n]? = some x := ⟨t.args[n], List.getElem?_eq_getElem hn2⟩
      obtain ⟨a3, cap3, _, k0, k1, k2, hinx⟩ := InP_at hin hx
      rw [← h0w.cell (p := ⟨b1, off1 + n * 3, none⟩) (lt_of_cell k0)] at k0
      rw [← h0w.cell (p := ⟨b1, off1 + n * 3 + 1, none⟩) (lt_of_cell k1)] at k1
      rw [← h0w.cell (p := ⟨b1, off1 + n * 3 + 2, none⟩) (lt_of_cell k2)] at k2
      have H0w := hide h0w
      clear h0w
      have hb1 := lt_of_cell k0
      have hxsz : x.sz ≤ 1000 := by have := T.szL_mem (List.mem_of_getElem? hx); have := T.sz_eq t; omega
      have hyes : atT t ((n : Int) :: p) = atT x p := by
        rw [Hatd.out, if_pos (by omega)]
        show (t.args[((n : Int)).toNat]?).bind _ = _
        rw [Int.toNat_natCast, hx]; rfl
      have Hyes := hide hyes
      have H := hide h
      have hnI : (n : Int) < t.args.length := by omega
      have hn0 : (0 : Int) ≤ n := by omega
      have hpcI : (1 : Int) ≤ pcap := by omega
      have hlI : ((p.length + 1 : Nat) : Int) ≤ pcap := by omega
      have Hx3 := hide hinx
      have hS := hide (fun (o1 o2 : Obj) (w' : World) (ho : o1 = .cells #[.int .i64 t.v, .int .i64 t.f, .slice (some ⟨b1, off1, none⟩) t.args.length cap] 27) (hbb : Below (w.heap.size + 1) ((w.alloc o1).alloc o2) w') => (show w'.cell? ⟨w.heap.size, 2, none⟩ = some (.slice (some ⟨b1, off1, none⟩) t.args.length cap) ∧ w'.cell? ⟨b, off, none⟩ = some (.int .i64 (n : Int)) ∧ w'.cell? ⟨b1, off1 + n * 3, none⟩ = some (.int .i64 x.v) ∧ w'.cell? ⟨b1, off1 + n * 3 + 1, none⟩ = some (.int .i64 x.f) ∧ w'.cell? ⟨b1, off1 + n * 3 + 2, none⟩ = some (.slice a3 x.args.length cap3) from
        ⟨by subst ho; exact ((Three.new 27 rfl).same ((hbb.block _ (by omega)).trans (Below.heap_alloc _ _ _ (by simp)))).c2,
         by rw [hbb.cell (p := ⟨b, off, none⟩) (show b < _ by omega), cell_alloc_lt (by simp; omega), cell_alloc_lt hbi]; exact hci,
         by rw [hbb.cell (p := ⟨b1, off1 + n * 3, none⟩) (show b1 < _ by omega), cell_alloc_lt (by simp; omega), cell_alloc_lt hb1]; exact k0,
         by rw [hbb.cell (p := ⟨b1, off1 + n * 3 + 1, none⟩) (show b1 < _ by omega), cell_alloc_lt (by simp; omega), cell_alloc_lt hb1]; exact k1,
         by rw [hbb.cell (p := ⟨b1, off1 + n * 3 + 2, none⟩) (show b1 < _ by omega), cell_alloc_lt (by simp; omega), cell_alloc_lt hb1]; exact k2⟩))
      clear hyes hx h hinx
      obtain ⟨pa', hsl, hpt⟩ := tail_any Hp.out hpc
      have Hpt := hide hpt
      clear hpt
      go_enter Try.func25, Try.ntmps25
      go_wp2_with fail
      go_quiet ((go_at_call 63; exact Calls.quiet_of_same (between_yes _ _ _ _ H.out.1 H.out.2)))
      go_wp2_with fail
      go_region_held3 (fun w' => w'.cell? ⟨w.heap.size, 2, none⟩ = some (.slice (some ⟨b1, off1, none⟩) t.args.length cap) ∧ w'.cell? ⟨b, off, none⟩ = some (.int .i64 (n : Int)) ∧ w'.cell? ⟨b1, off1 + n * 3, none⟩ = some (.int .i64 x.v) ∧ w'.cell? ⟨b1, off1 + n * 3 + 1, none⟩ = some (.int .i64 x.f) ∧ w'.cell? ⟨b1, off1 + n * 3 + 2, none⟩ = some (.slice a3 x.args.length cap3)) ((first | exact hS.out _ _ _ rfl (below_set3 Hbb.out (by omega) _ _ _) | exact hS.out _ _ _ rfl Hbb.out | go_keep)) ((
        go_at_call 25
        refine (Hih.out x a3 cap3 _ _ _ ?_ ?_ ?_ ?_ ?_).mono ?_
        · exact H0w.out.trans ((below_drewN (below2 _ _ _) _).mono H0w.out.size)
        · exact Ints_below (w := w) (below_drewN (below2 _ _ _) _) Hpt.out
        · omega
        · exact hxsz
        · exact Hx3.out
        rintro e w3 ⟨hfound, hb3⟩
        obtain ⟨u, a5, cap5, ok, rfl, hok⟩ := found_form hfound
        have Hok := hide hok
        have hb4 := below_undrewN hb3
        have hz4 := hb4.size
        have Hbb : Hid (Below (w.heap.size + 1) ((w.alloc (.cells #[.int .i64 t.v, .int .i64 t.f, .slice (some ⟨b1, off1, none⟩) t.args.length cap] 27)).alloc (.cells #[.int .i64 0, .int .i64 0, .slice none 0 0] 27)) w3) := hb4.mono (by simp)
        have H3r := hide ((Three.new (w := w.alloc (.cells #[.int .i64 t.v, .int .i64 t.f, .slice (some ⟨b1, off1, none⟩) t.args.length cap] 27)) (v0 := .int .i64 0) (v1 := .int .i64 0) (v2 := .slice none 0 0) (n := w.heap.size + 1) 27 (by simp)).below hb4)
        obtain ⟨r0, r1, r2, f0, f1, f2⟩ := H3r.out
        have Hb0 := hide ((below2 w (.cells #[.int .i64 t.v, .int .i64 t.f, .slice (some ⟨b1, off1, none⟩) t.args.length cap] 27) (.cells #[.int .i64 0, .int .i64 0, .slice none 0 0] 27)).trans (hb4.mono (by simp; omega)))
        clear hfound hok hb3 hb4))
      go_wp2_with fail
      exact bodyPost_ret (v := .tuple #[.agg #[.int .i64 u.v, .int .i64 u.f, .slice a5 u.args.length cap5], .bool ok]) (by simp [results, Try.results25, go_sem, r0, r1, r2]) rfl ⟨found_back Hyes.out Hok.out, below_set3 Hb0.out (by omega) _ _ _⟩
    · have hno : atT t (i :: p) = none := by rw [Hatd.out, if_neg (by omega)]
      have Hno := hide hno
      have H := hide h
      clear h hno
      go_enter Try.func25, Try.ntmps25
      go_wp2_with fail
      go_quiet ((go_at_call 63; exact Calls.quiet_of_same (between_no _ _ _ _ H.out)))
      go_wp2_with fail
      exact bodyPost_ret (v := .tuple #[.agg #[.int .i64 0, .int .i64 0, .slice none 0 0], .bool false]) (by simp [results, Try.results25, go_sem]) rfl ⟨Or.inr ⟨Hno.out, rfl⟩, below_set3 (below_drewN (below2 _ _ _) _) (by omega) _ _ _⟩

end Go.Proofs.Ytppeedpmofimhaa
