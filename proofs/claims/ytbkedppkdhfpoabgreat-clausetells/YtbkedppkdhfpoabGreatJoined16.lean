/- What must be in any case of clauses: the pure part. What must be in any case of clauses: it is. ClauseTells: all calls of clauses answer just what the document says. The arguments of the statements, read: signatures, terms, places. A clause and a model that a statement is handed, read. A clause that comes in has no more literals than its list has room for. -/
import Derived.ChangeOld
import Derived.Deep.Slices
import Derived.Deep.Strs
import Derived.OpenShut
import Derived.ProofKit
import Derived.Test.YtbkedppkdhfpoabGreatJoined15
namespace Go.Proofs.YtbkedppkdhfpoabGreat
open Go.RowKit Go.Maps

def kF0 : T := ⟨0, 0, []⟩
def kF1 : T := ⟨0, 1, [kF0]⟩
def kV (v : Int) : T := ⟨v, 0, []⟩
def kC0 : List Lit := [(true, kV 7, kF0), (false, kV 3, kV 3)]
def kC1 : List Lit := [(true, kV 1, kF0)]
def kC2 : List Lit := [(true, kF0, kF1)]
theorem k_check : clausesErr [0, 1] [kC0] = 0 := by rfl
theorem k_two : clausesErr [0, 1] [kC1, kC2] = 0 := by rfl
theorem k_tidy : tidyS [0, 1] kC0 = (kC1, 0) := by rfl
theorem k_always : alwaysS [0, 1] kC0 = (false, 0) := by rfl
theorem k_match : MatchP [0, 1] (true, kV 1, kF0) kF1 kF0 := by
  refine ⟨by rfl, by rfl, ?_⟩
  intro v t u _ h
  have h9 := (match_full (ar := [0, 1]) (s := kF0) (t := kF0) (by rfl)).2.1 v u h
  rcases occ_iff.1 h9.2 with e | e
  · exact absurd e.symm h9.1
  · exact e.elim
/-- A way there is. -/
theorem k_ways {gs : List Way} (h : WaysOf [0, 1] (true, kV 1, kF0) kC2 gs) : ∃ g, g ∈ gs := by
  obtain ⟨ms, rest, rfl, h1, _⟩ := h
  obtain ⟨g1, g2, rfl, _, h3⟩ := h1.1 rfl
  exact ⟨_, List.mem_append_left _ (List.mem_append_right _ (by rw [h3.1 k_match]; exact List.mem_singleton_self _))⟩
theorem k_sub {yes : Bool} {err : Int} (h : SubS [0, 1] kC1 kC2 yes err) : yes = true ∧ err = 0 := by
  obtain ⟨he, Ls, hl, hW, hy⟩ := h.2 k_two
  refine ⟨hy.2 ?_, he⟩
  have hl1 : Ls.length = 1 := hl
  obtain ⟨gs, h1, h2⟩ := hW 0 (true, kV 1, kF0) _ rfl (List.getElem?_eq_getElem (show 0 < Ls.length by omega))
  obtain ⟨g, hg⟩ := k_ways h1
  obtain ⟨x, hx, _⟩ := h2.2 g hg
  refine ⟨fun _ => x, fun i gs' hi => ?_, fun i j _ _ => agreeP_self x⟩
  have := (List.getElem?_eq_some_iff.1 hi).1
  obtain rfl : i = 0 := by omega
  rw [List.getElem?_eq_getElem (show 0 < Ls.length by omega)] at hi
  rw [← Option.some.inj hi]
  exact hx
theorem Tidy_begun (n b : Nat) (w : World) (hg : Ints w [0, 1] (some ⟨n, 0, none⟩)) (hc : LitsP w kC0 (some ⟨b, 0, none⟩)) :
    Calls Tryz.prog 12 #[.agg #[.slice (some ⟨n, 0, none⟩) 2 2], .slice (some ⟨b, 0, none⟩) 2 2] w fun e w' => GivesC (kC1, 0) w.heap.size e w' ∧ Below w.heap.size w w' := by
  have h := Tidy_any [0, 1] (some ⟨n, 0, none⟩) 2 kC0 (some ⟨b, 0, none⟩) 2 w hg (by decide) hc
  rw [k_tidy] at h
  exact h
theorem Subsumes_begun (n b2 c1 c2 : Nat) (a1 : Option Addr) (w : World) (hg : Ints w [0, 1] (some ⟨n, 0, none⟩)) (hc : LitsP w kC1 a1) (hd : LitsP w kC2 (some ⟨b2, 0, none⟩)) :
    Calls Tryz.prog 14 #[.agg #[.slice (some ⟨n, 0, none⟩) 2 2], .slice a1 1 c1, .slice (some ⟨b2, 0, none⟩) 1 c2] w fun e w' => e = .returned (.tuple #[.bool true, .int .i64 0]) ∧ Below w.heap.size w w' := by
  refine (Subsumes_any [0, 1] (some ⟨n, 0, none⟩) 2 kC1 a1 c1 kC2 (some ⟨b2, 0, none⟩) c2 w hg (by decide) (by decide) hc hd).mono ?_
  rintro e w' ⟨⟨yes, err, rfl, h⟩, hb⟩
  obtain ⟨rfl, rfl⟩ := k_sub h
  exact ⟨rfl, hb⟩
theorem Always_begun (n b : Nat) (w : World) (hg : Ints w [0, 1] (some ⟨n, 0, none⟩)) (hc : LitsP w kC0 (some ⟨b, 0, none⟩)) :
    Calls Tryz.prog 13 #[.agg #[.slice (some ⟨n, 0, none⟩) 2 2], .slice (some ⟨b, 0, none⟩) 2 2] w fun e w' => e = .returned (.tuple #[.bool false, .int .i64 0]) ∧ Below w.heap.size w w' := by
  have h := Always_any [0, 1] (some ⟨n, 0, none⟩) 2 kC0 (some ⟨b, 0, none⟩) 2 w hg (by decide) hc
  rw [k_always] at h
  exact h
end Go.Proofs.YtbkedppkdhfpoabGreat

namespace Go.Proofs.YtbkedppkdhfpoabGreat
open Go.RowKit Go.Maps

theorem k_lits0 {w : World} (e : TypeId) : LitsP (w.alloc (.cells #[.bool true, .int .i64 7, .int .i64 0, .slice none 0 0, .int .i64 0, .int .i64 0, .slice none 0 0, .bool false, .int .i64 3, .int .i64 0, .slice none 0 0, .int .i64 3, .int .i64 0, .slice none 0 0] e)) kC0 (some ⟨w.heap.size, 0, none⟩) :=
  ⟨w.heap.size, 0, none, 0, none, 0, rfl, cell_new 0 rfl, cell_new 1 rfl, cell_new 2 rfl, cell_new 3 rfl, cell_new 4 rfl, cell_new 5 rfl, cell_new 6 rfl, InP_nil, InP_nil, w.heap.size, 7, none, 0, none, 0, rfl, cell_new 7 rfl, cell_new 8 rfl, cell_new 9 rfl, cell_new 10 rfl, cell_new 11 rfl, cell_new 12 rfl, cell_new 13 rfl, InP_nil, InP_nil, trivial⟩
theorem k_lits2 {w : World} {b : Nat} (e : TypeId) (h : InL w [kF0] (some ⟨b, 0, none⟩)) : LitsP (w.alloc (.cells #[.bool true, .int .i64 0, .int .i64 0, .slice none 0 0, .int .i64 0, .int .i64 1, .slice (some ⟨b, 0, none⟩) 1 1] e)) kC2 (some ⟨w.heap.size, 0, none⟩) :=
  ⟨w.heap.size, 0, none, 0, some ⟨b, 0, none⟩, 1, rfl, cell_new 0 rfl, cell_new 1 rfl, cell_new 2 rfl, cell_new 3 rfl, cell_new 4 rfl, cell_new 5 rfl, cell_new 6 rfl, InP_nil, InP_alloc _ h, trivial⟩
theorem k_in {w : World} (e : TypeId) : InL (w.alloc (.cells #[.int .i64 0, .int .i64 0, .slice none 0 0] e)) [kF0] (some ⟨w.heap.size, 0, none⟩) :=
  show InP _ (w.alloc (.cells #[.int .i64 kF0.v, .int .i64 kF0.f, .slice none kF0.args.length 0] e)) [kF0] (some ⟨w.heap.size, 0, none⟩) from InP_new1 e rfl trivial InP_nil
attribute [local go_sem ↓] Go.wp_at_zero Go.wp_at_succ
set_option maxRecDepth 100000 in
set_option maxHeartbeats 2000000 in
theorem clauseBegun_any (w : World) : Calls Tryz.prog 19 #[] w fun e w' => e = .returned (.bool true) ∧ Below w.heap.size w w' := by
  go_enter Tryz.func19, Tryz.ntmps19
  go_wp2_with fail
  refine (va_any _ _).mono ?_
  rintro e w1 ⟨rfl, hb1⟩
  have Hb1 := hide hb1
  clear hb1
  go_wp2_with fail
  refine (fn_any _ _ _ _ _).mono ?_
  rintro e w2 ⟨rfl, hb2⟩
  have Hb2 := hide (Hb1.out.trans (hb2.mono Hb1.out.size))
  clear hb2 Hb1
  go_wp2_with fail
  refine (va_any _ _).mono ?_
  rintro e w3 ⟨rfl, hb3⟩
  have Hb3 := hide (Hb2.out.trans (hb3.mono Hb2.out.size))
  clear hb3 Hb2
  go_wp2_with fail
  refine (va_any _ _).mono ?_
  rintro e w4 ⟨rfl, hb4⟩
  have Hb4 := hide (Hb3.out.trans (hb4.mono Hb3.out.size))
  clear hb4 Hb3
  obtain ⟨W5, hW5⟩ : ∃ W5, W5 = w4.alloc (.cells #[.bool true, .int .i64 7, .int .i64 0, .slice none 0 0, .int .i64 0, .int .i64 0, .slice none 0 0, .bool false, .int .i64 3, .int .i64 0, .slice none 0 0, .int .i64 3, .int .i64 0, .slice none 0 0] 79) := ⟨_, rfl⟩
  have Hc5 : Hid (LitsP W5 kC0 (some ⟨w4.heap.size, 0, none⟩)) := by rw [hW5]; exact k_lits0 _
  have Hb5 : Hid (Below w.heap.size w W5) := by rw [hW5]; exact Hb4.out.trans ((below1 _ _).mono Hb4.out.size)
  have HW5 := hide hW5
  clear hW5
  go_upto_region 2 with fail
  rw [← HW5.out]
  go_wp2_with fail
  refine (small_any _).mono ?_
  rintro e w6 ⟨n6, rfl, hg6, hb6⟩
  have Hb6 := hide (Hb5.out.trans (hb6.mono Hb5.out.size))
  have Hc6 := hide (LitsP_below hb6 Hc5.out)
  have HT := hide (Tidy_begun n6 w4.heap.size w6 hg6 Hc6.out)
  clear hg6 hb6 Hc5 Hb5
  go_wp2_with fail
  refine HT.out.mono ?_
  rintro e w7 ⟨⟨ta, tc, rfl, hlt, _⟩, hb7⟩
  have Hb7 := hide (Hb6.out.trans (hb7.mono Hb6.out.size))
  have Hc7 := hide (LitsP_below hb7 Hc6.out)
  have Ht7 := hide hlt
  clear hb7 hlt HT Hc6 Hb6
  go_wp2_with fail
  refine (small_any _).mono ?_
  rintro e w8 ⟨n8, rfl, hg8, hb8⟩
  have Hb8 := hide (Hb7.out.trans (hb8.mono Hb7.out.size))
  have Hc8 := hide (LitsP_below hb8 Hc7.out)
  have Ht8 := hide (LitsP_below hb8 Ht7.out)
  have Hg8 := hide hg8
  clear hb8 hg8 Hb7 Hc7 Ht7
  go_wp2_with fail
  refine (fn_any _ _ _ _ _).mono ?_
  rintro e w9 ⟨rfl, hb9⟩
  have Hb9 := hide hb9
  clear hb9
  go_wp2_with fail
  refine (fn_any _ _ _ _ _).mono ?_
  rintro e w10 ⟨rfl, hb10⟩
  have Hb10 := hide (Hb9.out.trans (hb10.mono Hb9.out.size))
  clear hb10 Hb9
  obtain ⟨W10, hW10⟩ : ∃ W10, W10 = w10.alloc (.cells #[.int .i64 0, .int .i64 0, .slice none 0 0] 77) := ⟨_, rfl⟩
  have Hi10 : Hid (InL W10 [kF0] (some ⟨w10.heap.size, 0, none⟩)) := by rw [hW10]; exact k_in _
  have HB10 : Hid (Below w8.heap.size w8 W10) := by rw [hW10]; exact Hb10.out.trans ((below1 _ _).mono Hb10.out.size)
  have HW10 := hide hW10
  clear hW10 Hb10
  have HF := hide (fn_any 1 (some ⟨w10.heap.size, 0, none⟩) 1 1 W10)
  rw [HW10.out] at HF
  go_wp2_with fail
  refine HF.out.mono ?_
  rintro e w11 ⟨rfl, hb11⟩
  rw [← HW10.out] at hb11
  have HB11 := hide (HB10.out.trans (hb11.mono HB10.out.size))
  have Hi11 := hide (InP_below hb11 Hi10.out)
  clear hb11 HF Hi10 HB10
  have HSb := hide (fun (w' : World) (hb' : Below w8.heap.size w8 w') (b2 : Nat) (hd : LitsP w' kC2 (some ⟨b2, 0, none⟩)) => Subsumes_begun n8 b2 tc 1 ta w' (Ints_below hb' Hg8.out) (LitsP_below hb' Ht8.out) hd)
  obtain ⟨W12, hW12⟩ : ∃ W12, W12 = w11.alloc (.cells #[.bool true, .int .i64 0, .int .i64 0, .slice none 0 0, .int .i64 0, .int .i64 1, .slice (some ⟨w10.heap.size, 0, none⟩) 1 1] 79) := ⟨_, rfl⟩
  have HB12 : Hid (Below w8.heap.size w8 W12) := by rw [hW12]; exact HB11.out.trans ((below1 _ _).mono HB11.out.size)
  have HS12 : Hid (Calls Tryz.prog 14 #[.agg #[.slice (some ⟨n8, 0, none⟩) 2 2], .slice ta 1 tc, .slice (some ⟨w11.heap.size, 0, none⟩) 1 1] W12 fun e w' => e = .returned (.tuple #[.bool true, .int .i64 0]) ∧ Below W12.heap.size W12 w') := HSb.out W12 HB12.out w11.heap.size (by rw [hW12]; exact k_lits2 _ Hi11.out)
  rw [hW12] at HS12
  have HW12 := hide hW12
  clear hW12 HSb
  go_wp2_with fail
  refine HS12.out.mono ?_
  rintro e w13 ⟨rfl, hb13⟩
  rw [← HW12.out] at hb13
  have HB13 := hide (HB12.out.trans (hb13.mono HB12.out.size))
  have Hb13 := hide (Hb8.out.trans (HB13.out.mono Hb8.out.size))
  have Hc13 := hide (LitsP_below HB13.out Hc8.out)
  have Ht13 := hide (LitsP_below HB13.out Ht8.out)
  clear hb13 HS12 Hc8 Ht8 Hg8 HB11 Hi11 HW10 HW12 HB12 Hb8
  go_wp2_with fail
  refine (small_any _).mono ?_
  rintro e w14 ⟨n14, rfl, hg14, hb14⟩
  have Hb14 := hide (Hb13.out.trans (hb14.mono Hb13.out.size))
  have Hc14 := hide (LitsP_below hb14 Hc13.out)
  have Ht14 := hide (LitsP_below hb14 Ht13.out)
  have HAl := hide (Always_begun n14 w4.heap.size w14 hg14 Hc14.out)
  clear hg14 hb14 Hc13 Ht13 Hb13
  go_wp2_with fail
  refine HAl.out.mono ?_
  rintro e w15 ⟨rfl, hb15⟩
  have Hb15 := hide (Hb14.out.trans (hb15.mono Hb14.out.size))
  have Hc15 := hide (LitsP_below hb15 Hc14.out)
  obtain ⟨tb, toff, q1, q2, q3, q4, rfl, d0, d1, -⟩ := LitsP_below hb15 Ht14.out
  have d1' : w15.cell? ⟨tb, toff + 1, none⟩ = some (.int .i64 1) := d1
  clear hb15 d0 d1 HAl Hc14 Ht14 Hb14
  go_wp2_with fail
  refine (small_any _).mono ?_
  rintro e w16 ⟨n16, rfl, hg16, hb16⟩
  have Hb16 := hide (Hb15.out.trans (hb16.mono Hb15.out.size))
  have Hc16 := hide (LitsP_below hb16 Hc15.out)
  have HCk := hide (fun (o : Obj) (ho : ClausesP (w16.alloc o) [kC0] (some ⟨w16.heap.size, 0, none⟩)) => cCheck_any [0, 1] (some ⟨n16, 0, none⟩) 2 [kC0] (some ⟨w16.heap.size, 0, none⟩) 1 (w16.alloc o) (Ints_alloc o hg16) (by decide) (fun x hx => by rw [List.mem_singleton.1 hx]; decide) ho)
  rw [k_check] at HCk
  have HN : Hid (ClausesP (w16.alloc (.cells #[.slice (some ⟨w4.heap.size, 0, none⟩) 2 2] 26)) [kC0] (some ⟨w16.heap.size, 0, none⟩)) := ⟨w16.heap.size, 0, some ⟨w4.heap.size, 0, none⟩, 2, rfl, cell_new 0 rfl, LitsP_below (below1 _ _) Hc16.out, trivial⟩
  have HC1 := hide (HCk.out _ HN.out)
  clear hg16 hb16 d1' HCk HN Hc15 Hb15
  go_wp2_with fail
  refine HC1.out.mono ?_
  rintro e w17 ⟨rfl, hb17⟩
  have Hb17 := hide (Hb16.out.trans (((below1 w16 _).trans (hb17.mono (by simp))).mono Hb16.out.size))
  clear hb17 HC1
  go_wp2_with fail
  go_ret
  exact ⟨rfl, Hb17.out⟩
end Go.Proofs.YtbkedppkdhfpoabGreat

namespace Go.Proofs.YtbkedppkdhfpoabGreat
open Go.RowKit Go.Maps

theorem cell_one {w : World} {cs : Array Value} {e : TypeId} {j : Nat} {v : Value} {n : Nat} (hn : n = w.heap.size) (h : cs[j]? = some v) : (w.alloc (.cells cs e)).cell? ⟨n, j, none⟩ = some v := by
  rw [cell_new j hn]; exact h
theorem cell_two {w : World} {cs : Array Value} {e : TypeId} {o2 : Obj} {j : Nat} {v : Value} {n : Nat} (hn : n = w.heap.size) (h : cs[j]? = some v) : ((w.alloc (.cells cs e)).alloc o2).cell? ⟨n, j, none⟩ = some v := by
  rw [cell_alloc_lt (by rw [hn]; simp), cell_new j hn]; exact h
attribute [local go_sem ↓] Go.wp_at_zero Go.wp_at_succ
set_option maxRecDepth 100000 in
set_option maxHeartbeats 1000000 in
theorem clauseIs_any (C : List Lit) (ca : Option Addr) (cc : Nat) (E : Int) (wa : Option Addr) (n wc : Nat) (w : World) (h1 : E ≠ 0 → C = []) (h2 : E = 0 → n = C.length ∧ C.length ≤ 1000 ∧ (∀ x, x ∈ C → LitSz x) ∧ LitsP w C ca ∧ LitsP w C wa) :
    Calls Tryz.prog 21 #[.slice ca C.length cc, .int .i64 E, .int .i64 E, .slice wa n wc] w fun e w' => e = .returned (.bool true) ∧ Below w.heap.size w w' := by
  have hEE : (E == E) = true := by simp
  by_cases hE : E = 0
  · obtain ⟨rfl, q1, q2, q3, q4⟩ := h2 hE
    have HS := hide (sameClause_same C ca cc wa wc w q1 q2 q3 q4)
    subst hE
    clear h1 h2 q2 q3 q4 hEE
    go_enter Tryz.func21, Tryz.ntmps21
    go_wp2_with fail
    refine HS.out.mono ?_
    rintro e w1 ⟨rfl, hb1⟩
    have Hb1 := hide hb1
    clear hb1
    go_wp2_with fail
    go_ret
    exact ⟨rfl, Hb1.out⟩
  · obtain rfl := h1 hE
    have hE' : (E != 0) = true := by simpa using hE
    have HS := hide (sameClause_same [] ca cc none 0 w (by simp) (fun x hx => by cases hx) trivial trivial)
    clear h1 h2 hE
    go_enter Tryz.func21, Tryz.ntmps21
    go_wp2_with fail
    refine HS.out.mono ?_
    rintro e w1 ⟨rfl, hb1⟩
    have Hb1 := hide hb1
    clear hb1
    go_wp2_with fail
    go_ret
    exact ⟨rfl, Hb1.out⟩
theorem tells_one {ar : List Int} {c : List Lit} : (clausesErr ar [c] = 0 → tidyS ar c = (tidyD c, 0) ∧ alwaysS ar c = (alwaysD c, 0) ∧ c.length ≤ 8 ∧ LitsOk ar c ∧ (∀ x, x ∈ c → LitSz x) ∧ (tidyD c).length ≤ 1000 ∧ ∀ x, x ∈ tidyD c → LitSz x) ∧ (clausesErr ar [c] ≠ 0 → tidyS ar c = ([], clausesErr ar [c]) ∧ alwaysS ar c = (false, clausesErr ar [c])) := by
  constructor
  · intro h
    obtain ⟨h1, h2, h3⟩ := clauses_ok h
    have e := tidyD_eq h3
    obtain ⟨t1, _⟩ := tidy_twice h
    obtain ⟨_, u2, u3⟩ := clauses_ok t1
    refine ⟨by rw [tidyS, if_pos h, e], by rw [alwaysS, if_pos h, alwaysD_eq], h2, h3, fun x hx => ⟨by have := (h3 x hx).1.1; omega, by have := (h3 x hx).2.1; omega⟩, ?_, ?_⟩
    · rw [e]; omega
    · rw [e]; exact fun x hx => ⟨by have := (u3 x hx).1.1; omega, by have := (u3 x hx).2.1; omega⟩
  · intro h
    exact ⟨by rw [tidyS, if_neg h], by rw [alwaysS, if_neg h]⟩
set_option maxRecDepth 100000 in
set_option maxHeartbeats 8000000 in
theorem clauseTells_any (ar : List Int) (ga : Option Addr) (gcap : Nat) (c : List Lit) (ca : Option Addr) (cc : Nat) (d : List Lit) (da : Option Addr) (dc : Nat) (w : World) (hcl : c.length ≤ 9223372036854775807) (hdl : d.length ≤ 9223372036854775807) (hcc : c.length ≤ cc) (hg : Ints w ar ga) (hc : LitsP w c ca) (hd : LitsP w d da) :
    Calls Tryz.prog 3 #[.agg #[.slice ga ar.length gcap], .slice ca c.length cc, .slice da d.length dc] w fun e w' => e = .returned (.bool true) ∧ Below w.heap.size w w' := by
  obtain ⟨W1, hW1⟩ : ∃ W1, W1 = w.alloc (.cells #[.slice ga ar.length gcap] 24) := ⟨_, rfl⟩
  have hbW : Below w.heap.size w W1 := by rw [hW1]; exact below1 _ _
  have hcg : W1.cell? ⟨w.heap.size, 0, none⟩ = some (.slice ga ar.length gcap) := by rw [hW1]; exact cell_new 0 rfl
  have HL := hide (fun (w' : World) (hb : Below W1.heap.size W1 w') => cell_below hb hcg)
  have HB := hide (fun (w' : World) (hb : Below W1.heap.size W1 w') => hbW.trans (hb.mono hbW.size))
  have HW1 := hide hW1
  have HTi := hide (fun (w' : World) (hb : Below W1.heap.size W1 w') => Tidy_any ar ga gcap c ca cc w' (Ints_below (HB.out _ hb) hg) hcl (LitsP_below (HB.out _ hb) hc))
  have HAl := hide (fun (w' : World) (hb : Below W1.heap.size W1 w') => Always_any ar ga gcap c ca cc w' (Ints_below (HB.out _ hb) hg) hcl (LitsP_below (HB.out _ hb) hc))
  have HSu := hide (fun (w' : World) (hb : Below W1.heap.size W1 w') => Subsumes_any ar ga gcap c ca cc d da dc w' (Ints_below (HB.out _ hb) hg) hcl hdl (LitsP_below (HB.out _ hb) hc) (LitsP_below (HB.out _ hb) hd))
  have HK1 := hide (fun (w' : World) (n : Nat) (hb : Below W1.heap.size W1 w') (hl : w'.cell? ⟨n, 0, none⟩ = some (.slice ca c.length cc)) => (show Calls Tryz.prog 15 #[.agg #[.slice ga ar.length gcap], .slice (some ⟨n, 0, none⟩) 1 1] w' _ from refCheckClauses_any ar ga gcap [c] (some ⟨n, 0, none⟩) 1 w' (Ints_below (HB.out _ hb) hg) (by simp) (fun x hx => by rw [List.mem_singleton.1 hx]; exact hcl) ⟨n, 0, ca, cc, rfl, hl, LitsP_below (HB.out _ hb) hc, trivial⟩))
  have HK2 := hide (fun (w' : World) (n : Nat) (hb : Below W1.heap.size W1 w') (hl : w'.cell? ⟨n, 0, none⟩ = some (.slice ca c.length cc)) (hl2 : w'.cell? ⟨n, 0 + 1, none⟩ = some (.slice da d.length dc)) => (show Calls Tryz.prog 15 #[.agg #[.slice ga ar.length gcap], .slice (some ⟨n, 0, none⟩) 2 2] w' _ from refCheckClauses_any ar ga gcap [c, d] (some ⟨n, 0, none⟩) 2 w' (Ints_below (HB.out _ hb) hg) (by simp) (fun x hx => by
    rcases List.mem_cons.1 hx with rfl | hx
    · exact hcl
    · rw [List.mem_singleton.1 hx]; exact hdl) ⟨n, 0, ca, cc, rfl, hl, LitsP_below (HB.out _ hb) hc, n, 0 + 1, da, dc, rfl, hl2, LitsP_below (HB.out _ hb) hd, trivial⟩))
  have HK3 := hide (fun (w' : World) (n : Nat) (hb : Below W1.heap.size W1 w') (hl : w'.cell? ⟨n, 0, none⟩ = some (.slice ca c.length cc)) (hl2 : w'.cell? ⟨n, 0 + 1, none⟩ = some (.slice da d.length dc)) => (show Calls Tryz.prog 20 #[.agg #[.slice ga ar.length gcap], .slice (some ⟨n, 0, none⟩) 2 2] w' _ from cCheck_any ar ga gcap [c, d] (some ⟨n, 0, none⟩) 2 w' (Ints_below (HB.out _ hb) hg) (by simp) (fun x hx => by
    rcases List.mem_cons.1 hx with rfl | hx
    · exact hcl
    · rw [List.mem_singleton.1 hx]; exact hdl) ⟨n, 0, ca, cc, rfl, hl, LitsP_below (HB.out _ hb) hc, n, 0 + 1, da, dc, rfl, hl2, LitsP_below (HB.out _ hb) hd, trivial⟩))
  have HTo := hide (fun (w' : World) (hb : Below W1.heap.size W1 w') (h8 : c.length ≤ 8) (ho : LitsOk ar c) => tidyOf_any ar c ca cc w' h8 ho (LitsP_below (HB.out _ hb) hc))
  have HAo := hide (fun (w' : World) (hb : Below W1.heap.size W1 w') (h8 : c.length ≤ 8) (ho : ∀ x, x ∈ c → LitSz x) => alwaysOf_any c ca cc w' (by omega) ho (LitsP_below (HB.out _ hb) hc))
  have HCo := hide (fun (w' : World) (hb : Below W1.heap.size W1 w') (he : clausesErr ar [c, d] = 0) => coversOf_any ar d da dc (by have := ((clauses_each he).2.2 d (by simp)).1; omega) ((clauses_each he).2.2 d (by simp)).2 c ca cc [] none 0 w' hcc ((clauses_each he).2.2 c (by simp)).1 ((clauses_each he).2.2 c (by simp)).2 (by have := ((clauses_each he).2.2 c (by simp)).1; simp; omega) (fun v u h => by cases h) (Or.inl ⟨rfl, rfl⟩) trivial (LitsP_below (HB.out _ hb) hc) (LitsP_below (HB.out _ hb) hd))
  have Hone := hide (tells_one (ar := ar) (c := c))
  have Hsub := hide (fun (yes : Bool) (err : Int) (h : SubS ar c d yes err) => subs_doc h)
  obtain ⟨V, hV⟩ : ∃ V, V = clausesErr ar [c] := ⟨_, rfl⟩
  obtain ⟨E, hE⟩ : ∃ E, E = clausesErr ar [c, d] := ⟨_, rfl⟩
  obtain ⟨D, hD⟩ : ∃ D, D = tidyS ar c := ⟨_, rfl⟩
  obtain ⟨A, hA⟩ : ∃ A, A = alwaysS ar c := ⟨_, rfl⟩
  rw [← hV] at HK1 Hone
  rw [← hE] at HK2 HK3 Hsub HCo
  rw [← hD] at HTi Hone
  rw [← hA] at HAl Hone
  clear hV hE hD hA hg hc hd hcg hW1 hbW
  go_enter Tryz.func3, Tryz.ntmps3
  go_upto_region 1 with fail
  rw [← HW1.out]
  have g0 := HL.out W1 (Below.refl _ _)
  go_wp2_with fail
  refine (HTi.out W1 (Below.refl _ _)).mono ?_
  rintro e w1 ⟨⟨ta, tc, rfl, hlt, -⟩, hb1⟩
  have Hb1 := hide hb1
  have Ht1 := hide hlt
  clear hb1 hlt g0 HTi
  have g0 := HL.out w1 Hb1.out
  go_wp2_with fail
  refine (HAl.out w1 Hb1.out).mono ?_
  rintro e w2 ⟨hgy, hb2⟩
  have hgy' : e = .returned (.tuple #[.bool A.1, .int .i64 A.2]) := hgy
  subst hgy'
  have Hb2 := hide (Hb1.out.trans (hb2.mono Hb1.out.size))
  have Ht2 := hide (LitsP_below hb2 Ht1.out)
  clear hgy hb2 Hb1 Ht1 g0 HAl
  have g0 := HL.out w2 Hb2.out
  go_wp2_with fail
  refine (HSu.out w2 Hb2.out).mono ?_
  rintro e w3 ⟨⟨s, err, rfl, hss⟩, hb3⟩
  obtain ⟨herr, hse⟩ := Hsub.out s err hss
  obtain rfl := herr.symm
  have Hse := hide hse
  have Hb3 := hide (Hb2.out.trans (hb3.mono Hb2.out.size))
  have Ht3 := hide (LitsP_below hb3 Ht2.out)
  clear hb3 hss hse Hb2 Ht2 g0 HSu Hsub
  have g0 := HL.out w3 Hb3.out
  obtain ⟨D1, D2⟩ := D
  obtain ⟨A1, A2⟩ := A
  simp only at *
  have hz3 := Hb3.out.size
  have hS := hide (fun (w' : World) (hb : Below W1.heap.size W1 w') => HL.out w' hb)
  go_wp2_with fail
  go_region_held3 (fun w' => w'.cell? ⟨w.heap.size, 0, none⟩ = some (.slice ga ar.length gcap)) ((first | (refine hS.out _ ?_; (repeat' (first | with_reducible exact Hb3.out | with_reducible exact HxA.out | with_reducible exact HxB.out | (with_reducible refine Below.drew ?_) | (refine Below.alloc ?_ ?_ _; rotate_left; focus (first | omega | (simp; omega) | (simp; done))))); done) | go_keep)) ((first
    | (go_at_call 15
       with_reducible refine (HK1.out _ _ ?_ ?_).mono ?_
       · (repeat' (first | with_reducible exact Hb3.out | with_reducible exact HxA.out | with_reducible exact HxB.out | (with_reducible refine Below.drew ?_) | (refine Below.alloc ?_ ?_ _; rotate_left; focus (first | omega | (simp; omega) | (simp; done)))))
       · first | exact cell_two rfl (j := 0) rfl | exact cell_one rfl (j := 0) rfl | exact cell_below HY1.out (cell_two rfl (j := 0) rfl) | exact cell_below HY1.out (cell_one rfl (j := 0) rfl) | exact cell_below HY1.out (cell_one (by simp) (j := 0) rfl) | exact cell_one (by simp) (j := 0) rfl
       rintro e xA ⟨rfl, hbA⟩
       have HY1 := hide hbA
       have HwA : Hid (Below w3.heap.size w3 xA) := by
         refine Below.trans (b := _) ?_ (hbA.mono ?_)
         · (repeat' (first | with_reducible exact Below.refl _ _ | with_reducible exact HwA.out | (with_reducible refine Below.drew ?_) | (refine Below.alloc ?_ ?_ _; rotate_left; focus (first | omega | (simp; omega) | (simp; done)))))
         · first | omega | (simp; omega) | (simp; done)
       have HxA := hide (Hb3.out.trans (HwA.out.mono Hb3.out.size))
       have hzA := HxA.out.size
       have hzw := HwA.out.size
       clear hbA)
    | (go_at_call 15
       with_reducible refine (HK2.out _ _ ?_ ?_ ?_).mono ?_
       · (repeat' (first | with_reducible exact Hb3.out | with_reducible exact HxA.out | with_reducible exact HxB.out | (with_reducible refine Below.drew ?_) | (refine Below.alloc ?_ ?_ _; rotate_left; focus (first | omega | (simp; omega) | (simp; done)))))
       · first | exact cell_two rfl (j := 0) rfl | exact cell_one rfl (j := 0) rfl | exact cell_below HY1.out (cell_two rfl (j := 0) rfl) | exact cell_below HY1.out (cell_one rfl (j := 0) rfl) | exact cell_below HY1.out (cell_one (by simp) (j := 0) rfl) | exact cell_one (by simp) (j := 0) rfl
       · first | exact cell_two rfl (j := 1) rfl | exact cell_one rfl (j := 1) rfl | exact cell_below HY1.out (cell_two rfl (j := 1) rfl) | exact cell_below HY1.out (cell_one rfl (j := 1) rfl) | exact cell_below HY1.out (cell_one (by simp) (j := 1) rfl) | exact cell_one (by simp) (j := 1) rfl
       rintro e xB ⟨rfl, hbB⟩
       have HwB : Hid (Below w3.heap.size w3 xB) := by
         refine Below.trans (b := _) ?_ (hbB.mono ?_)
         · (repeat' (first | with_reducible exact Below.refl _ _ | with_reducible exact HwA.out | (with_reducible refine Below.drew ?_) | (refine Below.alloc ?_ ?_ _; rotate_left; focus (first | omega | (simp; omega) | (simp; done)))))
         · first | omega | (simp; omega) | (simp; done)
       have HxB := hide (Hb3.out.trans (HwB.out.mono Hb3.out.size))
       clear hbB)))
  all_goals (
    have Htb := hide (LitsP_below HwB.out Ht3.out)
    clear HY1 HwA HxA hzA hzw HwB Ht3 Hb3 hz3 g0 hS HK1 HK2
    by_cases hV0 : V = 0
    case' pos =>
      obtain ⟨q1, q2, q3, q4, q5, q6, q7⟩ := Hone.out.1 hV0
      obtain ⟨rfl, rfl⟩ := Prod.mk.inj q1
      obtain ⟨rfl, rfl⟩ := Prod.mk.inj q2
      subst hV0
      have HTo' := hide (fun w' hb => HTo.out w' hb q3 q4)
      have HAo' := hide (fun w' hb => HAo.out w' hb q3 q5)
      have HIs0 := hide (fun (w' : World) (xa : Option Addr) (xc : Nat) (h1 : LitsP w' (tidyD c) ta) (h2 : LitsP w' (tidyD c) xa) => clauseIs_any (tidyD c) ta tc 0 xa (tidyD c).length xc w' (fun h => absurd rfl h) (fun _ => ⟨rfl, q6, q7, h1, h2⟩))
      clear q1 q2 q3 q4 q5 q6 q7 Hone HTo HAo
      go_wp2_with fail
      refine (HTo'.out xB HxB.out).mono ?_
      rintro e w5 ⟨⟨oa, oc, rfl, hlo⟩, hb5⟩
      have Hx5 := hide (HxB.out.trans (hb5.mono HxB.out.size))
      have Ht5 := hide (LitsP_below hb5 Htb.out)
      have Hl5 := hide hlo
      clear hb5 hlo Htb HxB HTo'
      go_wp2_with fail
      refine (HAo'.out w5 Hx5.out).mono ?_
      rintro e wz ⟨rfl, hb6⟩
      have Hxz := hide (Hx5.out.trans (hb6.mono Hx5.out.size))
      have HIs := hide (fun (w' : World) (hb : Below wz.heap.size wz w') => HIs0.out w' oa oc (LitsP_below hb (LitsP_below hb6 Ht5.out)) (LitsP_below hb (LitsP_below hb6 Hl5.out)))
      clear hb6 Hx5 Ht5 Hl5 HAo' HIs0
    case' neg =>
      have hV1 : (V == 0) = false := by simpa using hV0
      obtain ⟨q1, q2⟩ := Hone.out.2 hV0
      obtain ⟨r1, r2⟩ := Prod.mk.inj q1
      obtain ⟨r3, r4⟩ := Prod.mk.inj q2
      obtain rfl := r1
      obtain rfl := r2.symm
      obtain rfl := r3
      obtain rfl := r4.symm
      obtain ⟨wz, rfl⟩ : ∃ wz, wz = xB := ⟨_, rfl⟩
      have Hxz := hide HxB.out
      have HIs := hide (fun (w' : World) (_ : Below wz.heap.size wz w') => clauseIs_any [] ta tc V none 0 0 w' (fun _ => rfl) (fun h => absurd h hV0))
      clear q1 q2 Hone HTo HAo hV0 Htb HxB
    all_goals (
      by_cases hE0 : E = 0
      case' pos =>
        have HCo' := hide (fun w' hb => HCo.out w' hb hE0)
        have hs1 : s = coversF d c [] := by rw [Hse.out, if_pos hE0]
        subst hs1
        subst hE0
        clear Hse HCo
        go_wp2_with fail
        refine (HCo'.out wz Hxz.out).mono ?_
        rintro e wq ⟨rfl, hbq⟩
        have Hxq := hide (Hxz.out.trans (hbq.mono Hxz.out.size))
        have Hzq := hide hbq
        clear hbq HCo' Hxz
      case' neg =>
        have hE1 : (E == 0) = false := by simpa using hE0
        have hs1 : s = false := by rw [Hse.out, if_neg hE0]
        subst hs1
        obtain ⟨wq, hwq⟩ : ∃ wq, wq = wz := ⟨_, rfl⟩
        have Hzq : Hid (Below wz.heap.size wz wq) := by rw [hwq]; exact Below.refl _ _
        have Hxq : Hid (Below W1.heap.size W1 wq) := by rw [hwq]; exact Hxz.out
        rw [← hwq]
        clear hwq Hse HCo hE0 Hxz
      all_goals (
        go_wp2_with fail
        refine (clauseBegun_any wq).mono ?_
        rintro e w8 ⟨rfl, hb8⟩
        have Hx8 := hide (Hxq.out.trans (hb8.mono Hxq.out.size))
        have Hz8 := hide (Hzq.out.trans (hb8.mono Hzq.out.size))
        have g0 := HL.out w8 Hx8.out
        have HK3' := hide (HK3.out (w8.alloc (.cells #[.slice ca c.length cc, .slice da d.length dc] 26)) w8.heap.size (Hx8.out.alloc Hx8.out.size _) (cell_one rfl rfl) (cell_one rfl rfl))
        clear hb8 HK3
        go_wp2_with fail
        refine HK3'.out.mono ?_
        rintro e w9 ⟨rfl, hb9⟩
        have Hz9 := hide (Hz8.out.trans (((below1 w8 _).trans (hb9.mono (by simp))).mono Hz8.out.size))
        have Hx9 := hide (HB.out _ (Hx8.out.trans (((below1 w8 _).trans (hb9.mono (by simp))).mono Hx8.out.size)))
        have HI9 := hide (HIs.out w9 Hz9.out)
        clear hb9 HK3' g0 HIs Hz8 Hx8 Hzq Hxq
        go_wp2_with fail
        refine HI9.out.mono ?_
        rintro e w10 ⟨rfl, hb10⟩
        have Hf := hide (Hx9.out.trans (hb10.mono Hx9.out.size))
        clear hb10
        go_wp2_with fail
        go_ret
        exact ⟨ret_bool (by simp), Hf.out⟩)))
end Go.Proofs.YtbkedppkdhfpoabGreat

namespace Go.Proofs.YtbkedppkdhfpoabGreat
open Go.RowKit Go.ChangeShapes Go.WideShapes Go.Deep

theorem InL_of_fn {w : World} : ∀ (n b off : Nat) (f : Nat → T), (∀ i, i < n → ∃ s, w.cell? ⟨b, off + i * 3, none⟩ = some (.int .i64 (f i).v) ∧ w.cell? ⟨b, off + i * 3 + 1, none⟩ = some (.int .i64 (f i).f) ∧ w.cell? ⟨b, off + i * 3 + 2, none⟩ = some s ∧ (f i).In (fun _ => True) w s) →
    InL w ((List.range n).map f) (some ⟨b, off, none⟩) := by
  intro n
  induction n with
  | zero => intro b off f _; exact InP_nil
  | succ n ih =>
    intro b off f h
    rw [List.range_succ_eq_map, List.map_cons, List.map_map]
    obtain ⟨s, c0, c1, c2, hin⟩ := h 0 (by omega)
    refine InP_cons.2 ⟨b, off, s, rfl, trivial, by simpa using c0, by simpa using c1, by simpa using c2, hin, ih b (off + 3) (f ∘ Nat.succ) (fun i hi => ?_)⟩
    obtain ⟨s, c0, c1, c2, hin⟩ := h (i + 1) (by omega)
    have e : off + (i + 1) * 3 = off + 3 + i * 3 := by omega
    rw [e] at c0 c1 c2
    exact ⟨s, c0, c1, c2, hin⟩

theorem Tryz.cells77 : Tryz.prog.cellsOf 77 = 3 := by kernel_rfl
theorem Tryz.cells3 : Tryz.prog.cellsOf 3 = 1 := by kernel_rfl
theorem Tryz.cells24 : Tryz.prog.cellsOf 24 = 1 := by kernel_rfl

section
variable {H : Type} {enc : TypeId × Value → H} {W : World} {spare : Nat → Bool} {held : Bool}

set_option maxRecDepth 100000 in
/-- A term that can be read is a tree that lies there. -/
theorem open_term : ∀ (fuel : Nat) (cs : List Value) (x : DataW H × List MemPlace), DataW.trod enc Tryz.prog W 0 spare held fuel 77 cs = some x →
    ∃ (t : T) (a : Option Addr) (cap : Nat), cs = [.int .i64 t.v, .int .i64 t.f, .slice a t.args.length cap] ∧ InL W t.args a := by
  intro fuel
  induction fuel using Nat.strongRecOn with
  | _ fuel ih =>
    intro cs x h
    obtain ⟨xs, n, hn, hx, hl, hlen, hf⟩ := DataW.trod_struct Go.Proofs.Tryz.underlying77 h
    rw [Tryz.cells77] at hl
    match cs, hl with
    | [c0, c1, c2], _ =>
      have f0 := hf 0 _ rfl
      have f1 := hf 1 _ rfl
      have f2 := hf 2 _ rfl
      match xs, hlen with
      | [y0, y1, y2], _ =>
        simp only [List.getElem?_cons_zero, List.getElem?_cons_succ] at f0 f1 f2
        have g0 : DataW.trod enc Tryz.prog W 0 spare held n 3 [c0] = some y0 := f0
        have g1 : DataW.trod enc Tryz.prog W 0 spare held n 3 [c1] = some y1 := f1
        have g2 : DataW.trod enc Tryz.prog W 0 spare held n 75 [c2] = some y2 := f2
        obtain ⟨v, e0, _, _⟩ := DataW.trod_int Go.Proofs.Tryz.underlying3 g0
        obtain ⟨f, e1, _, _⟩ := DataW.trod_int Go.Proofs.Tryz.underlying3 g1
        simp only [List.cons.injEq, and_true] at e0 e1
        subst e0 e1
        rcases DataW.trod_slice Go.Proofs.Tryz.underlying75 g2 with ⟨e2, _⟩ | ⟨a, len, cap, elems, rest, m, hm, e2, _, hb, hl', hm', hlen', hel, _, _⟩
        · simp only [List.cons.injEq, and_true] at e2
          subst e2
          exact ⟨⟨v, f, []⟩, none, 0, rfl, InP_nil⟩
        · simp only [List.cons.injEq, and_true] at e2
          subst e2
          rw [Tryz.cells77] at hel
          have hchild : ∀ i, i < len → ∃ t : T, ∃ s, W.cell? (a.add (i * 3)) = some (.int .i64 t.v) ∧ W.cell? ((a.add (i * 3)).add 1) = some (.int .i64 t.f) ∧ W.cell? ((a.add (i * 3)).add 2) = some s ∧ t.In (fun _ => True) W s := by
            intro i hi
            have h1 := hel i hi
            rw [List.getElem?_eq_getElem (by omega)] at h1
            obtain ⟨cs', h2, h3⟩ := Option.bind_eq_some_iff.1 h1
            obtain ⟨t, a', cap', hcs, hin⟩ := ih m (by omega) cs' _ h3
            obtain ⟨_, _, hcell⟩ := World.cells?_some h2
            rw [hcs] at hcell
            refine ⟨t, .slice a' t.args.length cap', ?_, hcell 1 (by omega), hcell 2 (by omega), In_iff.2 ⟨a', cap', rfl, hin⟩⟩
            have := hcell 0 (by omega)
            rwa [show (a.add (i * 3)).add 0 = a.add (i * 3) from by simp [Addr.add]] at this
          by_cases h0 : len = 0
          · subst h0
            exact ⟨⟨v, f, []⟩, some a, cap, rfl, InP_nil⟩
          · obtain ⟨b, off, spot⟩ := a
            have hspot : spot = none := by
              obtain ⟨t, s, hc, _⟩ := hchild 0 (by omega)
              simpa [Addr.add] using World.cell?_spot hc
            subst hspot
            have : Inhabited T := ⟨⟨0, 0, []⟩⟩
            obtain ⟨F, hF⟩ := choose_lt hchild
            refine ⟨⟨v, f, (List.range len).map F⟩, some ⟨b, off, none⟩, cap, by simp, InL_of_fn len b off F (fun i hi => ?_)⟩
            obtain ⟨s, c0, c1, c2, hin⟩ := hF i hi
            have e : ∀ j, (⟨b, off, none⟩ : Addr).add j = ⟨b, off + j, none⟩ := fun j => by simp [Addr.add]
            have e' : ∀ k j, (⟨b, k, none⟩ : Addr).add j = ⟨b, k + j, none⟩ := fun k j => by simp [Addr.add]
            rw [e] at c0 c1 c2
            rw [e'] at c1 c2
            exact ⟨s, c0, c1, c2, hin⟩

/-- A slice of numbers that can be read. -/
theorem open_nums {fuel : Nat} {cs : List Value} {x : DataW H × List MemPlace} (h : DataW.trod enc Tryz.prog W 0 spare held fuel 22 cs = some x) :
    ∃ (zs : List Int) (a : Option Addr) (cap : Nat), cs = [.slice a zs.length cap] ∧ Ints W zs a ∧ zs.length ≤ 9223372036854775807 ∧ zs.length ≤ cap := by
  rcases open_ints Go.Proofs.Tryz.underlying22 Go.Proofs.Tryz.underlying3 Tryz.cells3 h with ⟨hcs, _⟩ | ⟨a, l, c, zs, hcs, _, hl, hm, hz, _, hcell, _⟩
  · exact ⟨[], none, 0, hcs, Or.inl rfl, by simp, by simp⟩
  · have hle : l ≤ zs.length := by rw [hz]; split <;> omega
    have hlen : (zs.take l).length = l := List.length_take_of_le hle
    refine ⟨zs.take l, some a, c, by rw [hcs, hlen], ?_, by rw [hlen]; unfold maxLen at hm; omega, by rw [hlen]; exact hl⟩
    by_cases h0 : l = 0
    · left; rw [h0]; rfl
    · right
      obtain ⟨b, off, rfl, hc⟩ := ints_at hcell (by omega)
      refine ⟨b, off, rfl, fun i hi => ?_⟩
      rw [hlen] at hi
      rw [hc i (by omega)]
      simp [List.getD, List.getElem?_take_of_lt hi]

set_option maxRecDepth 100000 in
/-- A signature. -/
theorem open_sig {fuel : Nat} {cs : List Value} {x : DataW H × List MemPlace} (h : DataW.trod enc Tryz.prog W 0 spare held fuel 24 cs = some x) :
    ∃ (zs : List Int) (a : Option Addr) (cap : Nat), cs = [.slice a zs.length cap] ∧ Ints W zs a := by
  obtain ⟨y0, n, _, hl, h0⟩ := trod_struct1 Go.Proofs.Tryz.underlying24 h
  rw [Tryz.cells24] at hl
  match cs, hl with
  | [c0], _ =>
    have g0 : DataW.trod enc Tryz.prog W 0 spare held n 22 [c0] = some y0 := h0
    obtain ⟨zs, a, cap, hcs, hi, _⟩ := open_nums g0
    exact ⟨zs, a, cap, hcs, hi⟩

end
end Go.Proofs.YtbkedppkdhfpoabGreat

namespace Go.Proofs.YtbkedppkdhfpoabGreat
open Go.RowKit Go.ChangeShapes Go.WideShapes Go.Deep

def LitAt (w : World) (b off : Nat) (x : Lit) : Prop := ∃ a1 c1 a2 c2, w.cell? ⟨b, off, none⟩ = some (.bool x.1) ∧ w.cell? ⟨b, off + 1, none⟩ = some (.int .i64 x.2.1.v) ∧ w.cell? ⟨b, off + 2, none⟩ = some (.int .i64 x.2.1.f) ∧ w.cell? ⟨b, off + 3, none⟩ = some (.slice a1 x.2.1.args.length c1) ∧
  w.cell? ⟨b, off + 4, none⟩ = some (.int .i64 x.2.2.v) ∧ w.cell? ⟨b, off + 5, none⟩ = some (.int .i64 x.2.2.f) ∧ w.cell? ⟨b, off + 6, none⟩ = some (.slice a2 x.2.2.args.length c2) ∧ InL w x.2.1.args a1 ∧ InL w x.2.2.args a2
theorem LitsP_of_fn {w : World} : ∀ (n b off : Nat) (f : Nat → Lit), (∀ i, i < n → LitAt w b (off + i * 7) (f i)) → LitsP w ((List.range n).map f) (some ⟨b, off, none⟩) := by
  intro n
  induction n with
  | zero => intro b off f _; trivial
  | succ n ih =>
    intro b off f h
    rw [List.range_succ_eq_map, List.map_cons, List.map_map]
    obtain ⟨a1, c1, a2, c2, h0, h1, h2, h3, h4, h5, h6, i1, i2⟩ := h 0 (by omega)
    refine ⟨b, off, a1, c1, a2, c2, rfl, by simpa using h0, by simpa using h1, by simpa using h2, by simpa using h3, by simpa using h4, by simpa using h5, by simpa using h6, i1, i2, ih b (off + 7) (f ∘ Nat.succ) (fun i hi => ?_)⟩
    have h9 := h (i + 1) (by omega)
    rw [show off + (i + 1) * 7 = off + 7 + i * 7 by omega] at h9
    exact h9
theorem Tryz.cells79 : Tryz.prog.cellsOf 79 = 7 := by kernel_rfl
section
variable {H : Type} {enc : TypeId × Value → H} {W : World} {spare : Nat → Bool} {held : Bool}

set_option maxRecDepth 100000 in
/-- A literal that can be read. -/
theorem open_lit (fuel : Nat) (cs : List Value) (x : DataW H × List MemPlace) (h : DataW.trod enc Tryz.prog W 0 spare held fuel 79 cs = some x) :
    ∃ (y : Lit) (a : Option Addr) (cap : Nat) (a2 : Option Addr) (cap2 : Nat), cs = [.bool y.1, .int .i64 y.2.1.v, .int .i64 y.2.1.f, .slice a y.2.1.args.length cap, .int .i64 y.2.2.v, .int .i64 y.2.2.f, .slice a2 y.2.2.args.length cap2] ∧ InL W y.2.1.args a ∧ InL W y.2.2.args a2 := by
  obtain ⟨xs, n, hn, hx, hl, hlen, hf⟩ := DataW.trod_struct Go.Proofs.Tryz.underlying79 h
  rw [Tryz.cells79] at hl
  match cs, hl with
  | [c0, c1, c2, c3, c4, c5, c6], _ =>
    have f0 := hf 0 _ rfl
    have f1 := hf 1 _ rfl
    have f2 := hf 2 _ rfl
    match xs, hlen with
    | [y0, y1, y2], _ =>
      simp only [List.getElem?_cons_zero, List.getElem?_cons_succ] at f0 f1 f2
      have g0 : DataW.trod enc Tryz.prog W 0 spare held n 4 [c0] = some y0 := f0
      have g1 : DataW.trod enc Tryz.prog W 0 spare held n 77 [c1, c2, c3] = some y1 := f1
      have g2 : DataW.trod enc Tryz.prog W 0 spare held n 77 [c4, c5, c6] = some y2 := f2
      obtain ⟨yes, hcs, _⟩ := DataW.trod_bool Go.Proofs.Tryz.underlying4 g0
      simp only [List.cons.injEq, and_true] at hcs
      obtain rfl := hcs
      obtain ⟨s, a, cap, hcs, hin⟩ := open_term _ _ _ g1
      simp only [List.cons.injEq, and_true] at hcs
      obtain ⟨rfl, rfl, rfl⟩ := hcs
      obtain ⟨t, a2, cap2, hcs, hin2⟩ := open_term _ _ _ g2
      simp only [List.cons.injEq, and_true] at hcs
      obtain ⟨rfl, rfl, rfl⟩ := hcs
      exact ⟨(yes, s, t), a, cap, a2, cap2, rfl, hin, hin2⟩

set_option maxRecDepth 100000 in
/-- A clause. -/
theorem open_clause {fuel : Nat} {cs : List Value} {x : DataW H × List MemPlace} (h : DataW.trod enc Tryz.prog W 0 spare held fuel 26 cs = some x) :
    ∃ (c : List Lit) (a : Option Addr) (cap : Nat), cs = [.slice a c.length cap] ∧ LitsP W c a ∧ c.length ≤ 9223372036854775807 := by
  rcases DataW.trod_slice Go.Proofs.Tryz.underlying26 h with ⟨e2, _⟩ | ⟨a, len, cap, elems, rest, m, hm, e2, _, hb, hl', hm', hlen', hel, _, _⟩
  · exact ⟨[], none, 0, e2, trivial, by simp⟩
  · rw [Tryz.cells79] at hel
    have hchild : ∀ i, i < len → ∃ y : Lit, ∃ a1 cap1 a2 cap2, W.cell? (a.add (i * 7)) = some (.bool y.1) ∧ W.cell? ((a.add (i * 7)).add 1) = some (.int .i64 y.2.1.v) ∧ W.cell? ((a.add (i * 7)).add 2) = some (.int .i64 y.2.1.f) ∧ W.cell? ((a.add (i * 7)).add 3) = some (.slice a1 y.2.1.args.length cap1) ∧
        W.cell? ((a.add (i * 7)).add 4) = some (.int .i64 y.2.2.v) ∧ W.cell? ((a.add (i * 7)).add 5) = some (.int .i64 y.2.2.f) ∧ W.cell? ((a.add (i * 7)).add 6) = some (.slice a2 y.2.2.args.length cap2) ∧ InL W y.2.1.args a1 ∧ InL W y.2.2.args a2 := by
      intro i hi
      have h1 := hel i hi
      rw [List.getElem?_eq_getElem (by omega)] at h1
      obtain ⟨cs', h2, h3⟩ := Option.bind_eq_some_iff.1 h1
      obtain ⟨y, a', cap', a2', cap2', hcs, hin, hin2⟩ := open_lit m cs' _ h3
      obtain ⟨_, _, hcell⟩ := World.cells?_some h2
      rw [hcs] at hcell
      refine ⟨y, a', cap', a2', cap2', ?_, hcell 1 (by omega), hcell 2 (by omega), hcell 3 (by omega), hcell 4 (by omega), hcell 5 (by omega), hcell 6 (by omega), hin, hin2⟩
      have := hcell 0 (by omega)
      rwa [show (a.add (i * 7)).add 0 = a.add (i * 7) from by simp [Addr.add]] at this
    by_cases h0 : len = 0
    · subst h0
      exact ⟨[], some a, cap, e2, trivial, by simp⟩
    · obtain ⟨b, off, spot⟩ := a
      have hspot : spot = none := by
        obtain ⟨y, a1, cap1, a2, cap2, hc, _⟩ := hchild 0 (by omega)
        simpa [Addr.add] using World.cell?_spot hc
      subst hspot
      have : Inhabited Lit := ⟨(false, ⟨0, 0, []⟩, ⟨0, 0, []⟩)⟩
      obtain ⟨F, hF⟩ := choose_lt hchild
      refine ⟨(List.range len).map F, some ⟨b, off, none⟩, cap, by simpa using e2, LitsP_of_fn len b off F (fun i hi => ?_), by simp; unfold maxLen at hm'; omega⟩
      obtain ⟨a1, cap1, a2, cap2, c0, c1, c2, c3, c4, c5, c6, hin, hin2⟩ := hF i hi
      have e : ∀ j, (⟨b, off, none⟩ : Addr).add j = ⟨b, off + j, none⟩ := fun j => by simp [Addr.add]
      have e2 : ∀ i j, (⟨b, i, none⟩ : Addr).add j = ⟨b, i + j, none⟩ := fun i j => by simp [Addr.add]
      rw [e] at c0 c1 c2 c3 c4 c5 c6
      rw [e2] at c1 c2 c3 c4 c5 c6
      exact ⟨a1, cap1, a2, cap2, c0, c1, c2, c3, c4, c5, c6, hin, hin2⟩

end
end Go.Proofs.YtbkedppkdhfpoabGreat

namespace Go.Proofs.YtbkedppkdhfpoabGreat
open Go.ChangeShapes Go.WideShapes Go.ChangeAt Go.RowKit

theorem open_clause_cap {H : Type} {enc : TypeId × Value → H} {W : World} {spare : Nat → Bool} {held : Bool} {fuel : Nat} {cs : List Value} {x : DataW H × List MemPlace} (h : DataW.trod enc Tryz.prog W 0 spare held fuel 26 cs = some x) {a : Option Addr} {n cap : Nat} (hcs : cs = [.slice a n cap]) : n ≤ cap := by
  rcases DataW.trod_slice Go.Proofs.Tryz.underlying26 h with ⟨e2, _⟩ | ⟨a', len, cap', elems, rest, m, hm, e2, _, hb, hl', hm', hlen', hel, _, _⟩
  · rw [hcs] at e2
    simp only [List.cons.injEq, Value.slice.injEq, and_true] at e2
    omega
  · rw [hcs] at e2
    simp only [List.cons.injEq, Value.slice.injEq, and_true] at e2
    obtain ⟨_, rfl, rfl⟩ := e2
    exact hl'
end Go.Proofs.YtbkedppkdhfpoabGreat
