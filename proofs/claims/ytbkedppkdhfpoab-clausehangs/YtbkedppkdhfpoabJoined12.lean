/- The document's SameClause, at one clause that lies at two places. ClauseHangs: a clause subsumes itself, and what one subsumes that another one does it subsumes; tidied twice is tidied once. The arguments of the statements, read: signatures, terms, places. A clause and a model that a statement is handed, read. -/
import Derived.BigQuiet
import Derived.ChangeOld
import Derived.Deep.RegionHeld3
import Derived.Deep.Slices
import Derived.Deep.Strs
import Derived.OpenShut
import Derived.ProofKit
import Derived.Test.YtbkedppkdhfpoabJoined11
namespace Go.Proofs.Ytbkedppkdhfpoab
open Go.RowKit

/-- The cells of a literal, as its sides are read. -/
def At7 (w : World) (b o : Nat) (x : Lit) (a1 : Option Addr) (c1 : Nat) (a2 : Option Addr) (c2 : Nat) : Prop :=
  w.cell? ⟨b, o, none⟩ = some (.bool x.1) ∧ w.cell? ⟨b, o + 1, none⟩ = some (.int .i64 x.2.1.v) ∧ w.cell? ⟨b, o + 1 + 1, none⟩ = some (.int .i64 x.2.1.f) ∧ w.cell? ⟨b, o + 1 + 2, none⟩ = some (.slice a1 x.2.1.args.length c1) ∧ w.cell? ⟨b, o + 4, none⟩ = some (.int .i64 x.2.2.v) ∧ w.cell? ⟨b, o + 4 + 1, none⟩ = some (.int .i64 x.2.2.f) ∧ w.cell? ⟨b, o + 4 + 2, none⟩ = some (.slice a2 x.2.2.args.length c2)
theorem At7.below {w w' : World} {b o : Nat} {x : Lit} {a1 : Option Addr} {c1 : Nat} {a2 : Option Addr} {c2 : Nat} (h : At7 w b o x a1 c1 a2 c2) (hb : Below w.heap.size w w') : At7 w' b o x a1 c1 a2 c2 := by
  obtain ⟨h0, h1, h2, h3, h4, h5, h6⟩ := h
  exact ⟨cellB hb h0, cellB hb h1, cellB hb h2, cellB hb h3, cellB hb h4, cellB hb h5, cellB hb h6⟩
theorem LitsP_at7 {w : World} {c : List Lit} {b off k : Nat} {x : Lit} (h : LitsP w c (some ⟨b, off, none⟩)) (hx : c[k]? = some x) : ∃ a1 c1 a2 c2, At7 w b (off + k * 7) x a1 c1 a2 c2 ∧ InL w x.2.1.args a1 ∧ InL w x.2.2.args a2 := by
  obtain ⟨a1, c1, a2, c2, k0, k1, k2, k3, k4, k5, k6, hi1, hi2⟩ := LitsP_at h hx
  exact ⟨a1, c1, a2, c2, ⟨k0, k1, k2, k3, k4, k5, k6⟩, hi1, hi2⟩
attribute [local go_sem ↓] Go.wp_at_zero Go.wp_at_succ
set_option maxRecDepth 100000 in
set_option maxHeartbeats 2000000 in
theorem sameClause_same (c : List Lit) (ca : Option Addr) (cc : Nat) (da : Option Addr) (dc : Nat) (w : World) (hl : c.length ≤ 1000) (hsz : ∀ x, x ∈ c → LitSz x) (h1 : LitsP w c ca) (h2 : LitsP w c da) :
    Calls Try.prog 15 #[.slice ca c.length cc, .slice da c.length dc] w fun e w' => e = .returned (.bool true) ∧ Below w.heap.size w w' := by
  have H1 := hide h1
  have H2 := hide h2
  have Hsz := hide hsz
  clear h1 h2 hsz
  go_enter Try.func15, Try.ntmps15
  go_wp2_with fail
  go_loopw [5] (fun i wr => ∃ k : Nat, k ≤ c.length ∧ i = .int .i64 k ∧ Hid (Below w.heap.size w wr)) (fun i _ => c.length - (intOf i).toNat)
  case atStart => exact ⟨0, Nat.zero_le _, rfl, Below.refl _ _⟩
  case round =>
    obtain ⟨k, hk, rfl, Hb⟩ := hrel
    by_cases hlt : k < c.length
    · obtain ⟨b, off, rfl⟩ := LitsP_some H1.out (by omega)
      obtain ⟨b', off', rfl⟩ := LitsP_some H2.out (by omega)
      obtain ⟨x, hx⟩ : ∃ x, c[k]? = some x := ⟨c[k], List.getElem?_eq_getElem hlt⟩
      obtain ⟨a1, c1, a2, c2, hA, i1, i2⟩ := LitsP_at7 (LitsP_below Hb.out H1.out) hx
      obtain ⟨b1, d1, b2, d2, hB, j1, j2⟩ := LitsP_at7 (LitsP_below Hb.out H2.out) hx
      have hz := Hsz.out x (List.mem_of_getElem? hx)
      have HSa := hide (fun (w' : World) (hb : Below wr.heap.size wr w') => sameTerm_any 1001 x.2.1 x.2.1 a1 c1 b1 d1 w' (by have := hz.1; omega) hz.1 (InP_below hb i1) (InP_below hb j1))
      have HSb := hide (fun (w' : World) (hb : Below wr.heap.size wr w') => sameTerm_any 1001 x.2.2 x.2.2 a2 c2 b2 d2 w' (by have := hz.2; omega) hz.2 (InP_below hb i2) (InP_below hb j2))
      rw [sameT_iff.2 (rfl : x.2.1 = x.2.1)] at HSa
      rw [sameT_iff.2 (rfl : x.2.2 = x.2.2)] at HSb
      have HA := hide hA
      have HB := hide hB
      have hS := hide (fun (w' : World) (hb : Below wr.heap.size wr w') => (show ((w'.cell? ⟨b, off + k * 7, none⟩ = some (.bool x.1) ∧ w'.cell? ⟨b, off + k * 7 + 1, none⟩ = some (.int .i64 x.2.1.v) ∧ w'.cell? ⟨b, off + k * 7 + 1 + 1, none⟩ = some (.int .i64 x.2.1.f) ∧ w'.cell? ⟨b, off + k * 7 + 1 + 2, none⟩ = some (.slice a1 x.2.1.args.length c1) ∧ w'.cell? ⟨b, off + k * 7 + 4, none⟩ = some (.int .i64 x.2.2.v) ∧ w'.cell? ⟨b, off + k * 7 + 4 + 1, none⟩ = some (.int .i64 x.2.2.f) ∧ w'.cell? ⟨b, off + k * 7 + 4 + 2, none⟩ = some (.slice a2 x.2.2.args.length c2)) ∧ w'.cell? ⟨b', off' + k * 7, none⟩ = some (.bool x.1) ∧ w'.cell? ⟨b', off' + k * 7 + 1, none⟩ = some (.int .i64 x.2.1.v) ∧ w'.cell? ⟨b', off' + k * 7 + 1 + 1, none⟩ = some (.int .i64 x.2.1.f) ∧ w'.cell? ⟨b', off' + k * 7 + 1 + 2, none⟩ = some (.slice b1 x.2.1.args.length d1) ∧ w'.cell? ⟨b', off' + k * 7 + 4, none⟩ = some (.int .i64 x.2.2.v) ∧ w'.cell? ⟨b', off' + k * 7 + 4 + 1, none⟩ = some (.int .i64 x.2.2.f) ∧ w'.cell? ⟨b', off' + k * 7 + 4 + 2, none⟩ = some (.slice b2 x.2.2.args.length d2)) from ⟨hA.below hb, hB.below hb⟩))
      obtain ⟨⟨p0, p1, p2, p3, p4, p5, p6⟩, q0, q1, q2, q3, q4, q5, q6⟩ := hS.out wr (Below.refl _ _)
      have hyy : (x.1 != x.1) = false := by simp
      have hkI : (k : Int) < c.length := by omega
      have hk0 : (0 : Int) ≤ k := by omega
      clear hx hA hB i1 i2 j1 j2 hz HA HB
      go_wp2_with fail
      go_region_held3 (fun w' => (w'.cell? ⟨b, off + k * 7, none⟩ = some (.bool x.1) ∧ w'.cell? ⟨b, off + k * 7 + 1, none⟩ = some (.int .i64 x.2.1.v) ∧ w'.cell? ⟨b, off + k * 7 + 1 + 1, none⟩ = some (.int .i64 x.2.1.f) ∧ w'.cell? ⟨b, off + k * 7 + 1 + 2, none⟩ = some (.slice a1 x.2.1.args.length c1) ∧ w'.cell? ⟨b, off + k * 7 + 4, none⟩ = some (.int .i64 x.2.2.v) ∧ w'.cell? ⟨b, off + k * 7 + 4 + 1, none⟩ = some (.int .i64 x.2.2.f) ∧ w'.cell? ⟨b, off + k * 7 + 4 + 2, none⟩ = some (.slice a2 x.2.2.args.length c2)) ∧ w'.cell? ⟨b', off' + k * 7, none⟩ = some (.bool x.1) ∧ w'.cell? ⟨b', off' + k * 7 + 1, none⟩ = some (.int .i64 x.2.1.v) ∧ w'.cell? ⟨b', off' + k * 7 + 1 + 1, none⟩ = some (.int .i64 x.2.1.f) ∧ w'.cell? ⟨b', off' + k * 7 + 1 + 2, none⟩ = some (.slice b1 x.2.1.args.length d1) ∧ w'.cell? ⟨b', off' + k * 7 + 4, none⟩ = some (.int .i64 x.2.2.v) ∧ w'.cell? ⟨b', off' + k * 7 + 4 + 1, none⟩ = some (.int .i64 x.2.2.f) ∧ w'.cell? ⟨b', off' + k * 7 + 4 + 2, none⟩ = some (.slice b2 x.2.2.args.length d2)) ((first | (refine hS.out _ ?_; (repeat' (first | with_reducible exact Hid.out ‹Hid (Below _ _ _)› | with_reducible exact Below.refl _ _ | (with_reducible refine Below.drew ?_))); done) | go_keep)) ((first
        | (go_at_call 10
           with_reducible refine (HSa.out _ ?_).mono ?_
           · (repeat' (first | with_reducible exact Hid.out ‹Hid (Below _ _ _)› | with_reducible exact Below.refl _ _ | (with_reducible refine Below.drew ?_)))
           rintro e xA ⟨rfl, hbA⟩
           have HxA : Hid (Below wr.heap.size wr xA) := by
             refine Below.trans (b := _) ?_ (hbA.mono ?_)
             · (repeat' (first | with_reducible exact Hid.out ‹Hid (Below _ _ _)› | with_reducible exact Below.refl _ _ | (with_reducible refine Below.drew ?_)))
             · first | omega | (simp; omega) | (simp; done)
           clear hbA)
        | (go_at_call 10
           with_reducible refine (HSb.out _ ?_).mono ?_
           · (repeat' (first | with_reducible exact Hid.out HxA | with_reducible exact Below.refl _ _ | (with_reducible refine Below.drew ?_)))
           rintro e xB ⟨rfl, hbB⟩
           have HxB : Hid (Below wr.heap.size wr xB) := by
             refine Below.trans (b := _) ?_ (hbB.mono ?_)
             · (repeat' (first | with_reducible exact Hid.out HxA | with_reducible exact Below.refl _ _ | (with_reducible refine Below.drew ?_)))
             · have := HxA.out.size; first | omega | (simp; omega) | (simp; done)
           clear hbB)))
      all_goals (
        have Hb2 := hide (Hb.out.trans (HxB.out.mono Hb.out.size))
        go_wp2_with fail
        go_roundw
        case rel => exact ⟨k + 1, by omega, by go_num, Hb2⟩
        case measure => simp [intOf]; omega)
    · have hk2 : k = c.length := by omega
      subst hk2
      go_wp2_with fail
      go_ret
      exact ⟨rfl, Hb.out⟩
end Go.Proofs.Ytbkedppkdhfpoab

namespace Go.Proofs.Ytbkedppkdhfpoab
open Go.RowKit Go.Maps

theorem subs_self {ar : List Int} {a : List Lit} {s : Bool} {e : Int} (h0 : clausesErr ar [a] = 0) (h : SubS ar a a s e) : s = true ∧ e = 0 := by
  have h2 := two_zero h0 h0
  obtain ⟨h3, _, h5⟩ := subs_iff h
  exact ⟨(h5 h2).2 ⟨_, covers_self ((clauses_each h2).2.2 a (by simp)).2⟩, by rw [h3, h2]⟩
theorem subs_trans {ar : List Int} {a b c : List Lit} {x y z : Bool} {e1 e2 e3 : Int} (h1 : SubS ar a b x e1) (h2 : SubS ar b c y e2) (h3 : SubS ar a c z e3) (z1 : e1 = 0) (z2 : e2 = 0) (z3 : e3 = 0) (hx : x = true) (hy : y = true) : z = true := by
  obtain ⟨p1, _, p3⟩ := subs_iff h1
  obtain ⟨q1, _, q3⟩ := subs_iff h2
  obtain ⟨r1, _, r3⟩ := subs_iff h3
  obtain ⟨θ, hθ⟩ := (p3 (by rw [← p1, z1])).1 hx
  obtain ⟨σ, hσ⟩ := (q3 (by rw [← q1, z2])).1 hy
  exact (r3 (by rw [← r1, z3])).2 ⟨_, covers_trans hθ hσ⟩
theorem tidy_sz {ar : List Int} {c : List Lit} (h : clausesErr ar [c] = 0) : c.length ≤ 1000 ∧ ∀ x, x ∈ c → LitSz x := by
  obtain ⟨_, h2, h3⟩ := clauses_ok h
  exact ⟨by omega, fun x hx => ⟨by have := (h3 x hx).1.1; omega, by have := (h3 x hx).2.1; omega⟩⟩
theorem tidy_again {ar : List Int} {a : List Lit} (h : (tidyS ar a).2 = 0) : clausesErr ar [a] = 0 ∧ tidyS ar (tidyS ar a).1 = ((tidyS ar a).1, 0) ∧ (tidyS ar a).1.length ≤ 1000 ∧ ∀ x, x ∈ (tidyS ar a).1 → LitSz x := by
  by_cases h0 : clausesErr ar [a] = 0
  · have e : tidyS ar a = ((giveC (needS [] a) []).1, 0) := by rw [tidyS, if_pos h0]
    obtain ⟨h1, h2⟩ := tidy_twice h0
    obtain ⟨h3, h4⟩ := tidy_sz h1
    rw [e]
    exact ⟨h0, h2, h3, h4⟩
  · rw [tidyS, if_neg h0] at h
    exact absurd h h0
attribute [local go_sem ↓] Go.wp_at_zero Go.wp_at_succ
set_option maxRecDepth 100000 in
set_option maxHeartbeats 4000000 in
theorem clauseHangs_any (ar : List Int) (ga : Option Addr) (gcap : Nat) (a : List Lit) (aa : Option Addr) (ac : Nat) (b : List Lit) (ba : Option Addr) (bc : Nat) (c : List Lit) (ca : Option Addr) (cc : Nat) (w : World) (hal : a.length ≤ 9223372036854775807) (hbl : b.length ≤ 9223372036854775807) (hcl : c.length ≤ 9223372036854775807) (hg : Ints w ar ga) (ha : LitsP w a aa) (hb : LitsP w b ba) (hc : LitsP w c ca) :
    Calls Try.prog 4 #[.agg #[.slice ga ar.length gcap], .slice aa a.length ac, .slice ba b.length bc, .slice ca c.length cc] w fun e w' => e = .returned (.bool true) ∧ Below w.heap.size w w' := by
  obtain ⟨W1, hW1⟩ : ∃ W1, W1 = w.alloc (.cells #[.slice ga ar.length gcap] 24) := ⟨_, rfl⟩
  have hbW : Below w.heap.size w W1 := by rw [hW1]; exact below1 _ _
  have hcg : W1.cell? ⟨w.heap.size, 0, none⟩ = some (.slice ga ar.length gcap) := by rw [hW1]; exact cell_new 0 rfl
  have HL := hide (fun (w' : World) (hb : Below W1.heap.size W1 w') => cell_below hb hcg)
  have HB := hide (fun (w' : World) (hb : Below W1.heap.size W1 w') => hbW.trans (hb.mono hbW.size))
  have HW1 := hide hW1
  have HTa := hide (fun (w' : World) (hbb : Below W1.heap.size W1 w') => Tidy_any ar ga gcap a aa ac w' (Ints_below (HB.out _ hbb) hg) hal (LitsP_below (HB.out _ hbb) ha))
  have HTt := hide (fun (t : List Lit) (ta : Option Addr) (tc : Nat) (w' : World) (hbb : Below W1.heap.size W1 w') (hl : t.length ≤ 1000) (ht : LitsP w' t ta) => Tidy_any ar ga gcap t ta tc w' (Ints_below (HB.out _ hbb) hg) (by omega) ht)
  have HSaa := hide (fun (w' : World) (hbb : Below W1.heap.size W1 w') => Subsumes_any ar ga gcap a aa ac a aa ac w' (Ints_below (HB.out _ hbb) hg) hal hal (LitsP_below (HB.out _ hbb) ha) (LitsP_below (HB.out _ hbb) ha))
  have HSab := hide (fun (w' : World) (hbb : Below W1.heap.size W1 w') => Subsumes_any ar ga gcap a aa ac b ba bc w' (Ints_below (HB.out _ hbb) hg) hal hbl (LitsP_below (HB.out _ hbb) ha) (LitsP_below (HB.out _ hbb) hb))
  have HSbc := hide (fun (w' : World) (hbb : Below W1.heap.size W1 w') => Subsumes_any ar ga gcap b ba bc c ca cc w' (Ints_below (HB.out _ hbb) hg) hbl hcl (LitsP_below (HB.out _ hbb) hb) (LitsP_below (HB.out _ hbb) hc))
  have HSac := hide (fun (w' : World) (hbb : Below W1.heap.size W1 w') => Subsumes_any ar ga gcap a aa ac c ca cc w' (Ints_below (HB.out _ hbb) hg) hal hcl (LitsP_below (HB.out _ hbb) ha) (LitsP_below (HB.out _ hbb) hc))
  have Hag := hide (fun h => tidy_again (ar := ar) (a := a) h)
  have Hself := hide (fun (h0 : clausesErr ar [a] = 0) (s : Bool) (e : Int) (h : SubS ar a a s e) => subs_self h0 h)
  have Htr := hide (fun (x y z : Bool) (e1 e2 e3 : Int) (h1 : SubS ar a b x e1) (h2 : SubS ar b c y e2) (h3 : SubS ar a c z e3) => subs_trans h1 h2 h3)
  obtain ⟨D, hD⟩ : ∃ D, D = tidyS ar a := ⟨_, rfl⟩
  rw [← hD] at HTa Hag
  clear hD hg ha hb hc hcg hW1 hbW
  go_enter Try.func4, Try.ntmps4
  go_upto_region 1 with fail
  rw [← HW1.out]
  go_wp2_with fail
  refine (clauseBegun_any W1).mono ?_
  rintro e w1 ⟨rfl, hb1⟩
  have Hb1 := hide hb1
  have g0 := HL.out w1 Hb1.out
  clear hb1
  go_wp2_with fail
  refine (HTa.out w1 Hb1.out).mono ?_
  rintro e w2 ⟨⟨a2, c2, rfl, hl2, -⟩, hb2⟩
  have Hb2 := hide (Hb1.out.trans (hb2.mono Hb1.out.size))
  have Hl2 := hide hl2
  clear hb2 hl2 Hb1 g0 HTa
  obtain ⟨D1, D2⟩ := D
  simp only at *
  have g0 := HL.out w2 Hb2.out
  by_cases hE : D2 = 0
  case' pos =>
    obtain ⟨hz, htt, hln, hsz⟩ := Hag.out hE
    subst hE
    have HT3 := hide (HTt.out D1 a2 c2 w2 Hb2.out hln Hl2.out)
    rw [htt] at HT3
    have Hsc := hide (fun (w' : World) (a3 : Option Addr) (c3 : Nat) (h1 : LitsP w' D1 a2) (h2 : LitsP w' D1 a3) => sameClause_same D1 a2 c2 a3 c3 w' hln hsz h1 h2)
    have Hse := hide (Hself.out hz)
    clear hz htt hln hsz Hag Hself HTt
    go_wp2_with fail
    refine HT3.out.mono ?_
    rintro e w3 ⟨⟨a3, c3, rfl, hl3, -⟩, hb3⟩
    have Hb3 := hide (Hb2.out.trans (hb3.mono Hb2.out.size))
    have Hl3 := hide hl3
    have Hk3 := hide (LitsP_below hb3 Hl2.out)
    clear hb3 hl3 Hb2 Hl2 g0 HT3
    have g0 := HL.out w3 Hb3.out
    go_wp2_with fail
    refine (HSaa.out w3 Hb3.out).mono ?_
    rintro e w4 ⟨⟨s, err, rfl, hss⟩, hb4⟩
    obtain ⟨hs1, herr⟩ := Hse.out s err hss
    subst hs1
    subst herr
    have Hb4 := hide (Hb3.out.trans (hb4.mono Hb3.out.size))
    have HS4 := hide (Hsc.out w4 a3 c3 (LitsP_below hb4 Hk3.out) (LitsP_below hb4 Hl3.out))
    clear hb4 hss Hb3 Hl3 Hk3 g0 HSaa Hse Hsc
    go_wp2_with fail
    refine HS4.out.mono ?_
    rintro e wz ⟨rfl, hbz⟩
    have Hbz := hide (Hb4.out.trans (hbz.mono Hb4.out.size))
    clear hbz Hb4 HS4
    have g0 := HL.out wz Hbz.out
  case' neg =>
    have hE' : (D2 == 0) = false := by simpa using hE
    obtain ⟨wz, hwz⟩ : ∃ wz, wz = w2 := ⟨_, rfl⟩
    rw [← hwz] at Hb2 g0
    have Hbz := hide Hb2.out
    clear Hag Hself HTt HSaa Hl2 Hb2
    subst hwz
  all_goals (
    go_wp2_with fail
    refine (HSab.out wz Hbz.out).mono ?_
    rintro e w5 ⟨⟨x1, e1, rfl, hs1⟩, hb5⟩
    have Hb5 := hide (Hbz.out.trans (hb5.mono Hbz.out.size))
    have Hs1 := hide hs1
    clear hb5 hs1 Hbz g0 HSab
    have g0 := HL.out w5 Hb5.out
    go_wp2_with fail
    refine (HSbc.out w5 Hb5.out).mono ?_
    rintro e w6 ⟨⟨x2, e2, rfl, hs2⟩, hb6⟩
    have Hb6 := hide (Hb5.out.trans (hb6.mono Hb5.out.size))
    have Hs2 := hide hs2
    clear hb6 hs2 Hb5 g0 HSbc
    have g0 := HL.out w6 Hb6.out
    go_wp2_with fail
    refine (HSac.out w6 Hb6.out).mono ?_
    rintro e w7 ⟨⟨x3, e3, rfl, hs3⟩, hb7⟩
    have Hb7 := hide (HB.out _ (Hb6.out.trans (hb7.mono Hb6.out.size)))
    have Hfin := hide (Htr.out x1 x2 x3 e1 e2 e3 Hs1.out Hs2.out hs3)
    clear hb7 hs3 Hb6 g0 HSac Hs1 Hs2 Htr
    by_cases z1 : e1 = 0
    case' neg =>
      have z1' : (e1 != 0) = true := by simpa using z1
      clear Hfin
    case' pos =>
      subst z1
      by_cases z2 : e2 = 0
      case' neg =>
        have z2' : (e2 != 0) = true := by simpa using z2
        clear Hfin
      case' pos =>
        subst z2
        by_cases z3 : e3 = 0
        case' neg =>
          have z3' : (e3 != 0) = true := by simpa using z3
          clear Hfin
        case' pos =>
          subst z3
          cases x1
          case' true =>
            cases x2
            case' true =>
              obtain rfl := Hfin.out rfl rfl rfl rfl rfl
    all_goals (
      go_wp2_with fail
      go_ret
      exact ⟨rfl, Hb7.out⟩))
end Go.Proofs.Ytbkedppkdhfpoab

namespace Go.Proofs.Ytbkedppkdhfpoab
open Go.RowKit Go.ChangeShapes Go.WideShapes Go.Deep

theorem InL_of_fn {w : World} : ∀ (n b off : Nat) (f : Nat → T), (∀ i, i < n → ∃ s, w.cell? ⟨b, off + i * 3, none⟩ = some (.int .i64 (f i).v) ∧ w.cell? ⟨b, off + i * 3 + 1, none⟩ = some (.int .i64 (f i).f) ∧ w.cell? ⟨b, off + i * 3 + 2, none⟩ = some s ∧ (f i).In (fun _ => True) w s) →
    InL w ((List.range n).map f) (some ⟨b, off, none⟩) := by
  intro n
  induction n with
  | zero => intro b off f _; exact InP_nil
  | succ n ih =>
    intro b off f h
    rw [List.range_succ_eq_map, List.map_cons, List.map_map]
    obtain ⟨s, c0, c1, c2, hin⟩ := h 0 (by omega)
    refine InP_cons.2 ⟨b, off, s, rfl, trivial, by simpa using c0, by simpa using c1, by simpa using c2, hin, ih b (off + 3) (f ∘ Nat.succ) (fun i hi => ?_)⟩
    obtain ⟨s, c0, c1, c2, hin⟩ := h (i + 1) (by omega)
    have e : off + (i + 1) * 3 = off + 3 + i * 3 := by omega
    rw [e] at c0 c1 c2
    exact ⟨s, c0, c1, c2, hin⟩

theorem Try.cells28 : Try.prog.cellsOf 28 = 3 := by kernel_rfl
theorem Try.cells3 : Try.prog.cellsOf 3 = 1 := by kernel_rfl
theorem Try.cells24 : Try.prog.cellsOf 24 = 1 := by kernel_rfl

section
variable {H : Type} {enc : TypeId × Value → H} {W : World} {spare : Nat → Bool} {held : Bool}

set_option maxRecDepth 100000 in
/-- A term that can be read is a tree that lies there. -/
theorem open_term : ∀ (fuel : Nat) (cs : List Value) (x : DataW H × List MemPlace), DataW.trod enc Try.prog W 0 spare held fuel 28 cs = some x →
    ∃ (t : T) (a : Option Addr) (cap : Nat), cs = [.int .i64 t.v, .int .i64 t.f, .slice a t.args.length cap] ∧ InL W t.args a := by
  intro fuel
  induction fuel using Nat.strongRecOn with
  | _ fuel ih =>
    intro cs x h
    obtain ⟨xs, n, hn, hx, hl, hlen, hf⟩ := DataW.trod_struct Go.Proofs.Try.underlying28 h
    rw [Try.cells28] at hl
    match cs, hl with
    | [c0, c1, c2], _ =>
      have f0 := hf 0 _ rfl
      have f1 := hf 1 _ rfl
      have f2 := hf 2 _ rfl
      match xs, hlen with
      | [y0, y1, y2], _ =>
        simp only [List.getElem?_cons_zero, List.getElem?_cons_succ] at f0 f1 f2
        have g0 : DataW.trod enc Try.prog W 0 spare held n 3 [c0] = some y0 := f0
        have g1 : DataW.trod enc Try.prog W 0 spare held n 3 [c1] = some y1 := f1
        have g2 : DataW.trod enc Try.prog W 0 spare held n 26 [c2] = some y2 := f2
        obtain ⟨v, e0, _, _⟩ := DataW.trod_int Go.Proofs.Try.underlying3 g0
        obtain ⟨f, e1, _, _⟩ := DataW.trod_int Go.Proofs.Try.underlying3 g1
        simp only [List.cons.injEq, and_true] at e0 e1
        subst e0 e1
        rcases DataW.trod_slice Go.Proofs.Try.underlying26 g2 with ⟨e2, _⟩ | ⟨a, len, cap, elems, rest, m, hm, e2, _, hb, hl', hm', hlen', hel, _, _⟩
        · simp only [List.cons.injEq, and_true] at e2
          subst e2
          exact ⟨⟨v, f, []⟩, none, 0, rfl, InP_nil⟩
        · simp only [List.cons.injEq, and_true] at e2
          subst e2
          rw [Try.cells28] at hel
          have hchild : ∀ i, i < len → ∃ t : T, ∃ s, W.cell? (a.add (i * 3)) = some (.int .i64 t.v) ∧ W.cell? ((a.add (i * 3)).add 1) = some (.int .i64 t.f) ∧ W.cell? ((a.add (i * 3)).add 2) = some s ∧ t.In (fun _ => True) W s := by
            intro i hi
            have h1 := hel i hi
            rw [List.getElem?_eq_getElem (by omega)] at h1
            obtain ⟨cs', h2, h3⟩ := Option.bind_eq_some_iff.1 h1
            obtain ⟨t, a', cap', hcs, hin⟩ := ih m (by omega) cs' _ h3
            obtain ⟨_, _, hcell⟩ := World.cells?_some h2
            rw [hcs] at hcell
            refine ⟨t, .slice a' t.args.length cap', ?_, hcell 1 (by omega), hcell 2 (by omega), In_iff.2 ⟨a', cap', rfl, hin⟩⟩
            have := hcell 0 (by omega)
            rwa [show (a.add (i * 3)).add 0 = a.add (i * 3) from by simp [Addr.add]] at this
          by_cases h0 : len = 0
          · subst h0
            exact ⟨⟨v, f, []⟩, some a, cap, rfl, InP_nil⟩
          · obtain ⟨b, off, spot⟩ := a
            have hspot : spot = none := by
              obtain ⟨t, s, hc, _⟩ := hchild 0 (by omega)
              simpa [Addr.add] using World.cell?_spot hc
            subst hspot
            have : Inhabited T := ⟨⟨0, 0, []⟩⟩
            obtain ⟨F, hF⟩ := choose_lt hchild
            refine ⟨⟨v, f, (List.range len).map F⟩, some ⟨b, off, none⟩, cap, by simp, InL_of_fn len b off F (fun i hi => ?_)⟩
            obtain ⟨s, c0, c1, c2, hin⟩ := hF i hi
            have e : ∀ j, (⟨b, off, none⟩ : Addr).add j = ⟨b, off + j, none⟩ := fun j => by simp [Addr.add]
            have e' : ∀ k j, (⟨b, k, none⟩ : Addr).add j = ⟨b, k + j, none⟩ := fun k j => by simp [Addr.add]
            rw [e] at c0 c1 c2
            rw [e'] at c1 c2
            exact ⟨s, c0, c1, c2, hin⟩

/-- A slice of numbers that can be read. -/
theorem open_nums {fuel : Nat} {cs : List Value} {x : DataW H × List MemPlace} (h : DataW.trod enc Try.prog W 0 spare held fuel 22 cs = some x) :
    ∃ (zs : List Int) (a : Option Addr) (cap : Nat), cs = [.slice a zs.length cap] ∧ Ints W zs a ∧ zs.length ≤ 9223372036854775807 ∧ zs.length ≤ cap := by
  rcases open_ints Go.Proofs.Try.underlying22 Go.Proofs.Try.underlying3 Try.cells3 h with ⟨hcs, _⟩ | ⟨a, l, c, zs, hcs, _, hl, hm, hz, _, hcell, _⟩
  · exact ⟨[], none, 0, hcs, Or.inl rfl, by simp, by simp⟩
  · have hle : l ≤ zs.length := by rw [hz]; split <;> omega
    have hlen : (zs.take l).length = l := List.length_take_of_le hle
    refine ⟨zs.take l, some a, c, by rw [hcs, hlen], ?_, by rw [hlen]; unfold maxLen at hm; omega, by rw [hlen]; exact hl⟩
    by_cases h0 : l = 0
    · left; rw [h0]; rfl
    · right
      obtain ⟨b, off, rfl, hc⟩ := ints_at hcell (by omega)
      refine ⟨b, off, rfl, fun i hi => ?_⟩
      rw [hlen] at hi
      rw [hc i (by omega)]
      simp [List.getD, List.getElem?_take_of_lt hi]

set_option maxRecDepth 100000 in
/-- A signature. -/
theorem open_sig {fuel : Nat} {cs : List Value} {x : DataW H × List MemPlace} (h : DataW.trod enc Try.prog W 0 spare held fuel 24 cs = some x) :
    ∃ (zs : List Int) (a : Option Addr) (cap : Nat), cs = [.slice a zs.length cap] ∧ Ints W zs a := by
  obtain ⟨y0, n, _, hl, h0⟩ := trod_struct1 Go.Proofs.Try.underlying24 h
  rw [Try.cells24] at hl
  match cs, hl with
  | [c0], _ =>
    have g0 : DataW.trod enc Try.prog W 0 spare held n 22 [c0] = some y0 := h0
    obtain ⟨zs, a, cap, hcs, hi, _⟩ := open_nums g0
    exact ⟨zs, a, cap, hcs, hi⟩

end
end Go.Proofs.Ytbkedppkdhfpoab

namespace Go.Proofs.Ytbkedppkdhfpoab
open Go.RowKit Go.ChangeShapes Go.WideShapes Go.Deep

def LitAt (w : World) (b off : Nat) (x : Lit) : Prop := ∃ a1 c1 a2 c2, w.cell? ⟨b, off, none⟩ = some (.bool x.1) ∧ w.cell? ⟨b, off + 1, none⟩ = some (.int .i64 x.2.1.v) ∧ w.cell? ⟨b, off + 2, none⟩ = some (.int .i64 x.2.1.f) ∧ w.cell? ⟨b, off + 3, none⟩ = some (.slice a1 x.2.1.args.length c1) ∧
  w.cell? ⟨b, off + 4, none⟩ = some (.int .i64 x.2.2.v) ∧ w.cell? ⟨b, off + 5, none⟩ = some (.int .i64 x.2.2.f) ∧ w.cell? ⟨b, off + 6, none⟩ = some (.slice a2 x.2.2.args.length c2) ∧ InL w x.2.1.args a1 ∧ InL w x.2.2.args a2
theorem LitsP_of_fn {w : World} : ∀ (n b off : Nat) (f : Nat → Lit), (∀ i, i < n → LitAt w b (off + i * 7) (f i)) → LitsP w ((List.range n).map f) (some ⟨b, off, none⟩) := by
  intro n
  induction n with
  | zero => intro b off f _; trivial
  | succ n ih =>
    intro b off f h
    rw [List.range_succ_eq_map, List.map_cons, List.map_map]
    obtain ⟨a1, c1, a2, c2, h0, h1, h2, h3, h4, h5, h6, i1, i2⟩ := h 0 (by omega)
    refine ⟨b, off, a1, c1, a2, c2, rfl, by simpa using h0, by simpa using h1, by simpa using h2, by simpa using h3, by simpa using h4, by simpa using h5, by simpa using h6, i1, i2, ih b (off + 7) (f ∘ Nat.succ) (fun i hi => ?_)⟩
    have h9 := h (i + 1) (by omega)
    rw [show off + (i + 1) * 7 = off + 7 + i * 7 by omega] at h9
    exact h9
theorem Try.cells71 : Try.prog.cellsOf 71 = 7 := by kernel_rfl
section
variable {H : Type} {enc : TypeId × Value → H} {W : World} {spare : Nat → Bool} {held : Bool}

set_option maxRecDepth 100000 in
/-- A literal that can be read. -/
theorem open_lit (fuel : Nat) (cs : List Value) (x : DataW H × List MemPlace) (h : DataW.trod enc Try.prog W 0 spare held fuel 71 cs = some x) :
    ∃ (y : Lit) (a : Option Addr) (cap : Nat) (a2 : Option Addr) (cap2 : Nat), cs = [.bool y.1, .int .i64 y.2.1.v, .int .i64 y.2.1.f, .slice a y.2.1.args.length cap, .int .i64 y.2.2.v, .int .i64 y.2.2.f, .slice a2 y.2.2.args.length cap2] ∧ InL W y.2.1.args a ∧ InL W y.2.2.args a2 := by
  obtain ⟨xs, n, hn, hx, hl, hlen, hf⟩ := DataW.trod_struct Go.Proofs.Try.underlying71 h
  rw [Try.cells71] at hl
  match cs, hl with
  | [c0, c1, c2, c3, c4, c5, c6], _ =>
    have f0 := hf 0 _ rfl
    have f1 := hf 1 _ rfl
    have f2 := hf 2 _ rfl
    match xs, hlen with
    | [y0, y1, y2], _ =>
      simp only [List.getElem?_cons_zero, List.getElem?_cons_succ] at f0 f1 f2
      have g0 : DataW.trod enc Try.prog W 0 spare held n 4 [c0] = some y0 := f0
      have g1 : DataW.trod enc Try.prog W 0 spare held n 28 [c1, c2, c3] = some y1 := f1
      have g2 : DataW.trod enc Try.prog W 0 spare held n 28 [c4, c5, c6] = some y2 := f2
      obtain ⟨yes, hcs, _⟩ := DataW.trod_bool Go.Proofs.Try.underlying4 g0
      simp only [List.cons.injEq, and_true] at hcs
      obtain rfl := hcs
      obtain ⟨s, a, cap, hcs, hin⟩ := open_term _ _ _ g1
      simp only [List.cons.injEq, and_true] at hcs
      obtain ⟨rfl, rfl, rfl⟩ := hcs
      obtain ⟨t, a2, cap2, hcs, hin2⟩ := open_term _ _ _ g2
      simp only [List.cons.injEq, and_true] at hcs
      obtain ⟨rfl, rfl, rfl⟩ := hcs
      exact ⟨(yes, s, t), a, cap, a2, cap2, rfl, hin, hin2⟩

set_option maxRecDepth 100000 in
/-- A clause. -/
theorem open_clause {fuel : Nat} {cs : List Value} {x : DataW H × List MemPlace} (h : DataW.trod enc Try.prog W 0 spare held fuel 40 cs = some x) :
    ∃ (c : List Lit) (a : Option Addr) (cap : Nat), cs = [.slice a c.length cap] ∧ LitsP W c a ∧ c.length ≤ 9223372036854775807 := by
  rcases DataW.trod_slice Go.Proofs.Try.underlying40 h with ⟨e2, _⟩ | ⟨a, len, cap, elems, rest, m, hm, e2, _, hb, hl', hm', hlen', hel, _, _⟩
  · exact ⟨[], none, 0, e2, trivial, by simp⟩
  · rw [Try.cells71] at hel
    have hchild : ∀ i, i < len → ∃ y : Lit, ∃ a1 cap1 a2 cap2, W.cell? (a.add (i * 7)) = some (.bool y.1) ∧ W.cell? ((a.add (i * 7)).add 1) = some (.int .i64 y.2.1.v) ∧ W.cell? ((a.add (i * 7)).add 2) = some (.int .i64 y.2.1.f) ∧ W.cell? ((a.add (i * 7)).add 3) = some (.slice a1 y.2.1.args.length cap1) ∧
        W.cell? ((a.add (i * 7)).add 4) = some (.int .i64 y.2.2.v) ∧ W.cell? ((a.add (i * 7)).add 5) = some (.int .i64 y.2.2.f) ∧ W.cell? ((a.add (i * 7)).add 6) = some (.slice a2 y.2.2.args.length cap2) ∧ InL W y.2.1.args a1 ∧ InL W y.2.2.args a2 := by
      intro i hi
      have h1 := hel i hi
      rw [List.getElem?_eq_getElem (by omega)] at h1
      obtain ⟨cs', h2, h3⟩ := Option.bind_eq_some_iff.1 h1
      obtain ⟨y, a', cap', a2', cap2', hcs, hin, hin2⟩ := open_lit m cs' _ h3
      obtain ⟨_, _, hcell⟩ := World.cells?_some h2
      rw [hcs] at hcell
      refine ⟨y, a', cap', a2', cap2', ?_, hcell 1 (by omega), hcell 2 (by omega), hcell 3 (by omega), hcell 4 (by omega), hcell 5 (by omega), hcell 6 (by omega), hin, hin2⟩
      have := hcell 0 (by omega)
      rwa [show (a.add (i * 7)).add 0 = a.add (i * 7) from by simp [Addr.add]] at this
    by_cases h0 : len = 0
    · subst h0
      exact ⟨[], some a, cap, e2, trivial, by simp⟩
    · obtain ⟨b, off, spot⟩ := a
      have hspot : spot = none := by
        obtain ⟨y, a1, cap1, a2, cap2, hc, _⟩ := hchild 0 (by omega)
        simpa [Addr.add] using World.cell?_spot hc
      subst hspot
      have : Inhabited Lit := ⟨(false, ⟨0, 0, []⟩, ⟨0, 0, []⟩)⟩
      obtain ⟨F, hF⟩ := choose_lt hchild
      refine ⟨(List.range len).map F, some ⟨b, off, none⟩, cap, by simpa using e2, LitsP_of_fn len b off F (fun i hi => ?_), by simp; unfold maxLen at hm'; omega⟩
      obtain ⟨a1, cap1, a2, cap2, c0, c1, c2, c3, c4, c5, c6, hin, hin2⟩ := hF i hi
      have e : ∀ j, (⟨b, off, none⟩ : Addr).add j = ⟨b, off + j, none⟩ := fun j => by simp [Addr.add]
      have e2 : ∀ i j, (⟨b, i, none⟩ : Addr).add j = ⟨b, i + j, none⟩ := fun i j => by simp [Addr.add]
      rw [e] at c0 c1 c2 c3 c4 c5 c6
      rw [e2] at c1 c2 c3 c4 c5 c6
      exact ⟨a1, cap1, a2, cap2, c0, c1, c2, c3, c4, c5, c6, hin, hin2⟩

end
end Go.Proofs.Ytbkedppkdhfpoab
