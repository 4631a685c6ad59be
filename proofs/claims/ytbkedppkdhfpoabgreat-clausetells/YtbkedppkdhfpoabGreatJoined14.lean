/- ClauseTells: the document's AlwaysOf. Bindings appended to a list of the call's own: some, or none. The document's own matching: Grow. -/
import Derived.BigQuiet
import Derived.Deep.RegionHeld3
import Derived.Deep.RegionLaw
import Derived.Laws.AppendOwnNone
import Derived.Maps.AppendAt
import Derived.Test.YtbkedppkdhfpoabGreatJoined13
namespace Go.Proofs.YtbkedppkdhfpoabGreat
open Go.RowKit

theorem LitsP_both {w : World} {c : List Lit} {b off k : Nat} {x : Lit} (h : LitsP w c (some ⟨b, off, none⟩)) (hx : c[k]? = some x) : ∃ a1 c1 a2 c2, At7 w b (off + k * 7) x a1 c1 a2 c2 ∧ L7 w b (off + k * 7) x a1 c1 a2 c2 ∧ InL w x.2.1.args a1 ∧ InL w x.2.2.args a2 := by
  obtain ⟨a1, c1, a2, c2, k0, k1, k2, k3, k4, k5, k6, hi1, hi2⟩ := LitsP_at h hx
  exact ⟨a1, c1, a2, c2, ⟨k0, k1, k2, k3, k4, k5, k6⟩, ⟨k0, k1, k2, k3, k4, k5, k6⟩, hi1, hi2⟩
attribute [local go_sem ↓] Go.wp_at_zero Go.wp_at_succ
set_option maxRecDepth 100000 in
set_option maxHeartbeats 2000000 in
theorem alwaysOf_any (c : List Lit) (ca : Option Addr) (cc : Nat) (w : World) (hl : c.length ≤ 1000) (hsz : ∀ x, x ∈ c → LitSz x) (hc : LitsP w c ca) :
    Calls Tryz.prog 17 #[.slice ca c.length cc] w fun e w' => e = .returned (.bool (alwaysD c)) ∧ Below w.heap.size w w' := by
  have Hc := hide hc
  have Hsz := hide hsz
  obtain ⟨P, hP⟩ : ∃ P : Lit → Bool, P = fun l => l.1 && (sameT l.2.1 l.2.2 || c.any (fun k => !k.1 && sameS l k)) := ⟨_, rfl⟩
  have hZ : alwaysD c = c.any P := by rw [hP]; rfl
  rw [hZ]
  have HP := hide hP
  clear hc hsz hP hZ
  go_enter Tryz.func17, Tryz.ntmps17
  go_wp2_with fail
  go_loopw [3] (fun i wr => ∃ k : Nat, k ≤ c.length ∧ i = .int .i64 k ∧ Hid ((c.take k).any P = false) ∧ Hid (Below w.heap.size w wr)) (fun i _ => c.length - (intOf i).toNat)
  case atStart => exact ⟨0, Nat.zero_le _, rfl, rfl, Below.refl _ _⟩
  case round =>
    obtain ⟨k, hk, rfl, Hk, Hb⟩ := hrel
    by_cases hlt : k < c.length
    · obtain ⟨b, off, rfl⟩ := LitsP_some Hc.out (by omega)
      obtain ⟨x, hx⟩ : ∃ x, c[k]? = some x := ⟨c[k], List.getElem?_eq_getElem hlt⟩
      obtain ⟨a1, c1, a2, c2, hA, hA', i1, i2⟩ := LitsP_both (LitsP_below Hb.out Hc.out) hx
      have hz := Hsz.out x (List.mem_of_getElem? hx)
      have Hst := hide (any_litS hx Hk.out)
      have HPx : Hid (P x = (x.1 && (sameT x.2.1 x.2.2 || c.any (fun k => !k.1 && sameS x k)))) := by show _ = _; rw [HP.out]
      have HSa := hide (fun (w' : World) (hb : Below wr.heap.size wr w') => sameTerm_any 1001 x.2.1 x.2.2 a1 c1 a2 c2 w' (by have := hz.1; omega) hz.1 (InP_below hb i1) (InP_below hb i2))
      have hS := hide (fun (w' : World) (hb : Below wr.heap.size wr w') => (show w'.cell? ⟨b, off + k * 7, none⟩ = some (.bool x.1) ∧ w'.cell? ⟨b, off + k * 7 + 1, none⟩ = some (.int .i64 x.2.1.v) ∧ w'.cell? ⟨b, off + k * 7 + 1 + 1, none⟩ = some (.int .i64 x.2.1.f) ∧ w'.cell? ⟨b, off + k * 7 + 1 + 2, none⟩ = some (.slice a1 x.2.1.args.length c1) ∧ w'.cell? ⟨b, off + k * 7 + 4, none⟩ = some (.int .i64 x.2.2.v) ∧ w'.cell? ⟨b, off + k * 7 + 4 + 1, none⟩ = some (.int .i64 x.2.2.f) ∧ w'.cell? ⟨b, off + k * 7 + 4 + 2, none⟩ = some (.slice a2 x.2.2.args.length c2) from hA.below hb))
      have HL7 := hide hA'
      have Hi1 := hide i1
      have Hi2 := hide i2
      have Hz := hide hz
      obtain ⟨p0, p1, p2, p3, p4, p5, p6⟩ := hS.out wr (Below.refl _ _)
      have hkI : (k : Int) < c.length := by omega
      have hk0 : (0 : Int) ≤ k := by omega
      clear hx hA hA' i1 i2 hz Hk
      cases hy : x.1 with
      | false =>
        have Hn := hide (Hst.out.1 (by rw [HPx.out, hy]; rfl))
        rw [hy] at p0
        clear hy Hst HPx hS HSa
        go_wp2_with fail
        go_roundw
        case rel => exact ⟨k + 1, by omega, by go_num, Hn, Hb⟩
        case measure => simp [intOf]; omega
      | true =>
        obtain ⟨S, hSe⟩ : ∃ S, S = sameT x.2.1 x.2.2 := ⟨_, rfl⟩
        obtain ⟨Q, hQ⟩ : ∃ Q : Lit → Bool, Q = fun k => !k.1 && sameS x k := ⟨_, rfl⟩
        rw [hy, ← hSe, ← hQ] at HPx
        rw [hy] at p0 hS
        rw [← hSe] at HSa
        have HQ := hide hQ
        have Hx1 := hide hy
        clear hy hSe hQ
        go_wp2_with fail
        go_region_held3 (fun w' => w'.cell? ⟨b, off + k * 7, none⟩ = some (.bool true) ∧ w'.cell? ⟨b, off + k * 7 + 1, none⟩ = some (.int .i64 x.2.1.v) ∧ w'.cell? ⟨b, off + k * 7 + 1 + 1, none⟩ = some (.int .i64 x.2.1.f) ∧ w'.cell? ⟨b, off + k * 7 + 1 + 2, none⟩ = some (.slice a1 x.2.1.args.length c1) ∧ w'.cell? ⟨b, off + k * 7 + 4, none⟩ = some (.int .i64 x.2.2.v) ∧ w'.cell? ⟨b, off + k * 7 + 4 + 1, none⟩ = some (.int .i64 x.2.2.f) ∧ w'.cell? ⟨b, off + k * 7 + 4 + 2, none⟩ = some (.slice a2 x.2.2.args.length c2)) ((first | (refine hS.out _ ?_; (repeat' (first | with_reducible exact Hid.out ‹Hid (Below _ _ _)› | with_reducible exact Below.refl _ _ | (with_reducible refine Below.drew ?_))); done) | go_keep)) ((first
          | (go_at_call 52
             with_reducible refine (HSa.out _ ?_).mono ?_
             · (repeat' (first | with_reducible exact Hid.out ‹Hid (Below _ _ _)› | with_reducible exact Below.refl _ _ | (with_reducible refine Below.drew ?_)))
             rintro e xA ⟨rfl, hbA⟩
             have HxA : Hid (Below wr.heap.size wr xA) := by
               refine Below.trans (b := _) ?_ (hbA.mono ?_)
               · (repeat' (first | with_reducible exact Hid.out ‹Hid (Below _ _ _)› | with_reducible exact Below.refl _ _ | (with_reducible refine Below.drew ?_)))
               · first | omega | (simp; omega) | (simp; done)
             clear hbA)))
        have HbA := hide (Hb.out.trans (HxA.out.mono Hb.out.size))
        cases S with
        | true =>
          have Hn := hide (Hst.out.2 (by rw [HPx.out]; rfl))
          clear Hst HPx hS HSa
          go_wp2_with fail
          go_ret
          exact ⟨ret_bool (by rw [Hn.out]), HbA.out⟩
        | false =>
          have HPx' : Hid (P x = c.any Q) := by show _ = _; rw [HPx.out]; simp
          have HL := hide (HL7.out.below HxA.out)
          have Hj1 := hide (InP_below HxA.out Hi1.out)
          have Hj2 := hide (InP_below HxA.out Hi2.out)
          clear HPx hS HSa HL7 Hi1 Hi2 p0 p1 p2 p3 p4 p5 p6
          go_wp2_with fail
          go_loopw [4] (fun i wi => ∃ m : Nat, m ≤ c.length ∧ i = .int .i64 m ∧ Hid ((c.take m).any Q = false) ∧ Hid (Below xA.heap.size xA wi)) (fun i _ => c.length - (intOf i).toNat)
          case atStart => exact ⟨0, Nat.zero_le _, rfl, rfl, Below.refl _ _⟩
          case round =>
            obtain ⟨m, hm, rfl, Hm, Hbi⟩ := hrel
            have HbW := hide (HbA.out.trans (Hbi.out.mono HbA.out.size))
            by_cases hlt2 : m < c.length
            · obtain ⟨y, hy⟩ : ∃ y, c[m]? = some y := ⟨c[m], List.getElem?_eq_getElem hlt2⟩
              obtain ⟨b1, d1, b2, d2, _, hB', j1, j2⟩ := LitsP_both (LitsP_below HbW.out Hc.out) hy
              have Hst2 := hide (any_litS hy Hm.out)
              have HQy : Hid (Q y = (!y.1 && sameS x y)) := by show _ = _; rw [HQ.out]
              have hA' := HL.out.below Hbi.out
              have HSS := hide (fun (w' : World) (hb : Below wr.heap.size wr w') => refSameSides_any (true, x.2.1, x.2.2) (false, y.2.1, y.2.2) a1 c1 a2 c2 b1 d1 b2 d2 w' Hz.out (InP_below hb (InP_below Hbi.out Hj1.out)) (InP_below hb (InP_below Hbi.out Hj2.out)) (InP_below hb j1) (InP_below hb j2))
              have hS := hide (fun (w' : World) (hb : Below wr.heap.size wr w') => (show ((w'.cell? ⟨b, off + k * 7, none⟩ = some (.bool x.1) ∧ w'.cell? ⟨b, off + k * 7 + 1, none⟩ = some (.int .i64 x.2.1.v) ∧ w'.cell? ⟨b, off + k * 7 + 2, none⟩ = some (.int .i64 x.2.1.f) ∧ w'.cell? ⟨b, off + k * 7 + 3, none⟩ = some (.slice a1 x.2.1.args.length c1) ∧ w'.cell? ⟨b, off + k * 7 + 4, none⟩ = some (.int .i64 x.2.2.v) ∧ w'.cell? ⟨b, off + k * 7 + 5, none⟩ = some (.int .i64 x.2.2.f) ∧ w'.cell? ⟨b, off + k * 7 + 6, none⟩ = some (.slice a2 x.2.2.args.length c2)) ∧ w'.cell? ⟨b, off + m * 7, none⟩ = some (.bool y.1) ∧ w'.cell? ⟨b, off + m * 7 + 1, none⟩ = some (.int .i64 y.2.1.v) ∧ w'.cell? ⟨b, off + m * 7 + 2, none⟩ = some (.int .i64 y.2.1.f) ∧ w'.cell? ⟨b, off + m * 7 + 3, none⟩ = some (.slice b1 y.2.1.args.length d1) ∧ w'.cell? ⟨b, off + m * 7 + 4, none⟩ = some (.int .i64 y.2.2.v) ∧ w'.cell? ⟨b, off + m * 7 + 5, none⟩ = some (.int .i64 y.2.2.f) ∧ w'.cell? ⟨b, off + m * 7 + 6, none⟩ = some (.slice b2 y.2.2.args.length d2)) from by
                obtain ⟨u0, u1, u2, u3, u4, u5, u6⟩ := hA'.below hb
                obtain ⟨v0, v1, v2, v3, v4, v5, v6⟩ := hB'.below hb
                exact ⟨⟨u0, u1, u2, u3, u4, u5, u6⟩, v0, v1, v2, v3, v4, v5, v6⟩))
              rw [show sameS (true, x.2.1, x.2.2) (false, y.2.1, y.2.2) = sameS x y from rfl] at HSS
              obtain ⟨V, hV⟩ : ∃ V, V = sameS x y := ⟨_, rfl⟩
              rw [← hV] at HSS HQy
              rw [Hx1.out] at hS
              obtain ⟨⟨p0, p1, p2, p3, p4, p5, p6⟩, q0, q1, q2, q3, q4, q5, q6⟩ := hS.out wr (Below.refl _ _)
              have hmI : (m : Int) < c.length := by omega
              have hm0 : (0 : Int) ≤ m := by omega
              clear hy j1 j2 hA' hB' hV Hm
              cases hyy : y.1 with
              | true =>
                rw [hyy] at q0 hS
                have Hn := hide (Hst2.out.1 (by rw [HQy.out, hyy]; rfl))
                clear hyy Hst2 HQy HSS
                go_wp2_with fail
                go_quiet (fail)
                go_wp2_with fail
                go_roundw
                case rel => exact ⟨m + 1, by omega, by go_num, Hn, hide (below_drewN Hbi.out _)⟩
                case measure => simp [intOf]; omega
              | false =>
                rw [hyy] at q0 hS
                have HQy' : Hid (Q y = V) := by show _ = _; rw [HQy.out, hyy]; rfl
                clear hyy HQy
                go_wp2_with fail
                go_region_held3 (fun w' => (w'.cell? ⟨b, off + k * 7, none⟩ = some (.bool true) ∧ w'.cell? ⟨b, off + k * 7 + 1, none⟩ = some (.int .i64 x.2.1.v) ∧ w'.cell? ⟨b, off + k * 7 + 2, none⟩ = some (.int .i64 x.2.1.f) ∧ w'.cell? ⟨b, off + k * 7 + 3, none⟩ = some (.slice a1 x.2.1.args.length c1) ∧ w'.cell? ⟨b, off + k * 7 + 4, none⟩ = some (.int .i64 x.2.2.v) ∧ w'.cell? ⟨b, off + k * 7 + 5, none⟩ = some (.int .i64 x.2.2.f) ∧ w'.cell? ⟨b, off + k * 7 + 6, none⟩ = some (.slice a2 x.2.2.args.length c2)) ∧ w'.cell? ⟨b, off + m * 7, none⟩ = some (.bool false) ∧ w'.cell? ⟨b, off + m * 7 + 1, none⟩ = some (.int .i64 y.2.1.v) ∧ w'.cell? ⟨b, off + m * 7 + 2, none⟩ = some (.int .i64 y.2.1.f) ∧ w'.cell? ⟨b, off + m * 7 + 3, none⟩ = some (.slice b1 y.2.1.args.length d1) ∧ w'.cell? ⟨b, off + m * 7 + 4, none⟩ = some (.int .i64 y.2.2.v) ∧ w'.cell? ⟨b, off + m * 7 + 5, none⟩ = some (.int .i64 y.2.2.f) ∧ w'.cell? ⟨b, off + m * 7 + 6, none⟩ = some (.slice b2 y.2.2.args.length d2)) ((first | (refine hS.out _ ?_; (repeat' (first | with_reducible exact Hid.out ‹Hid (Below _ _ _)› | with_reducible exact Below.refl _ _ | (with_reducible refine Below.drew ?_))); done) | go_keep)) ((first
                  | (go_at_call 53
                     with_reducible refine (HSS.out _ ?_).mono ?_
                     · (repeat' (first | with_reducible exact Below.refl _ _ | (with_reducible refine Below.drew ?_)))
                     rintro e xB ⟨rfl, hbB⟩
                     have HxB : Hid (Below wr.heap.size wr xB) := by
                       refine Below.trans (b := _) ?_ (hbB.mono ?_)
                       · (repeat' (first | with_reducible exact Below.refl _ _ | (with_reducible refine Below.drew ?_)))
                       · first | omega | (simp; omega) | (simp; done)
                     clear hbB)))
                have Hbn := hide (Hbi.out.trans (HxB.out.mono Hbi.out.size))
                cases V with
                | true =>
                  have Hn := hide (Hst.out.2 (by rw [HPx'.out]; exact Hst2.out.2 HQy'.out))
                  have Hf := hide (HbA.out.trans (Hbn.out.mono HbA.out.size))
                  go_wp2_with fail
                  go_ret
                  exact ⟨ret_bool (by rw [Hn.out]), Hf.out⟩
                | false =>
                  have Hn := hide (Hst2.out.1 HQy'.out)
                  go_wp2_with fail
                  go_roundw
                  case rel => exact ⟨m + 1, by omega, by go_num, Hn, Hbn⟩
                  case measure => simp [intOf]; omega
            · have hm2 : m = c.length := by omega
              subst hm2
              rw [List.take_length] at Hm
              have Hn := hide (Hst.out.1 (by rw [HPx'.out]; exact Hm.out))
              go_wp2_with fail
              go_roundw
              case rel => exact ⟨k + 1, by omega, by go_num, Hn, HbW⟩
              case measure => simp [intOf]; omega
    · have hk2 : k = c.length := by omega
      subst hk2
      rw [List.take_length] at Hk
      go_wp2_with fail
      go_ret
      exact ⟨ret_bool (by rw [Hk.out]), Hb.out⟩
end Go.Proofs.YtbkedppkdhfpoabGreat

namespace Go.Proofs.YtbkedppkdhfpoabGreat
open Go.RowKit

/-- What is appended: nothing, or the cells that lie at an address. -/
def SrcB (w : World) (x : Value) (m : Nat) (news : List Value) : Prop :=
  (x = .slice none 0 0 ∧ m = 0 ∧ news = []) ∨ ∃ b off c, x = .slice (some ⟨b, off, none⟩) m c ∧ news.length = m * 4 ∧ (∀ j u, news[j]? = some u → w.cell? ⟨b, off + j, none⟩ = some u) ∧ ∀ u, u ∈ news → u.oneCell' = true
theorem run_append_v {w : World} {base n m : Nat} {v x : Value} {xs news : List Value} (ty : TypeId) (hown : w.ownsRow base 93 4 v n xs) (hx : SrcB w x m news) (hl : n + m ≤ 200000) (hbase : base ≤ w.heap.size) :
    ∃ v' w', (Builtin.append_ #[91, 91] ty #[v, x]).run Tryz.prog w = .ok v' w' ∧ w'.ownsRow base 93 4 v' (n + m) (xs ++ news) ∧ w.grownBy w' v.ownBlock ∧ (v'.ownBlock = v.ownBlock ∨ v'.ownBlock = some w.heap.size) := by
  obtain ⟨i, hi, hzz⟩ := Option.map_eq_some_iff.1 Tryz.info93
  simp only [Prod.mk.injEq] at hzz
  obtain ⟨hz0, hz1, hz2⟩ := hzz
  rcases hx with ⟨rfl, rfl, rfl⟩ | ⟨b, off, c, rfl, hl2, hc, h1⟩
  · rw [List.append_nil]
    exact ⟨v, w, run_append_owned_none (P := Tryz.prog) w base 91 ty 93 i 4 Tryz.underlying91 hi _ _ _ hown, hown, ⟨rfl, rfl, rfl, Nat.le_refl _, fun _ _ _ => rfl⟩, Or.inl rfl⟩
  · obtain ⟨v', w', hr, h2, h3, _, h5⟩ := run_append_own_at (P := Tryz.prog) w base 91 ty 93 i (.agg #[.int .i64 0, .int .i64 0, .int .i64 0, .slice none 0 0]) 4 48 Tryz.underlying91 hi hz0 hz1 hz2 rfl (by decide) v n xs hown ⟨b, off, none⟩ m c news hl2 (fun j u hu => by
        have e : (⟨b, off, none⟩ : Addr).add j = ⟨b, off + j, none⟩ := by simp [Addr.add]
        rw [e]; exact hc j u hu) h1 (by unfold maxLen; omega) (by omega) hbase
    exact ⟨v', w', hr, h2, h3, h5⟩
theorem wp_append_v {w : World} {o : Oper} {a : Act} {K : Act → World → Prop} {Q : Exit → Act → World → Prop} (s x : Operand) (ho : o.op = .call { callee := .builtin .append, args := #[s, x], argTypes := #[91, 91] })
    (base n m : Nat) (v : Value) (xs news : List Value) (hs : a.eval s = v) (hown : w.ownsRow base 93 4 v n xs) (xv : Value) (hx : a.eval x = xv) (hsrc : SrcB w xv m news) (hl : n + m ≤ 200000) (hbase : base ≤ w.heap.size)
    (h : ∀ v' w', w'.ownsRow base 93 4 v' (n + m) (xs ++ news) → w.grownBy w' v.ownBlock → (v'.ownBlock = v.ownBlock ∨ v'.ownBlock = some w.heap.size) → K (a.put o.dst v') w') : o.wp Tryz.prog a w K Q := by
  obtain ⟨v', w', hr, h2, h3, h4⟩ := run_append_v o.type hown hsrc hl hbase
  unfold Oper.wp execOp
  simp only [ho, resolve, invoke, builtin, Sem.run_bind, Sem.run_pure, Result.andThen_ok, List.map_toArray, List.map_cons, List.map_nil, hs, hx, hr]
  exact h v' w' h2 h3 h4
theorem step_append_v {w : World} {ops : Array Oper} {o : Oper} {a : Act} {K : Act → World → Prop} {Q : Exit → Act → World → Prop} {E : Prop} (hgd : o.guard = none) (s x : Operand) (ho : o.op = .call { callee := .builtin .append, args := #[s, x], argTypes := #[91, 91] })
    (base n m : Nat) (v : Value) (xs news : List Value) (hs : a.eval s = v) (hown : w.ownsRow base 93 4 v n xs) (xv : Value) (hx : a.eval x = xv) (hsrc : SrcB w xv m news) (hl : n + m ≤ 200000) (hbase : base ≤ w.heap.size)
    (h : ∀ v' w', w'.ownsRow base 93 4 v' (n + m) (xs ++ news) → w.grownBy w' v.ownBlock → (v'.ownBlock = v.ownBlock ∨ v'.ownBlock = some w.heap.size) → K (a.put o.dst v') w') :
    if Region.wanted o (yielded ops a.tmps) = true then Oper.wp Tryz.prog o a w K Q else E := by
  have hw : Region.wanted o (yielded ops a.tmps) = true := by simp [Region.wanted, hgd]
  rw [if_pos hw]
  exact wp_append_v s x ho base n m v xs news hs hown xv hx hsrc hl hbase h

/-- The cells of bindings that lie at an address. -/
theorem Binds_cells {p : Nat → Prop} {w : World} : ∀ {bs : List (Int × T)} {b off : Nat}, Binds p w bs (some ⟨b, off, none⟩) → ∃ cs, KidsB p w bs cs ∧ cs.length = bs.length * 4 ∧ (∀ j u, cs[j]? = some u → w.cell? ⟨b, off + j, none⟩ = some u) ∧ ∀ u, u ∈ cs → u.oneCell' = true := by
  intro bs
  induction bs with
  | nil => intro b off _; exact ⟨[], rfl, rfl, fun j u h => by simp at h, fun u h => by cases h⟩
  | cons x bs ih =>
    intro b off h
    obtain ⟨b', off', a1, cap, hb, hp, h0, h1, h2, h3, hin, hr⟩ := h
    simp only [Option.some.injEq, Addr.mk.injEq] at hb
    obtain ⟨rfl, rfl, _⟩ := hb
    obtain ⟨cs, k1, k2, k3, k4⟩ := ih hr
    refine ⟨_, ⟨a1, cap, cs, rfl, hin, k1⟩, by simp [k2]; omega, fun j u hu => ?_, fun u hu => ?_⟩
    · rcases j with _ | _ | _ | _ | j
      · simp at hu; rw [← hu]; exact h0
      · simp at hu; rw [← hu]; exact h1
      · simp at hu; rw [← hu]; exact h2
      · simp at hu; rw [← hu]; exact h3
      · simp at hu
        rw [show off + (j + 1 + 1 + 1 + 1) = off + 4 + j by omega]
        exact k3 j u hu
    · simp only [List.mem_cons] at hu
      rcases hu with rfl | rfl | rfl | rfl | hu
      · rfl
      · rfl
      · rfl
      · rfl
      · exact k4 u hu
/-- A slice is nil, or begins at a cell. -/
def Shape (ba : Option Addr) (bc : Nat) : Prop := (ba = none ∧ bc = 0) ∨ ∃ b off, ba = some ⟨b, off, none⟩
theorem Binds_src {p : Nat → Prop} {w : World} {bs : List (Int × T)} {ba : Option Addr} {bc : Nat} (h : Binds p w bs ba) (hn : Shape ba bc) : ∃ cs, KidsB p w bs cs ∧ SrcB w (.slice ba bs.length bc) bs.length cs := by
  rcases hn with ⟨rfl, rfl⟩ | ⟨b, off, rfl⟩
  · have hb : bs = [] := by
      cases bs with
      | nil => rfl
      | cons x bs => obtain ⟨_, _, _, _, e, _⟩ := h; cases e
    subst hb
    exact ⟨[], rfl, Or.inl ⟨rfl, rfl, rfl⟩⟩
  · obtain ⟨cs, k1, k2, k3, k4⟩ := Binds_cells h
    exact ⟨cs, k1, Or.inr ⟨b, off, bc, rfl, k2, k3, k4⟩⟩
theorem SrcB.below {w w' : World} {x : Value} {m : Nat} {news : List Value} (h : SrcB w x m news) (hb : Below w.heap.size w w') : SrcB w' x m news := by
  rcases h with h | ⟨b, off, c, h1, h2, h3, h4⟩
  · exact Or.inl h
  · exact Or.inr ⟨b, off, c, h1, h2, fun j u hu => cell_below hb (h3 j u hu), h4⟩

end Go.Proofs.YtbkedppkdhfpoabGreat

namespace Go.Proofs.YtbkedppkdhfpoabGreat
open Go.RowKit

theorem newB {base n : Nat} {w : World} (h : w.heap[n]? = some (.cells #[] 93)) (hb : base ≤ n) : w.ownsRow base 93 4 (.slice (some ⟨n, 0, none⟩) 0 0) 0 [] :=
  ⟨by simp, Or.inr ⟨n, 0, #[], rfl, hb, h, by simp, by decide, by simp, by simp⟩⟩
theorem newB1 (w : World) (o : Obj) : (w.alloc o).drew.heap[w.heap.size]? = some o := heap_alloc_new w o
theorem newB2 (w : World) (o o2 : Obj) : ((w.alloc o).alloc o2).drew.heap[w.heap.size]? = some o := (Below.heap_alloc (w.alloc o) o2 w.heap.size (by simp)).trans (heap_alloc_new w o)
theorem newB3 (w : World) (o o2 : Obj) : ((w.alloc o2).alloc o).drew.heap[w.heap.size + 1]? = some o := by
  have h := heap_alloc_new (w.alloc o2) o
  rw [World.size_alloc] at h
  exact h
/-- One binding in a block of its own. -/
theorem src_b {w : World} {n : Nat} {v a b : Int} {s : Value} (h : w.heap[n]? = some (.cells #[.int .i64 v, .int .i64 a, .int .i64 b, s] 93)) (hs : s.oneCell' = true) : SrcB w (.slice (some ⟨n, 0, none⟩) 1 1) 1 [.int .i64 v, .int .i64 a, .int .i64 b, s] :=
  Or.inr ⟨n, 0, 1, rfl, rfl, fun j u hu => by
    unfold World.cell?
    rw [h]
    simpa using hu, fun u hu => by
    simp only [List.mem_cons, List.not_mem_nil, or_false] at hu
    rcases hu with rfl | rfl | rfl | rfl
    · rfl
    · rfl
    · rfl
    · exact hs⟩

theorem fin_b {Q : Nat → Prop} {W2 w8 : World} {bs : List (Int × T)} {cs : List Value} {v : Int} {t : T} {ta : Option Addr} {tc : Nat} {v8 : Value} (hQ : ∀ k, W2.heap.size ≤ k → Q k) (hk : KidsB (fun k => Q k ∧ k < W2.heap.size) W2 bs cs) (ht : InP Q W2 t.args ta) (hb : Below W2.heap.size W2 w8) (hown : w8.ownsRow W2.heap.size 93 4 v8 (bs.length + 1) (cs ++ [.int .i64 v, .int .i64 t.v, .int .i64 t.f, .slice ta t.args.length tc])) :
    ∃ g cap, v8 = .slice (some ⟨g, 0, none⟩) (bs.length + 1) cap ∧ Binds Q w8 (bs ++ [(v, t)]) (some ⟨g, 0, none⟩) := by
  obtain ⟨g, cap, rfl, hg, _, hc⟩ := own_cellsN hown (by omega)
  refine ⟨g, cap, rfl, KidsB_in (hQ g hg) (KidsB_append (KidsB_mono (fun k hq hk => ⟨hq.1, hb.block k hk⟩) hk) ⟨ta, tc, [], rfl, InP_below hb ht, rfl⟩) (fun j u hu => by rw [Nat.zero_add]; exact hc j u hu)⟩
/-- Growing keeps a bound on what is bound. -/
theorem grow_sz (M : Nat) : ∀ (n : Nat), (∀ (p t : T) (bs b2 : List (Int × T)), p.sz ≤ n → t.sz ≤ M → growT p t bs = some b2 → (∀ v u, (v, u) ∈ bs → u.sz ≤ M) → (∀ v u, (v, u) ∈ b2 → u.sz ≤ M)) ∧
    (∀ (ps ts : List T) (bs b2 : List (Int × T)), T.sz.szL ps ≤ n → T.sz.szL ts ≤ M → growT.growL ps ts bs = some b2 → (∀ v u, (v, u) ∈ bs → u.sz ≤ M) → (∀ v u, (v, u) ∈ b2 → u.sz ≤ M)) := by
  intro n
  induction n with
  | zero =>
    refine ⟨fun p t bs b2 h => by have := p.sz_pos; omega, fun ps ts bs b2 h _ hg hk => ?_⟩
    cases ps with
    | nil =>
      cases ts with
      | nil => simp [growT.growL] at hg; rw [← hg]; exact hk
      | cons t ts => cases hg
    | cons p ps => have := p.sz_pos; rw [T.szL_cons] at h; omega
  | succ n ih =>
    have h1 : ∀ (p t : T) (bs b2 : List (Int × T)), p.sz ≤ n + 1 → t.sz ≤ M → growT p t bs = some b2 → (∀ v u, (v, u) ∈ bs → u.sz ≤ M) → (∀ v u, (v, u) ∈ b2 → u.sz ≤ M) := fun p t bs b2 h ht hg hk => by
      have hpe := T.sz_eq p
      have hte := T.sz_eq t
      rw [growT_eq] at hg
      by_cases hv : p.v ≠ 0
      · rw [if_pos hv] at hg
        cases hl : lookB bs p.v with
        | some u =>
          rw [hl] at hg
          by_cases hs : sameT u t = true
          · simp only [hs, if_true, Option.some.injEq] at hg
            rw [← hg]; exact hk
          · simp [hs] at hg
        | none =>
          rw [hl] at hg
          simp only [Option.some.injEq] at hg
          rw [← hg]
          intro v u hm
          rcases List.mem_append.1 hm with hm | hm
          · exact hk v u hm
          · simp at hm; rw [hm.2]; exact ht
      · rw [if_neg hv] at hg
        by_cases hc : t.v ≠ 0 ∨ p.f ≠ t.f
        · rw [if_pos hc] at hg; cases hg
        · rw [if_neg hc] at hg
          exact ih.2 p.args t.args bs b2 (by omega) (by omega) hg hk
    refine ⟨h1, fun ps => ?_⟩
    induction ps with
    | nil =>
      intro ts bs b2 _ _ hg hk
      cases ts with
      | nil => simp [growT.growL] at hg; rw [← hg]; exact hk
      | cons t ts => cases hg
    | cons p ps iht =>
      intro ts bs b2 h ht hg hk
      rw [T.szL_cons] at h
      cases ts with
      | nil => cases hg
      | cons t ts =>
        rw [T.szL_cons] at ht
        rw [growL_cons] at hg
        cases hgt : growT p t bs with
        | none => rw [hgt] at hg; cases hg
        | some b3 =>
          rw [hgt] at hg
          exact iht ts b3 b2 (by omega) (by omega) hg (h1 p t bs b3 (by omega) (by omega) hgt hk)
theorem szL_take_le (ts : List T) (k : Nat) : T.sz.szL (ts.take k) ≤ T.sz.szL ts := by
  have h := T.szL_append (ts.take k) (ts.drop k)
  rw [List.take_append_drop] at h; omega

/-- What Grow hands back. -/
def GrowsTo (Q : Nat → Prop) (p t : T) (bs : List (Int × T)) (e : Ending) (w' : World) : Prop :=
  ∃ a' n' c', e = .returned (.tuple #[.slice a' n' c', .bool (growT p t bs).isSome]) ∧ ∀ b2, growT p t bs = some b2 → n' = b2.length ∧ Shape a' c' ∧ Binds Q w' b2 a'

attribute [local go_sem ↓] Go.wp_at_zero Go.wp_at_succ
set_option maxRecDepth 100000 in
set_option maxHeartbeats 2000000 in
theorem grow_any (Q : Nat → Prop) (M : Nat) (hQ : ∀ k, M ≤ k → Q k) (ar : List Int) (N : Nat) : ∀ (p t : T) (pa : Option Addr) (pc : Nat) (ta : Option Addr) (tc : Nat) (bs : List (Int × T)) (ba : Option Addr) (bc : Nat) (w : World), M ≤ w.heap.size → p.sz < N → bs.length + p.sz ≤ 100000 → okP ar p → okP ar t → t.sz ≤ 1000 → (∀ v u, (v, u) ∈ bs → u.sz ≤ 1000) → Shape ba bc → Binds Q w bs ba → InL w p.args pa → InP Q w t.args ta →
    Calls Tryz.prog 58 #[.slice ba bs.length bc, .agg #[.int .i64 p.v, .int .i64 p.f, .slice pa p.args.length pc], .agg #[.int .i64 t.v, .int .i64 t.f, .slice ta t.args.length tc]] w fun e w' => GrowsTo Q p t bs e w' ∧ Below w.heap.size w w' := by
  induction N with
  | zero => intro p t pa pc ta tc bs ba bc w _ hN; omega
  | succ N ih =>
    intro p t pa pc ta tc bs ba bc w hM hN h1000 hop hot ht hbz hsh hbs hin hin2
    have Hih := hide ih
    have hpe := T.sz_eq p
    have hte := T.sz_eq t
    have hpv := okP_v hop
    have htv := okP_v hot
    obtain ⟨W2, hW2⟩ : ∃ W2, W2 = ((w.alloc (.cells #[.int .i64 p.v, .int .i64 p.f, .slice pa p.args.length pc] 77)).alloc (.cells #[.int .i64 t.v, .int .i64 t.f, .slice ta t.args.length tc] 77)) := ⟨_, rfl⟩
    have hP3 : Hid (Three W2 w.heap.size (.int .i64 p.v) (.int .i64 p.f) (.slice pa p.args.length pc)) := by rw [hW2]; exact (Three.new 77 rfl).alloc _
    have hT3 : Hid (Three W2 (w.heap.size + 1) (.int .i64 t.v) (.int .i64 t.f) (.slice ta t.args.length tc)) := by rw [hW2]; exact Three.new 77 (by simp)
    have hWb : Hid (Below w.heap.size w W2) := by rw [hW2]; exact below2 _ _ _
    have hz2 : w.heap.size + 2 ≤ W2.heap.size := by rw [hW2]; simp
    have HW2 := hide hW2
    have Hbs := hide (Binds_below hWb.out hbs)
    have Hin := hide (InP_below hWb.out hin)
    have Hin2 := hide (InP_below hWb.out hin2)
    have Hbz := hide hbz
    have Hsh := hide hsh
    obtain ⟨c0, c1, c2, _, _, _⟩ := hP3.out
    obtain ⟨d0, d1, d2, _, _, _⟩ := hT3.out
    clear ih hW2 hbs hin hin2 hbz hsh hP3 hT3
    have hbl : bs.length ≤ 100000 := by omega
    by_cases hv : 0 < p.v
    · have hv' : p.v ≠ 0 := by omega
      have HB := hide (boundTo_any bs ba bc p.v W2 Q (by omega) Hbs.out)
      cases hlk : lookB bs p.v with
      | some u =>
        obtain ⟨m, hm1, hm2, hm3⟩ := idxB_some (n := 0) hlk
        rw [Nat.zero_add] at hm1
        have husz := Hbz.out _ _ (lookB_mem hlk)
        have Hfin : Hid (growT p t bs = if sameT u t then some bs else none) := by show _ = _; rw [growT_eq, if_pos hv', hlk]
        rw [hm1] at HB
        obtain ⟨b, off, rfl⟩ := Binds_some Hbs.out (by omega)
        obtain ⟨a6, cap6, _, e0, e1, e2, e3, hin6⟩ := Binds_at Hbs.out hm3
        have hmI : (m : Int) < bs.length := by omega
        have hm0 : (0 : Int) ≤ m := by omega
        have q1 : off + m * 4 + 1 + 1 = off + m * 4 + 2 := by omega
        have q2 : off + m * 4 + 1 + 2 = off + m * 4 + 3 := by omega
        rw [← q1] at e2
        rw [← q2] at e3
        have HSm := hide (fun (w' : World) (hb : Below W2.heap.size W2 w') => sameTerm_any 1001 u t a6 cap6 ta tc w' (by omega) husz (InP_imp (fun _ _ => trivial) (InP_below hb hin6)) (InP_imp (fun _ _ => trivial) (InP_below hb Hin2.out)))
        have hS := hide (fun (w' : World) (hb : Below W2.heap.size W2 w') => (show w'.cell? ⟨b, off + m * 4 + 1, none⟩ = some (.int .i64 u.v) ∧ w'.cell? ⟨b, off + m * 4 + 1 + 1, none⟩ = some (.int .i64 u.f) ∧ w'.cell? ⟨b, off + m * 4 + 1 + 2, none⟩ = some (.slice a6 u.args.length cap6) ∧ w'.cell? ⟨w.heap.size + 1, 0, none⟩ = some (.int .i64 t.v) ∧ w'.cell? ⟨w.heap.size + 1, 1, none⟩ = some (.int .i64 t.f) ∧ w'.cell? ⟨w.heap.size + 1, 2, none⟩ = some (.slice ta t.args.length tc) from ⟨cell_below hb e1, cell_below hb e2, cell_below hb e3, cell_below hb d0, cell_below hb d1, cell_below hb d2⟩))
        clear hlk hm1 hm3 hin6 q1 q2 Hih hop hot Hin Hin2 hv' e0
        go_enter Tryz.func58, Tryz.ntmps58
        go_upto_region 4 with (go_at_call 121; rw [← HW2.out]; refine HB.out.mono ?_; rintro e w' ⟨rfl, hw'⟩; obtain rfl := hw'.symm; clear hw')
        go_region_held3 (fun w' => w'.cell? ⟨b, off + m * 4 + 1, none⟩ = some (.int .i64 u.v) ∧ w'.cell? ⟨b, off + m * 4 + 1 + 1, none⟩ = some (.int .i64 u.f) ∧ w'.cell? ⟨b, off + m * 4 + 1 + 2, none⟩ = some (.slice a6 u.args.length cap6) ∧ w'.cell? ⟨w.heap.size + 1, 0, none⟩ = some (.int .i64 t.v) ∧ w'.cell? ⟨w.heap.size + 1, 1, none⟩ = some (.int .i64 t.f) ∧ w'.cell? ⟨w.heap.size + 1, 2, none⟩ = some (.slice ta t.args.length tc)) ((first | (refine hS.out _ ?_; (repeat' (first | with_reducible exact Hid.out ‹Hid (Below _ _ _)› | with_reducible exact Below.refl _ _ | (with_reducible refine Below.drew ?_))); done) | go_keep)) ((first
          | (go_at_call 52
             with_reducible refine (HSm.out _ ?_).mono ?_
             · (repeat' (first | with_reducible exact Hid.out ‹Hid (Below _ _ _)› | with_reducible exact Below.refl _ _ | (with_reducible refine Below.drew ?_)))
             rintro e xA ⟨rfl, hbA⟩
             have HxA : Hid (Below W2.heap.size W2 xA) := by
               refine Below.trans (b := _) ?_ (hbA.mono ?_)
               · (repeat' (first | with_reducible exact Hid.out ‹Hid (Below _ _ _)› | with_reducible exact Below.refl _ _ | (with_reducible refine Below.drew ?_)))
               · first | omega | (simp; omega) | (simp; done))))
        all_goals (go_wp2_with fail; go_ret2)
        all_goals (
          refine ⟨⟨_, _, _, (by rw [Hfin.out]; cases sameT u t <;> rfl), fun b2 h => ?_⟩, hWb.out.trans (HxA.out.mono (by omega))⟩
          rw [Hfin.out] at h
          cases hs : sameT u t with
          | true => rw [hs] at h; simp at h; rw [← h]; exact ⟨rfl, Hsh.out, Binds_below HxA.out Hbs.out⟩
          | false => rw [hs] at h; simp at h)
      | none =>
        have Hfin : Hid (growT p t bs = some (bs ++ [(p.v, t)])) := by show _ = _; rw [growT_eq, if_pos hv', hlk]
        rw [idxB_none hlk] at HB
        obtain ⟨cs, hkb, hsrc⟩ := Binds_src Hbs.out Hsh.out
        have HKB := hide (KidsB_mono (w := W2) (w' := W2) (p := Q) (q := fun k => Q k ∧ k < W2.heap.size) (fun k hq hk => ⟨⟨hq, hk⟩, rfl⟩) hkb)
        have HSrc := hide (fun (w' : World) (hb : Below W2.heap.size W2 w') => hsrc.below hb)
        have hS := hide (fun (w' : World) (hb : Below W2.heap.size W2 w') => (show w'.cell? ⟨w.heap.size, 0, none⟩ = some (.int .i64 p.v) ∧ w'.cell? ⟨w.heap.size + 1, 0, none⟩ = some (.int .i64 t.v) ∧ w'.cell? ⟨w.heap.size + 1, 1, none⟩ = some (.int .i64 t.f) ∧ w'.cell? ⟨w.heap.size + 1, 2, none⟩ = some (.slice ta t.args.length tc) from ⟨cell_below hb c0, cell_below hb d0, cell_below hb d1, cell_below hb d2⟩))
        clear hlk hv' Hih hop hot Hin hkb hsrc
        go_enter Tryz.func58, Tryz.ntmps58
        go_upto_region 5 with (go_at_call 121; rw [← HW2.out]; refine HB.out.mono ?_; rintro e w' ⟨rfl, hw'⟩; obtain rfl := hw'.symm; clear hw')
        go_region_held3 (fun w' => w'.cell? ⟨w.heap.size, 0, none⟩ = some (.int .i64 p.v) ∧ w'.cell? ⟨w.heap.size + 1, 0, none⟩ = some (.int .i64 t.v) ∧ w'.cell? ⟨w.heap.size + 1, 1, none⟩ = some (.int .i64 t.f) ∧ w'.cell? ⟨w.heap.size + 1, 2, none⟩ = some (.slice ta t.args.length tc)) ((first | (refine hS.out _ ?_; (repeat' (first | with_reducible exact Hid.out ‹Hid (Below _ _ _)› | with_reducible exact Below.refl _ _ | (with_reducible refine Below.drew ?_) | (refine Below.alloc ?_ ?_ _; rotate_left; focus (first | omega | (simp; omega) | (simp; done))))); done) | go_keep)) ((first
          | (first
               | refine step_append_v (by rfl) (.tmp 31) (.tmp 36) (by rfl) W2.heap.size bs.length 1 v7 cs [.int .i64 p.v, .int .i64 t.v, .int .i64 t.f, .slice ta t.args.length tc] (by rfl) ?_ (.slice (some ⟨w7.heap.size, 0, none⟩) 1 1) (by rfl) (src_b ?_ rfl) (by omega) ?_ ?_
               | refine step_append_v (by rfl) (.tmp 31) (.tmp 36) (by rfl) W2.heap.size bs.length 1 v7 cs [.int .i64 p.v, .int .i64 t.v, .int .i64 t.f, .slice ta t.args.length tc] (by rfl) ?_ (.slice (some ⟨W2.heap.size, 0, none⟩) 1 1) (by rfl) (src_b ?_ rfl) (by omega) ?_ ?_
               | refine step_append_v (by rfl) (.tmp 31) (.tmp 36) (by rfl) W2.heap.size bs.length 1 v7 cs [.int .i64 p.v, .int .i64 t.v, .int .i64 t.f, .slice ta t.args.length tc] (by rfl) ?_ (.slice (some ⟨W2.heap.size + 1, 0, none⟩) 1 1) (by rfl) (src_b ?_ rfl) (by omega) ?_ ?_
             · first | exact Hown7.out | exact own_same Hown7.out (fun g hg => (below1 w7 _).block g (own_lt Hown7.out g hg).2)
             · first | exact heap_alloc_new _ _ | exact (hgr7.block W2.heap.size (by simp; omega) (by simp [Value.ownBlock])).trans (newB2 _ _ _) | exact (hgr7.block (W2.heap.size + 1) (by first | (simp; done) | (simp; omega)) (by simp [Value.ownBlock])).trans (newB3 _ _ _)
             · first | exact hz7 | (simp; omega)
             intro v8 w8 hown8 hgr8 hat8
             have Hown8 := hide hown8
             have H8 : Hid (Below W2.heap.size W2 w8) := by
               refine Below.grown ?_ hgr8 (by first | exact hz7 | (simp; omega)) (fun k' hk' => (own_lt Hown7.out k' hk').1)
               (repeat' (first | with_reducible exact Hid.out ‹Hid (Below _ _ _)› | with_reducible exact Below.refl _ _ | (with_reducible refine Below.drew ?_) | (refine Below.alloc ?_ ?_ _; rotate_left; focus (first | omega | (simp; omega) | (simp; done)))))
             clear hown8 hgr8 hat8)
          | (first
               | refine step_append_v (by rfl) (.tmp 29) (.tmp 30) (by rfl) W2.heap.size 0 bs.length (.slice (some ⟨W2.heap.size, 0, none⟩) 0 0) [] cs (by rfl) ?_ (.slice ba bs.length bc) (by rfl) (HSrc.out _ ?_) (by omega) ?_ ?_
               | refine step_append_v (by rfl) (.tmp 29) (.tmp 30) (by rfl) W2.heap.size 0 bs.length (.slice (some ⟨W2.heap.size + 1, 0, none⟩) 0 0) [] cs (by rfl) ?_ (.slice ba bs.length bc) (by rfl) (HSrc.out _ ?_) (by omega) ?_ ?_
             · exact newB (by first | exact newB1 _ _ | exact newB2 _ _ _ | exact newB3 _ _ _ | exact heap_alloc_new _ _) (by omega)
             · (repeat' (first | with_reducible exact Hid.out ‹Hid (Below _ _ _)› | with_reducible exact Below.refl _ _ | (with_reducible refine Below.drew ?_) | (refine Below.alloc ?_ ?_ _; rotate_left; focus (first | omega | (simp; omega) | (simp; done)))))
             · first | (simp; done) | (simp; omega)
             intro v7 w7 hown7 hgr7 hat7
             have Hown7 : Hid (w7.ownsRow W2.heap.size 93 4 v7 bs.length cs) := by simpa [Hid] using hown7
             have H7 : Hid (Below W2.heap.size W2 w7) := by
               refine Below.grown ?_ hgr7 (by first | (simp; done) | (simp; omega)) (fun k' hk' => by simp [Value.ownBlock] at hk'; omega)
               (repeat' (first | with_reducible exact Hid.out ‹Hid (Below _ _ _)› | with_reducible exact Below.refl _ _ | (with_reducible refine Below.drew ?_) | (refine Below.alloc ?_ ?_ _; rotate_left; focus (first | omega | (simp; omega) | (simp; done)))))
             have hz7 := H7.out.size
             clear hown7 hat7)))
        all_goals (
          obtain ⟨g9, cap9, rfl, hbin⟩ := fin_b (fun k hk => hQ k (by omega)) HKB.out Hin2.out H8.out Hown8.out
          have Hbin := hide hbin
          clear hbin Hown8
          go_wp2_with fail
          go_ret2
          exact ⟨⟨some ⟨g9, 0, none⟩, bs.length + 1, cap9, (by rw [Hfin.out]; rfl), fun b2 h => (by rw [Hfin.out] at h; cases h; exact ⟨(by simp), Or.inr ⟨g9, 0, rfl⟩, Hbin.out⟩)⟩, hWb.out.trans (H8.out.mono (by omega))⟩)
    · have hv0 : p.v = 0 := by omega
      have hng : ∀ (P : Prop), (t.v ≠ 0 ∨ p.f ≠ t.f ∨ p.args.length ≠ t.args.length) → growT p t bs = none := fun _ h => by
        rw [growT_eq, if_neg (by simp [hv0])]
        by_cases h1 : t.v ≠ 0 ∨ p.f ≠ t.f
        · rw [if_pos h1]
        · rw [if_neg h1]
          exact growL_length (by rcases h with h | h | h; exact absurd (Or.inl h) h1; exact absurd (Or.inr h) h1; exact h)
      by_cases h1 : 0 < t.v
      · have Hfin := hide (hng True (Or.inl (by omega)))
        clear hng Hih hop hot
        go_enter Tryz.func58, Tryz.ntmps58
        go_wp2_with fail
        go_ret2
        exact ⟨⟨_, _, _, (by rw [Hfin.out]; rfl), fun b2 h => (by rw [Hfin.out] at h; cases h)⟩, below2 _ _ _⟩
      · by_cases h2 : p.f = t.f
        · have e2 : (p.f != t.f) = false := by simpa using h2
          by_cases h3 : p.args.length = t.args.length
          · have e3 : ((p.args.length : Int) != t.args.length) = false := by simp; omega
            have Hfin : Hid (growT p t bs = growT.growL p.args t.args bs) := by show _ = _; rw [growT_eq, if_neg (by simp [hv0]), if_neg (by simp [h2]; omega)]
            have H3 := hide h3
            have Hop := hide hop
            have Hot := hide hot
            have hpl := T.length_le p.args
            clear hng h2 h3 hv0 hop hot
            go_enter Tryz.func58, Tryz.ntmps58
            go_wp2_with fail
            rw [← HW2.out]
            go_loopw [0, 9] (fun b0 i wr => ∃ (k : Nat) (bk : List (Int × T)) (ak : Option Addr) (ck : Nat), k ≤ p.args.length ∧ i = .int .i64 k ∧ b0 = .slice ak bk.length ck ∧ Hid (growT.growL (p.args.take k) (t.args.take k) bs = some bk) ∧ Hid (Shape ak ck) ∧ Hid (Binds Q wr bk ak) ∧ Hid (Below W2.heap.size W2 wr)) (fun _ i _ => p.args.length - (intOf i).toNat)
            case atStart => exact ⟨0, bs, ba, bc, Nat.zero_le _, rfl, rfl, rfl, Hsh.out, Hbs.out, Below.refl _ _⟩
            case round =>
              obtain ⟨k, bk, ak, ck, hk, rfl, rfl, HL, HSk, HBk, Hbr⟩ := hrel
              have hzr := Hbr.out.size
              have q0 := cell_below Hbr.out c2
              have q1 := cell_below Hbr.out d2
              by_cases hlt : k < p.args.length
              · have hlt2 : k < t.args.length := by have := H3.out; omega
                have hinr := InP_below Hbr.out Hin.out
                have hinr2 := InP_below Hbr.out Hin2.out
                obtain ⟨b1, off1, rfl⟩ := InP_some hinr (by omega)
                obtain ⟨b2, off2, rfl⟩ := InP_some hinr2 (by omega)
                obtain ⟨x, hx⟩ : ∃ x, p.args[k]? = some x := ⟨p.args[k], List.getElem?_eq_getElem hlt⟩
                obtain ⟨y, hy⟩ : ∃ y, t.args[k]? = some y := ⟨t.args[k], List.getElem?_eq_getElem hlt2⟩
                obtain ⟨a3, cap3, _, k0, k1, k2, hinx⟩ := InP_at hinr hx
                obtain ⟨a4, cap4, _, m0, m1, m2, hiny⟩ := InP_at hinr2 hy
                obtain ⟨hs1, hs2⟩ := szL_take hx
                have hxe := T.sz_eq x
                have hyt := T.szL_mem (List.mem_of_getElem? hy)
                have hbk := (grow_size _).2 _ _ _ _ (Nat.le_refl _) HL.out
                have Hkz := hide ((grow_sz 1000 _).2 _ _ _ _ (Nat.le_refl _) (by have := szL_take_le t.args k; omega) HL.out Hbz.out)
                have Hst := hide (growL_step H3.out hx hy HL.out)
                have Hxo := hide (okArg Hop.out (List.mem_of_getElem? hx))
                have Hyo := hide (okArg Hot.out (List.mem_of_getElem? hy))
                have hkI : (k : Int) < p.args.length := by omega
                have hkJ : (k : Int) < t.args.length := by omega
                have hk0 : (0 : Int) ≤ k := by omega
                have HC := hide (fun (w' : World) (hb : Below wr.heap.size wr w') => Hih.out x y a3 cap3 a4 cap4 bk ak ck w' (by have := hb.size; omega) (by omega) (by omega) Hxo.out Hyo.out (by omega) Hkz.out HSk.out (Binds_below hb HBk.out) (InP_below hb hinx) (InP_below hb hiny))
                have hS := hide (fun (w' : World) (hb : Below wr.heap.size wr w') => (show w'.cell? ⟨w.heap.size, 2, none⟩ = some (.slice (some ⟨b1, off1, none⟩) p.args.length pc) ∧ w'.cell? ⟨b1, off1 + k * 3, none⟩ = some (.int .i64 x.v) ∧ w'.cell? ⟨b1, off1 + k * 3 + 1, none⟩ = some (.int .i64 x.f) ∧ w'.cell? ⟨b1, off1 + k * 3 + 2, none⟩ = some (.slice a3 x.args.length cap3) ∧ w'.cell? ⟨w.heap.size + 1, 2, none⟩ = some (.slice (some ⟨b2, off2, none⟩) t.args.length tc) ∧ w'.cell? ⟨b2, off2 + k * 3, none⟩ = some (.int .i64 y.v) ∧ w'.cell? ⟨b2, off2 + k * 3 + 1, none⟩ = some (.int .i64 y.f) ∧ w'.cell? ⟨b2, off2 + k * 3 + 2, none⟩ = some (.slice a4 y.args.length cap4) from ⟨cell_below hb q0, cell_below hb k0, cell_below hb k1, cell_below hb k2, cell_below hb q1, cell_below hb m0, cell_below hb m1, cell_below hb m2⟩))
                clear hx hy hinx hiny hinr hinr2 HL Hih
                go_wp2_with fail
                go_region_held3 (fun w' => w'.cell? ⟨w.heap.size, 2, none⟩ = some (.slice (some ⟨b1, off1, none⟩) p.args.length pc) ∧ w'.cell? ⟨b1, off1 + k * 3, none⟩ = some (.int .i64 x.v) ∧ w'.cell? ⟨b1, off1 + k * 3 + 1, none⟩ = some (.int .i64 x.f) ∧ w'.cell? ⟨b1, off1 + k * 3 + 2, none⟩ = some (.slice a3 x.args.length cap3) ∧ w'.cell? ⟨w.heap.size + 1, 2, none⟩ = some (.slice (some ⟨b2, off2, none⟩) t.args.length tc) ∧ w'.cell? ⟨b2, off2 + k * 3, none⟩ = some (.int .i64 y.v) ∧ w'.cell? ⟨b2, off2 + k * 3 + 1, none⟩ = some (.int .i64 y.f) ∧ w'.cell? ⟨b2, off2 + k * 3 + 2, none⟩ = some (.slice a4 y.args.length cap4)) ((first | (refine hS.out _ ?_; (repeat' (first | with_reducible exact Hid.out ‹Hid (Below _ _ _)› | with_reducible exact Below.refl _ _ | (with_reducible refine Below.drew ?_) | (refine Below.alloc ?_ ?_ _; rotate_left; focus (first | omega | (simp; omega) | (simp; done))))); done) | go_keep)) ((first
                  | (go_at_call 58
                     with_reducible refine (HC.out _ ?_).mono ?_
                     · (repeat' (first | with_reducible exact Hid.out ‹Hid (Below _ _ _)› | with_reducible exact Below.refl _ _ | (with_reducible refine Below.drew ?_) | (refine Below.alloc ?_ ?_ _; rotate_left; focus (first | omega | (simp; omega) | (simp; done)))))
                     rintro e xA ⟨⟨aA, nA, cA, rfl, hgA⟩, hbA⟩
                     have HgA := hide hgA
                     have HxA : Hid (Below wr.heap.size wr xA) := by
                       refine Below.trans (b := _) ?_ (hbA.mono ?_)
                       · (repeat' (first | with_reducible exact Hid.out ‹Hid (Below _ _ _)› | with_reducible exact Below.refl _ _ | (with_reducible refine Below.drew ?_) | (refine Below.alloc ?_ ?_ _; rotate_left; focus (first | omega | (simp; omega) | (simp; done)))))
                       · first | omega | (simp; omega) | (simp; done)
                     clear hgA)))
                have Hbf := hide (Hbr.out.trans (HxA.out.mono hzr))
                cases hgt : growT x y bk with
                | some bk2 =>
                  obtain ⟨rfl, hsA, hbinA⟩ := HgA.out bk2 hgt
                  have Hgo := hide (Hst.out.1 bk2 hgt)
                  have HsA := hide hsA
                  have HbA := hide hbinA
                  clear Hst HgA hgt hsA hbinA hS
                  simp only [Option.isSome_some]
                  go_wp2_with fail
                  go_roundw
                  case rel => exact ⟨k + 1, bk2, aA, cA, by omega, by go_num, rfl, Hgo.out, HsA.out, HbA.out, Hbf.out⟩
                  case measure => simp [intOf]; omega
                | none =>
                  have Hfn := hide (Hfin.out.trans (Hst.out.2 hgt))
                  clear Hst HgA hgt hS
                  simp only [Option.isSome_none]
                  go_wp2_with fail
                  go_ret2
                  exact ⟨⟨_, _, _, (by rw [Hfn.out]; rfl), fun b2 h => (by rw [Hfn.out] at h; cases h)⟩, hWb.out.trans (Hbf.out.mono (by omega))⟩
              · have hk2 : k = p.args.length := by omega
                subst hk2
                have Hfn : Hid (growT p t bs = some bk) := by
                  have h5 := HL.out
                  rw [List.take_length, show p.args.length = t.args.length from H3.out, List.take_length] at h5
                  exact Hfin.out.trans h5
                clear HL
                go_wp2_with fail
                go_ret2
                exact ⟨⟨ak, bk.length, ck, (by rw [Hfn.out]; rfl), fun b2 h => (by rw [Hfn.out] at h; cases h; exact ⟨rfl, HSk.out, HBk.out⟩)⟩, hWb.out.trans (Hbr.out.mono (by omega))⟩
          · have e3 : ((p.args.length : Int) != t.args.length) = true := by simp; omega
            have Hfin := hide (hng True (Or.inr (Or.inr h3)))
            clear hng Hih hop hot h2 h3
            go_enter Tryz.func58, Tryz.ntmps58
            go_wp2_with fail
            go_ret2
            exact ⟨⟨_, _, _, (by rw [Hfin.out]; rfl), fun b2 h => (by rw [Hfin.out] at h; cases h)⟩, below2 _ _ _⟩
        · have e2 : (p.f != t.f) = true := by simpa using h2
          have Hfin := hide (hng True (Or.inr (Or.inl h2)))
          clear hng Hih hop hot h2
          go_enter Tryz.func58, Tryz.ntmps58
          go_wp2_with fail
          go_ret2
          exact ⟨⟨_, _, _, (by rw [Hfin.out]; rfl), fun b2 h => (by rw [Hfin.out] at h; cases h)⟩, below2 _ _ _⟩

end Go.Proofs.YtbkedppkdhfpoabGreat
