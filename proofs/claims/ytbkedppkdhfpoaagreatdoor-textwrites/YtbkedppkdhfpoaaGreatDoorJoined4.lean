/- Texts: terms as a text, the sign of a literal, terms checked. The program's own check of bindings. Does a clause hold, by which things its variables are: the program's closures. Does a clause hold: the program's Holds. Texts: a clause checked, a term as a text. Texts: two of them joined. Texts: a row of texts joined. Texts: a clause as a text. Texts: the reader: a word taken, and what is asked. The contracts of the library that the program calls, laid at this program in plain words. Texts: the reader: a number. Texts: what is read: terms, literals, clauses (pure). -/
import Derived.BigQuiet
import Derived.Deep.AppendLies
import Derived.Deep.CutBlock
import Derived.Deep.DeepCutAuto
import Derived.Deep.DrawnRows
import Derived.Deep.RegionHeld3
import Derived.Deep.RegionLaw
import Derived.Laws.AppendOwnNone
import Derived.Lib.AtoiErrMem
import Derived.Lib.Builder
import Derived.Lib.SlicesCompact
import Derived.Maps.AppendAt
import Derived.Maps.OwnOps
import Derived.Maps.OwnSet
import Derived.Shelf.Strings.SlTrimAscii
import Derived.Shelf.Strings.Trim
import Derived.Test.YtbkedppkdhfpoaaGreatDoorJoined3
namespace Go.Proofs.YtbkedppkdhfpoaaGreatDoor
open Go.RowKit

theorem tab_lt {w : World} (h : Tab w) : ∀ g, Tryz.prog.globalNamed "internal/strconv.uint64pow10" = some g → g < w.heap.size := by
  intro g hg
  rw [Tab, Lib.TabIs, World.var?, hg] at h
  simp only [Option.bind_some] at h
  rcases Nat.lt_or_ge g w.heap.size with h1 | h1
  · exact h1
  · rw [Array.getElem?_eq_none h1] at h; cases h
theorem Tab_below {w w' : World} (hb : Below w.heap.size w w') (h : Tab w) : Tab w' := tab_below hb (tab_lt h) h
attribute [local go_sem ↓] Go.wp_at_zero Go.wp_at_succ
set_option maxRecDepth 100000 in
set_option maxHeartbeats 1000000 in
theorem written_any (ar : List Int) (har : ar.length ≤ 12) (ts : List T) (a : Option Addr) (cap : Nat) (w : World) (hsz : T.sz.szL ts ≤ 1000) (hok : ∀ t, t ∈ ts → okP ar t) (htab : Tab w) (hin : InL w ts a) :
    Calls Tryz.prog 20 #[.slice a ts.length cap] w fun e w' => e = .returned (.string ⟨(textT.textL ts).toArray⟩) ∧ Below w.heap.size w w' := by
  obtain ⟨W1, hW1⟩ : ∃ W1, W1 = w.alloc (.cells #[.pointer none, .slice none 0 0] 72) := ⟨_, rfl⟩
  have hbW : Below w.heap.size w W1 := by rw [hW1]; exact below1 _ _
  have hz1 : W1.heap.size = w.heap.size + 1 := by rw [hW1]; simp
  have his : IsB w.heap.size w.heap.size [] W1 := by
    refine Or.inl ⟨Nat.le_refl _, .slice none 0 0, ?_, ⟨rfl, Or.inl ⟨rfl, rfl⟩⟩, by simp [Value.ownBlock]⟩
    rw [hW1]; exact heap_alloc_new _ _
  have HWr := hide (write_any ar har w.heap.size w.heap.size (tab_lt htab) (T.sz.szL ts + 1) ts a cap [] W1 (Nat.lt_succ_self _) hsz hok (by simp; omega) (by omega) his (Tab_below hbW htab) (InP_below hbW (InP_imp (fun k h => h.2) (InP_lt hin))))
  have HW1 := hide hW1
  have HbW := hide hbW
  clear hW1 hbW his htab hin hok
  go_enter Tryz.func20, Tryz.ntmps20
  go_wp2_with fail
  rw [← HW1.out]
  refine HWr.out.mono ?_
  rintro e w2 ⟨rfl, his2, hb2, _⟩
  have HS := hide (Go.Proofs.Tryz.Builder_String_any w.heap.size w.heap.size (textT.textL ts) w2 his2 (by have := hb2.size; omega))
  have Hb2 := hide (HbW.out.trans hb2)
  clear his2 hb2 HWr
  go_wp2_with fail
  refine HS.out.mono ?_
  rintro e w3 ⟨rfl, hb3⟩
  have Hb3 := hide (Hb2.out.trans hb3)
  clear hb3 HS
  go_wp2_with fail
  go_ret
  exact ⟨rfl, Hb3.out⟩
/-- The sign of a literal. -/
def signL (y : Bool) : List UInt8 := if y then [32, 61, 32] else [32, 33, 61, 32]
set_option maxRecDepth 100000 in
set_option maxHeartbeats 1000000 in
theorem sign_any (x : Lit) (a1 : Option Addr) (c1 : Nat) (a2 : Option Addr) (c2 : Nat) (w : World) :
    Calls Tryz.prog 22 #[litV x a1 c1 a2 c2] w fun e w' => e = .returned (.string ⟨(signL x.1).toArray⟩) ∧ Below w.heap.size w w' := by
  cases hx : x.1 with
  | true =>
    go_enter Tryz.func22, Tryz.ntmps22
    go_wp2_with fail
    go_ret
    exact ⟨rfl, below1 _ _⟩
  | false =>
    go_enter Tryz.func22, Tryz.ntmps22
    go_wp2_with fail
    go_ret
    exact ⟨rfl, below1 _ _⟩
/-- What check tells of terms. -/
def tErr (ar : List Int) : List T → Int
  | [] => 0
  | t :: ts => if allErr ar [t] = 0 then tErr ar ts else allErr ar [t]
theorem tErr_drop {ar : List Int} {ts : List T} {k : Nat} {t : T} (h : ts[k]? = some t) : tErr ar (ts.drop k) = if allErr ar [t] = 0 then tErr ar (ts.drop (k + 1)) else allErr ar [t] := by
  have hlt := (List.getElem?_eq_some_iff.1 h).1
  rw [List.drop_eq_getElem_cons hlt, (List.getElem?_eq_some_iff.1 h).2, tErr]
set_option maxRecDepth 100000 in
set_option maxHeartbeats 1000000 in
theorem tcheck_any (ar : List Int) (ga : Option Addr) (gcap : Nat) (ts : List T) (a : Option Addr) (cap : Nat) (w : World) (hl : ts.length ≤ 1000) (hg : Ints w ar ga) (hin : InL w ts a) :
    Calls Tryz.prog 19 #[.agg #[.slice ga ar.length gcap], .slice a ts.length cap] w fun e w' => e = .returned (.int .i64 (tErr ar ts)) ∧ Below w.heap.size w w' := by
  obtain ⟨W1, hW1⟩ : ∃ W1, W1 = w.alloc (.cells #[.slice ga ar.length gcap] 24) := ⟨_, rfl⟩
  have hbW : Below w.heap.size w W1 := by rw [hW1]; exact below1 _ _
  have hz1 : W1.heap.size = w.heap.size + 1 := by rw [hW1]; simp
  have hcg : W1.cell? ⟨w.heap.size, 0, none⟩ = some (.slice ga ar.length gcap) := by rw [hW1]; exact cell_new 0 rfl
  obtain ⟨Z, hZ⟩ : ∃ Z, Z = tErr ar ts := ⟨_, rfl⟩
  rw [← hZ]
  have HZ := hide hZ
  have HW1 := hide hW1
  have HbW := hide hbW
  have Hcg := hide hcg
  have Hg := hide hg
  have Hin := hide hin
  clear hZ hW1 hbW hcg hg hin
  go_enter Tryz.func19, Tryz.ntmps19
  go_upto_region 1 with fail
  rw [← HW1.out]
  go_wp2_with fail
  go_loopw [10] (fun i wr => ∃ k : Nat, k ≤ ts.length ∧ i = .int .i64 k ∧ Hid (Z = tErr ar (ts.drop k)) ∧ Hid (Below W1.heap.size W1 wr)) (fun i _ => ts.length - (intOf i).toNat)
  case atStart => exact ⟨0, Nat.zero_le _, rfl, by rw [List.drop_zero]; exact HZ, Below.refl _ _⟩
  case round =>
    obtain ⟨k, hk, rfl, Hk, Hbr⟩ := hrel
    have Hbw := hide (HbW.out.trans (Hbr.out.mono (by omega)))
    have g0 := cell_below Hbr.out Hcg.out
    by_cases hlt : k < ts.length
    · obtain ⟨b, off, rfl⟩ := InP_some Hin.out (by omega)
      obtain ⟨x, hx⟩ : ∃ x, ts[k]? = some x := ⟨ts[k], List.getElem?_eq_getElem hlt⟩
      obtain ⟨a1, cap1, _, k0, k1, k2, hinx⟩ := InP_at (InP_below Hbw.out Hin.out) hx
      obtain ⟨W2, hW2⟩ : ∃ W2, W2 = wr.alloc (.cells #[.int .i64 x.v, .int .i64 x.f, .slice a1 x.args.length cap1] 27) := ⟨_, rfl⟩
      have hb2 : Below wr.heap.size wr W2 := by rw [hW2]; exact below1 _ _
      have HC := hide (Check_any ar ga gcap x a1 cap1 W2 (Ints_below hb2 (Ints_below Hbw.out Hg.out)) (InP_below hb2 hinx))
      have g2 : (wr.alloc (.cells #[.int .i64 x.v, .int .i64 x.f, .slice a1 x.args.length cap1] 27)).cell? ⟨w.heap.size, 0, none⟩ = some (.slice ga ar.length gcap) := by rw [← hW2]; exact cell_below hb2 g0
      have HW2 := hide hW2
      have Hb2 := hide (Hbr.out.trans (hb2.mono Hbr.out.size))
      have Hst := hide (tErr_drop (ar := ar) hx)
      have hkI : (k : Int) < ts.length := by omega
      have hk0 : (0 : Int) ≤ k := by omega
      obtain ⟨F, hF⟩ : ∃ F, F = allErr ar [x] := ⟨_, rfl⟩
      rw [← hF] at HC Hst
      clear hx hinx hW2 hb2 hF
      go_wp2_with fail
      rw [← HW2.out]
      refine HC.out.mono ?_
      rintro e w3 ⟨rfl, hb3⟩
      have Hb3 := hide (Hb2.out.trans (hb3.mono Hb2.out.size))
      clear hb3 HC
      by_cases hF : F = 0
      · have Hn : Hid (Z = tErr ar (ts.drop (k + 1))) := by show _ = _; rw [Hk.out, Hst.out, if_pos hF]
        subst hF
        clear Hst Hk
        go_wp2_with fail
        go_roundw
        case rel => exact ⟨k + 1, by omega, by go_num, Hn, Hb3⟩
        case measure => simp [intOf]; omega
      · have hF' : (F != 0) = true := by simpa using hF
        obtain rfl : Z = F := by rw [Hk.out, Hst.out, if_neg hF]
        have Hf := hide (HbW.out.trans (Hb3.out.mono (by omega)))
        clear Hst Hk hF
        go_wp2_with fail
        go_ret
        exact ⟨rfl, Hf.out⟩
    · have hk2 : k = ts.length := by omega
      subst hk2
      obtain rfl : Z = 0 := by rw [Hk.out, List.drop_length]; rfl
      have hkI : ¬ (ts.length : Int) < ts.length := by omega
      clear Hk
      go_wp2_with fail
      go_ret
      exact ⟨rfl, Hbw.out⟩
end Go.Proofs.YtbkedppkdhfpoaaGreatDoor

namespace Go.Proofs.YtbkedppkdhfpoaaGreatDoor
open Go.RowKit

theorem all_one {ar : List Int} (h : sigErr ar = 0) (t : T) : allErr ar [t] = termErr ar t := by
  rw [allErr, if_pos h, termsErr]
  by_cases h1 : termErr ar t = 0
  · rw [if_pos h1, h1]; rfl
  · rw [if_neg h1]

end Go.Proofs.YtbkedppkdhfpoaaGreatDoor

namespace Go.Proofs.YtbkedppkdhfpoaaGreatDoor
open Go.RowKit

/-- Literals that are right. -/
def LitsOk (ar : List Int) (c : List Lit) : Prop := ∀ x, x ∈ c → (x.2.1.sz ≤ 120 ∧ okP ar x.2.1) ∧ (x.2.2.sz ≤ 120 ∧ okP ar x.2.2)
theorem litsErr_ok {ar : List Int} : ∀ {c : List Lit}, litsErr ar c = 0 → LitsOk ar c := by
  intro c
  induction c with
  | nil => intro _ x hx; cases hx
  | cons y c ih =>
    intro h x hx
    rw [litsErr] at h
    by_cases h1 : termErr ar y.2.1 = 0
    · rw [if_pos h1] at h
      by_cases h2 : termErr ar y.2.2 = 0
      · rw [if_pos h2] at h
        rcases List.mem_cons.1 hx with rfl | hx
        · exact ⟨termErr_iff.1 h1, termErr_iff.1 h2⟩
        · exact ih h x hx
      · rw [if_neg h2] at h; exact absurd h h2
    · rw [if_neg h1] at h; exact absurd h h1

attribute [local go_sem ↓] Go.wp_at_zero Go.wp_at_succ
end Go.Proofs.YtbkedppkdhfpoaaGreatDoor

namespace Go.Proofs.YtbkedppkdhfpoaaGreatDoor
open Go.RowKit

theorem clauses_ok {ar : List Int} {c : List Lit} (h : clausesErr ar [c] = 0) : sigErr ar = 0 ∧ c.length ≤ 8 ∧ LitsOk ar c := by
  rw [clausesErr] at h
  by_cases h1 : sigErr ar = 0
  · rw [if_pos h1, if_neg (by simp), clErr] at h
    by_cases h2 : clauseErr ar c = 0
    · rw [clauseErr] at h2
      by_cases h3 : 8 < c.length
      · rw [if_pos h3] at h2; cases h2
      · rw [if_neg h3] at h2
        exact ⟨h1, by omega, litsErr_ok h2⟩
    · rw [if_neg h2] at h; exact absurd h h2
  · rw [if_neg h1] at h; exact absurd h h1
end Go.Proofs.YtbkedppkdhfpoaaGreatDoor

namespace Go.Proofs.YtbkedppkdhfpoaaGreatDoor
open Go.RowKit

theorem tsig_len {ar : List Int} (h : sigErr ar = 0) : ar.length ≤ 12 := by
  rw [sigErr] at h
  split at h
  · cases h
  · omega
theorem tErr_two {ar : List Int} (hs : sigErr ar = 0) (s t : T) : tErr ar [s, t] = if termErr ar s = 0 then termErr ar t else termErr ar s := by
  rw [tErr, tErr, tErr, all_one hs, all_one hs]
  split
  · split
    · rename_i h; exact h.symm
    · rfl
  · rfl
theorem lits_drop2 {ar : List Int} (hs : sigErr ar = 0) {c : List Lit} {k : Nat} {x : Lit} (h : c[k]? = some x) : litsErr ar (c.drop k) = if tErr ar [x.2.1, x.2.2] = 0 then litsErr ar (c.drop (k + 1)) else tErr ar [x.2.1, x.2.2] := by
  rw [litsErr_drop h, tErr_two hs]
  by_cases h1 : termErr ar x.2.1 = 0
  · rw [if_pos h1, if_pos h1]
  · rw [if_neg h1, if_neg h1, if_neg h1]
theorem one_err {ar : List Int} (c : List Lit) : clausesErr ar [c] = if sigErr ar = 0 then clauseErr ar c else sigErr ar := by
  rw [clausesErr]
  split
  · rw [if_neg (by simp), clErr]
    split
    · rename_i h; rw [h]; rfl
    · rfl
  · rfl
theorem InP_two {p : Nat → Prop} {w : World} {t u : T} {a a2 : Option Addr} {cap cap2 n : Nat} (e : TypeId) (hn : n = w.heap.size) (hp : p w.heap.size) (h : InP p w t.args a) (h2 : InP p w u.args a2) :
    InP p (w.alloc (.cells #[.int .i64 t.v, .int .i64 t.f, .slice a t.args.length cap, .int .i64 u.v, .int .i64 u.f, .slice a2 u.args.length cap2] e)) [t, u] (some ⟨n, 0, none⟩) := by
  subst hn
  exact InP_cons.2 ⟨_, 0, _, rfl, hp, cell_new 0 rfl, cell_new 1 rfl, cell_new 2 rfl, In_iff.2 ⟨a, cap, rfl, InP_alloc _ h⟩, InP_cons.2 ⟨_, 3, _, rfl, hp, cell_new 3 rfl, cell_new 4 rfl, cell_new 5 rfl, In_iff.2 ⟨a2, cap2, rfl, InP_alloc _ h2⟩, InP_nil⟩⟩
attribute [local go_sem ↓] Go.wp_at_zero Go.wp_at_succ
set_option maxRecDepth 100000 in
set_option maxHeartbeats 2000000 in
theorem checkClause_any (ar : List Int) (ga : Option Addr) (gcap : Nat) (c : List Lit) (ca : Option Addr) (cc : Nat) (w : World) (hl : c.length ≤ 9223372036854775807) (hg : Ints w ar ga) (hc : LitsP w c ca) :
    Calls Tryz.prog 21 #[.agg #[.slice ga ar.length gcap], .slice ca c.length cc] w fun e w' => e = .returned (.int .i64 (clausesErr ar [c])) ∧ Below w.heap.size w w' := by
  obtain ⟨W1, hW1⟩ : ∃ W1, W1 = w.alloc (.cells #[.slice ga ar.length gcap] 24) := ⟨_, rfl⟩
  have hbW : Below w.heap.size w W1 := by rw [hW1]; exact below1 _ _
  have hz1 : W1.heap.size = w.heap.size + 1 := by rw [hW1]; simp
  have hcg : W1.cell? ⟨w.heap.size, 0, none⟩ = some (.slice ga ar.length gcap) := by rw [hW1]; exact cell_new 0 rfl
  obtain ⟨Z, hZ⟩ : ∃ Z, Z = clausesErr ar [c] := ⟨_, rfl⟩
  rw [← hZ]
  rw [one_err] at hZ
  have HS := hide (signature_any ar ga gcap W1 (Ints_below hbW hg))
  have HW1 := hide hW1
  have HbW := hide hbW
  have Hcg := hide hcg
  have Hg := hide hg
  have Hc := hide hc
  have HZ := hide hZ
  have Hld := hide (fun (hs : sigErr ar = 0) (k : Nat) (x : Lit) (h : c[k]? = some x) => lits_drop2 hs h)
  obtain ⟨S, hS⟩ : ∃ S, S = sigErr ar := ⟨_, rfl⟩
  rw [← hS] at HS HZ Hld
  have g0 := hcg
  clear hZ hW1 hbW hcg hg hc hS
  go_enter Tryz.func21, Tryz.ntmps21
  go_upto_region 1 with fail
  rw [← HW1.out]
  go_wp2_with fail
  refine HS.out.mono ?_
  rintro e w1 ⟨rfl, hb1⟩
  have Hb1 := hide hb1
  have Hbw1 := hide (HbW.out.trans (hb1.mono (by omega)))
  clear hb1 HS g0
  by_cases hs : S = 0
  · have HZ1 : Hid (Z = clauseErr ar c) := by show _ = _; rw [HZ.out, if_pos hs]
    have Hld1 := hide (fun k x h => Hld.out hs k x h)
    subst hs
    clear HZ Hld
    by_cases h8 : 8 < c.length
    · obtain rfl : Z = 2 := by rw [HZ1.out, clauseErr, if_pos h8]
      have e8 : (8 : Int) < c.length := by omega
      clear HZ1 h8
      go_wp2_with fail
      go_ret
      exact ⟨rfl, Hbw1.out⟩
    · have HZ2 : Hid (Z = litsErr ar c) := by show _ = _; rw [HZ1.out, clauseErr, if_neg h8]
      have e8 : ¬ (8 : Int) < c.length := by omega
      clear HZ1
      go_wp2_with fail
      go_loopw [19] (fun i wr => ∃ k : Nat, k ≤ c.length ∧ i = .int .i64 k ∧ Hid (Z = litsErr ar (c.drop k)) ∧ Hid (Below W1.heap.size W1 wr)) (fun i _ => c.length - (intOf i).toNat)
      case atStart => exact ⟨0, Nat.zero_le _, rfl, by rw [List.drop_zero]; exact HZ2, Hb1⟩
      case round =>
        obtain ⟨k, hk, rfl, Hk, Hbr⟩ := hrel
        have Hbw := hide (HbW.out.trans (Hbr.out.mono (by omega)))
        have hzr := Hbr.out.size
        by_cases hlt : k < c.length
        · obtain ⟨b, off, rfl⟩ := LitsP_some Hc.out (by omega)
          obtain ⟨x, hx⟩ : ∃ x, c[k]? = some x := ⟨c[k], List.getElem?_eq_getElem hlt⟩
          obtain ⟨a1, c1, a2, c2, k0, k1, k2, k3, k4, k5, k6, hi1, hi2⟩ := LitsP_at (LitsP_below Hbw.out Hc.out) hx
          obtain ⟨W2, hW2⟩ : ∃ W2, W2 = (wr.alloc (.cells #[.bool x.1, .int .i64 x.2.1.v, .int .i64 x.2.1.f, .slice a1 x.2.1.args.length c1, .int .i64 x.2.2.v, .int .i64 x.2.2.f, .slice a2 x.2.2.args.length c2] 52)).alloc (.cells #[.int .i64 x.2.1.v, .int .i64 x.2.1.f, .slice a1 x.2.1.args.length c1, .int .i64 x.2.2.v, .int .i64 x.2.2.f, .slice a2 x.2.2.args.length c2] 27) := ⟨_, rfl⟩
          have hb2 : Below wr.heap.size wr W2 := by rw [hW2]; exact below2 _ _ _
          have g2 : (wr.alloc (.cells #[.bool x.1, .int .i64 x.2.1.v, .int .i64 x.2.1.f, .slice a1 x.2.1.args.length c1, .int .i64 x.2.2.v, .int .i64 x.2.2.f, .slice a2 x.2.2.args.length c2] 52)).cell? ⟨w.heap.size, 0, none⟩ = some (.slice ga ar.length gcap) := by rw [cell_alloc_lt (by omega)]; exact cell_below Hbr.out Hcg.out
          have hin2 : InL W2 [x.2.1, x.2.2] (some ⟨wr.heap.size + 1, 0, none⟩) := by
            rw [hW2]
            exact InP_two _ (by simp) trivial (InP_below (below1 _ _) hi1) (InP_below (below1 _ _) hi2)
          have HC := hide (show Calls Tryz.prog 19 #[.agg #[.slice ga ar.length gcap], .slice (some ⟨wr.heap.size + 1, 0, none⟩) 2 2] W2 _ from tcheck_any ar ga gcap [x.2.1, x.2.2] (some ⟨wr.heap.size + 1, 0, none⟩) 2 W2 (by simp) (Ints_below hb2 (Ints_below Hbw.out Hg.out)) hin2)
          have HW2 := hide hW2
          have Hb2 := hide (Hbr.out.trans (hb2.mono Hbr.out.size))
          have Hst := hide (Hld1.out k x hx)
          have hkI : (k : Int) < c.length := by omega
          have hk0 : (0 : Int) ≤ k := by omega
          obtain ⟨F, hF⟩ : ∃ F, F = tErr ar [x.2.1, x.2.2] := ⟨_, rfl⟩
          rw [← hF] at HC Hst
          clear hx hi1 hi2 hW2 hb2 hF hin2
          go_wp2_with fail
          rw [← HW2.out]
          refine HC.out.mono ?_
          rintro e w3 ⟨rfl, hb3⟩
          have Hb3 := hide (Hb2.out.trans (hb3.mono Hb2.out.size))
          clear hb3 HC
          by_cases hF : F = 0
          · have Hn : Hid (Z = litsErr ar (c.drop (k + 1))) := by show _ = _; rw [Hk.out, Hst.out, if_pos hF]
            subst hF
            clear Hst Hk
            go_wp2_with fail
            go_roundw
            case rel => exact ⟨k + 1, by omega, by go_num, Hn, Hb3⟩
            case measure => simp [intOf]; omega
          · have hF' : (F != 0) = true := by simpa using hF
            obtain rfl : Z = F := by rw [Hk.out, Hst.out, if_neg hF]
            have Hf := hide (HbW.out.trans (Hb3.out.mono (by omega)))
            clear Hst Hk hF
            go_wp2_with fail
            go_ret
            exact ⟨rfl, Hf.out⟩
        · have hk2 : k = c.length := by omega
          subst hk2
          obtain rfl : Z = 0 := by rw [Hk.out, List.drop_length]; rfl
          have hkI : ¬ (c.length : Int) < c.length := by omega
          clear Hk
          go_wp2_with fail
          go_ret
          exact ⟨rfl, Hbw.out⟩
  · have hs' : (S != 0) = true := by simpa using hs
    obtain rfl : Z = S := by rw [HZ.out, if_neg hs]
    clear HZ hs Hld
    go_wp2_with fail
    go_ret
    exact ⟨rfl, Hbw1.out⟩
set_option maxRecDepth 100000 in
set_option maxHeartbeats 1000000 in
/-- A term as a text, or an error. -/
theorem tTerm_any (ar : List Int) (ga : Option Addr) (gcap : Nat) (t : T) (a : Option Addr) (cap : Nat) (w : World) (hg : Ints w ar ga) (htab : Tab w) (hin : InL w t.args a) :
    Calls Tryz.prog 5 #[.agg #[.slice ga ar.length gcap], .agg #[.int .i64 t.v, .int .i64 t.f, .slice a t.args.length cap]] w fun e w' => e = .returned (.tuple #[.string ⟨(if allErr ar [t] = 0 then textT t else []).toArray⟩, .int .i64 (allErr ar [t])]) ∧ Below w.heap.size w w' := by
  obtain ⟨W1, hW1⟩ : ∃ W1, W1 = (w.alloc (.cells #[.slice ga ar.length gcap] 24)).alloc (.cells #[.int .i64 t.v, .int .i64 t.f, .slice a t.args.length cap] 27) := ⟨_, rfl⟩
  have hbW : Below w.heap.size w W1 := by rw [hW1]; exact below2 _ _ _
  have hz1 : W1.heap.size = w.heap.size + 2 := by rw [hW1]; simp
  have hcg : W1.cell? ⟨w.heap.size, 0, none⟩ = some (.slice ga ar.length gcap) := by rw [hW1, cell_alloc_lt (by simp)]; exact cell_new 0 rfl
  have h3 : Three W1 (w.heap.size + 1) (.int .i64 t.v) (.int .i64 t.f) (.slice a t.args.length cap) := by rw [hW1]; exact Three.new _ (by simp)
  have HL := hide (fun (w' : World) (hb : Below W1.heap.size W1 w') => And.intro (cell_below hb hcg) (h3.below hb))
  have hin1 : ∀ (w' : World) (hb : Below W1.heap.size W1 w'), InL (w'.alloc (.cells #[.int .i64 t.v, .int .i64 t.f, .slice a t.args.length cap] 27)) [t] (some ⟨w'.heap.size, 0, none⟩) := fun w' hb => InP_new1 _ rfl trivial (InP_below hb (InP_below hbW hin))
  have HC := hide (show Calls Tryz.prog 19 #[.agg #[.slice ga ar.length gcap], .slice (some ⟨W1.heap.size, 0, none⟩) 1 1] (W1.alloc (.cells #[.int .i64 t.v, .int .i64 t.f, .slice a t.args.length cap] 27)) _ from tcheck_any ar ga gcap [t] (some ⟨W1.heap.size, 0, none⟩) 1 _ (by simp) (Ints_below (below1 _ _) (Ints_below hbW hg)) (hin1 W1 (Below.refl _ _)))
  have HWr := hide (fun (h0 : allErr ar [t] = 0) (w' : World) (hb : Below W1.heap.size W1 w') => (show Calls Tryz.prog 20 #[.slice (some ⟨w'.heap.size, 0, none⟩) 1 1] (w'.alloc (.cells #[.int .i64 t.v, .int .i64 t.f, .slice a t.args.length cap] 27)) _ from written_any ar (tsig_len (allErr_iff.1 h0).1) [t] (some ⟨w'.heap.size, 0, none⟩) 1 _ (by rw [T.szL_cons]; show t.sz + 0 ≤ 1000; have := ((allErr_iff.1 h0).2 t (by simp)).1; omega) (fun s hs => by rw [List.mem_singleton.1 hs]; exact ((allErr_iff.1 h0).2 t (by simp)).2) (Tab_below (below1 _ _) (Tab_below hb (Tab_below hbW htab))) (hin1 w' hb)))
  have e1 : tErr ar [t] = allErr ar [t] := by
    rw [tErr, tErr]; split
    · rename_i h; exact h.symm
    · rfl
  have e2 : textT.textL [t] = textT t := by rw [textT.textL, textT.textC, List.append_nil]
  rw [e1] at HC
  simp only [e2] at HWr
  have HW1 := hide hW1
  have HbW := hide hbW
  obtain ⟨E, hE⟩ : ∃ E, E = allErr ar [t] := ⟨_, rfl⟩
  obtain ⟨X, hX⟩ : ∃ X, X = textT t := ⟨_, rfl⟩
  rw [← hE] at HC HWr ⊢
  simp only [← hX] at HWr
  rw [← hX]
  obtain ⟨Y, hY⟩ : ∃ Y, Y = (if E = 0 then X else []) := ⟨_, rfl⟩
  rw [← hY]
  have HY := hide hY
  obtain ⟨g0, t0, t1, t2, _, _, _⟩ := HL.out W1 (Below.refl _ _)
  have Hz1 := hide hz1
  clear hW1 hbW hcg h3 hin1 hin htab hg e1 e2 hE hX hz1 hY
  go_enter Tryz.func5, Tryz.ntmps5
  go_upto_region 1 with fail
  rw [← HW1.out]
  go_wp2_with fail
  refine HC.out.mono ?_
  rintro e w2 ⟨rfl, hb2⟩
  have Hb2 : Hid (Below W1.heap.size W1 w2) := (below1 W1 _).trans (hb2.mono (by simp))
  clear hb2 HC g0 t0 t1 t2
  obtain ⟨g0, t0, t1, t2, _, _, _⟩ := HL.out w2 Hb2.out
  by_cases h0 : E = 0
  · have HWr1 := hide (HWr.out h0 w2 Hb2.out)
    obtain rfl : Y = X := by rw [HY.out, if_pos h0]
    subst h0
    clear HWr HY
    go_wp2_with fail
    refine HWr1.out.mono ?_
    rintro e w3 ⟨rfl, hb3⟩
    have Hf := hide (HbW.out.trans ((Hb2.out.trans (((below1 w2 _).trans (hb3.mono (by simp))).mono Hb2.out.size)).mono (by have := Hz1.out; omega)))
    clear hb3 HWr1
    go_wp2_with fail
    go_ret2
    exact ⟨rfl, Hf.out⟩
  · have h0' : (E != 0) = true := by simpa using h0
    have Hf := hide (HbW.out.trans (Hb2.out.mono (by have := Hz1.out; omega)))
    obtain rfl : Y = [] := by rw [HY.out, if_neg h0]
    clear h0 HWr HY
    go_wp2_with fail
    go_ret2
    exact ⟨rfl, Hf.out⟩
end Go.Proofs.YtbkedppkdhfpoaaGreatDoor

namespace Go.Proofs.YtbkedppkdhfpoaaGreatDoor
open Go.RowKit

theorem bytes_append (a b : List UInt8) : (⟨a.toArray⟩ : ByteArray) ++ ⟨b.toArray⟩ = ⟨(a ++ b).toArray⟩ := by
  apply ByteArray.ext
  rw [ByteArray.data_append]
  simp
theorem str_add (a b : List UInt8) (h : a.length + b.length ≤ 1000000000) (w : World) : (binOp .add 9 (.string ⟨a.toArray⟩) (.string ⟨b.toArray⟩)).run Tryz.prog w = .ok (.string ⟨(a ++ b).toArray⟩) w := by
  have hs : ¬ (((⟨a.toArray⟩ : ByteArray).size + (⟨b.toArray⟩ : ByteArray).size : Nat) : Int) > IntKind.i64.max := by
    show ¬ ((a.toArray.size + b.toArray.size : Nat) : Int) > _
    simp only [List.size_toArray]
    have : IntKind.i64.max = 9223372036854775807 := by decide
    omega
  simp only [binOp, Op.stringOp]
  rw [← bytes_append, if_neg hs]
  rfl
end Go.Proofs.YtbkedppkdhfpoaaGreatDoor

namespace Go.Proofs.YtbkedppkdhfpoaaGreatDoor
open Go.RowKit

/-- A literal's text. -/
def litL (x : Lit) : List UInt8 := textT x.2.1 ++ signL x.1 ++ textT x.2.2
/-- A clause's text. -/
def clauseL (c : List Lit) : List UInt8 := if c.isEmpty then [36, 102, 97, 108, 115, 101] else Lib.join (c.map litL) [32, 124, 32]
/-- Strings of a list. -/
def strV (l : List UInt8) : Value := .string ⟨l.toArray⟩
theorem litL_len {ar : List Int} (har : ar.length ≤ 12) {x : Lit} (h : (x.2.1.sz ≤ 120 ∧ okP ar x.2.1) ∧ (x.2.2.sz ≤ 120 ∧ okP ar x.2.2)) : (litL x).length ≤ 241444 := by
  have hla := (term_len har _).1 x.2.1 (Nat.le_refl _) h.1.2
  have hlb := (term_len har _).1 x.2.2 (Nat.le_refl _) h.2.2
  have hls : (signL x.1).length ≤ 4 := by rw [signL]; split <;> simp
  have hsA := h.1.1
  have hsB := h.2.1
  rw [litL, List.length_append, List.length_append]
  omega
theorem joinTail_len (sep : List UInt8) (B : Nat) (l : List (List UInt8)) (h : ∀ x ∈ l, x.length ≤ B) : (Lib.joinTail sep l).length ≤ l.length * (sep.length + B) := by
  induction l with
  | nil => exact Nat.zero_le _
  | cons x r ih =>
    have h1 := ih (fun y hy => h y (List.mem_cons_of_mem _ hy))
    have h2 := h x List.mem_cons_self
    have e : Lib.joinTail sep (x :: r) = (sep ++ x) ++ Lib.joinTail sep r := rfl
    rw [e, List.length_append, List.length_append, List.length_cons, Nat.add_mul]
    omega
theorem join_len (sep : List UInt8) (B : Nat) (l : List (List UInt8)) (h : ∀ x ∈ l, x.length ≤ B) : (Lib.join l sep).length ≤ l.length * (sep.length + B) := by
  cases l with
  | nil => exact Nat.zero_le _
  | cons x r =>
    have h1 := joinTail_len sep B r (fun y hy => h y (List.mem_cons_of_mem _ hy))
    have h2 := h x List.mem_cons_self
    rw [Lib.join_cons, List.length_append, List.length_cons, Nat.add_mul]
    omega
theorem join_own {ar : List Int} (har : ar.length ≤ 12) {c : List Lit} (hlo : LitsOk ar c) (h8 : c.length ≤ 8) (hpos : 0 < c.length) {w : World} {base : Nat} {v : Value} (h : w.ownsRow base 9 1 v c.length (c.map (fun x => strV (litL x)))) :
    Calls Tryz.prog 23 #[v, .string ⟨#[32, 124, 32]⟩] w fun e w' => e = .returned (.string ⟨(Lib.join (c.map litL) [32, 124, 32]).toArray⟩) ∧ Below w.heap.size w w' := by
  have hcell := fun g hg => h.cells (g := g) hg
  obtain ⟨h1, ⟨rfl, h0⟩ | ⟨g, cap, cur, rfl, hb, hh, hn, hm, hsz, ht⟩⟩ := h
  · omega
  have e1 : (c.map (fun x => (⟨(litL x).toArray⟩ : ByteArray))).map (·.data.toList) = c.map litL := by
    rw [List.map_map]
    rfl
  have hlen : (Lib.join (c.map litL) [32, 124, 32]).length ≤ 140737488355328 := by
    have h2 := join_len [32, 124, 32] 241444 (c.map litL) (fun y hy => by
      obtain ⟨x, hx, rfl⟩ := List.mem_map.1 hy
      exact litL_len har (hlo x hx))
    rw [List.length_map] at h2
    have h3 : c.length * ([32, 124, 32].length + 241444) ≤ 8 * ([32, 124, 32].length + 241444) := Nat.mul_le_mul_right _ h8
    have h4 : 8 * (([32, 124, 32] : List UInt8).length + 241444) ≤ 140737488355328 := by decide
    exact Nat.le_trans h2 (Nat.le_trans h3 h4)
  have hj := Tryz.strings_Join g 0 cap (c.map (fun x => (⟨(litL x).toArray⟩ : ByteArray))) ⟨#[32, 124, 32]⟩ w (fun j x hx => by
      have h2 := hcell g rfl j (.string x) (by
        rw [List.getElem?_map] at hx ⊢
        obtain ⟨y, hy, rfl⟩ := Option.map_eq_some_iff.1 hx
        rw [hy]
        rfl)
      cases j with
        | zero => exact h2
        | succ j => simpa [Addr.add] using h2) (Array.getElem?_eq_some_iff.1 hh).1 (by rw [List.length_map]; omega) (by rw [List.length_map]; omega) (by rw [e1]; exact hlen)
  rw [e1, List.length_map] at hj
  exact hj
end Go.Proofs.YtbkedppkdhfpoaaGreatDoor

namespace Go.Proofs.YtbkedppkdhfpoaaGreatDoor
open Go.RowKit

theorem Tryz.info9 : (Tryz.prog.info? 9).map (fun i => (i.zero, i.size, i.bytes)) = some (some (.string ⟨#[]⟩), 1, 16) := by kernel_rfl
theorem in_one {w : World} {t : T} {a : Option Addr} {cap n : Nat} {e : TypeId} (hn : n = w.heap.size) (h : InL w t.args a) : InL (w.alloc (.cells #[.int .i64 t.v, .int .i64 t.f, .slice a t.args.length cap] e)) [t] (some ⟨n, 0, none⟩) := InP_new1 e hn trivial h
theorem in_two {w : World} {t : T} {a : Option Addr} {cap n : Nat} {e : TypeId} {o : Obj} (hn : n = w.heap.size) (h : InL w t.args a) : InL ((w.alloc (.cells #[.int .i64 t.v, .int .i64 t.f, .slice a t.args.length cap] e)).alloc o) [t] (some ⟨n, 0, none⟩) := InP_below (below1 _ _) (in_one hn h)
theorem in_drew {w : World} {ts : List T} {a : Option Addr} (h : InL w ts a) : InL w.drew ts a := InP_below ((Below.refl _ _).drew) h
theorem appD {w2 wr W3 Y wD : World} {own : Option Nat} (h3 : Below w2.heap.size w2 W3) (hz : W3.heap.size = wr.heap.size + 1) (ho : ∀ j, own = some j → w2.heap.size ≤ j ∧ j < wr.heap.size) (hgr : Y.grownBy wD own) (hY : Below W3.heap.size W3 Y) :
    Below w2.heap.size w2 wD ∧ ∀ j v, W3.cell? ⟨wr.heap.size, j, none⟩ = some v → wD.cell? ⟨wr.heap.size, j, none⟩ = some v := by
  have hs := hY.size
  refine ⟨(h3.trans (hY.mono h3.size)).grown hgr (Nat.le_trans h3.size hs) (fun j hj => (ho j hj).1), fun j v hv => ?_⟩
  rw [World.cell?_of_block (w := Y) (a := ⟨wr.heap.size, j, none⟩) (hgr.block wr.heap.size (by omega) (fun e => by have := (ho _ e.symm).2; omega))]
  exact cell_below hY hv
theorem written_one {ar : List Int} (har : ar.length ≤ 12) {t : T} (ht : t.sz ≤ 120 ∧ okP ar t) (n : Nat) (w : World) (htab : Tab w) (hin : InL w [t] (some ⟨n, 0, none⟩)) :
    Calls Tryz.prog 20 #[.slice (some ⟨n, 0, none⟩) 1 1] w fun e w' => e = .returned (.string ⟨(textT t).toArray⟩) ∧ Below w.heap.size w w' := by
  have e2 : textT.textL [t] = textT t := by rw [textT.textL, textT.textC, List.append_nil]
  have h := written_any ar har [t] (some ⟨n, 0, none⟩) 1 w (by rw [T.szL_cons]; show t.sz + 0 ≤ 1000; omega) (fun s hs => by rw [List.mem_singleton.1 hs]; exact ht.2) htab hin
  rw [e2] at h
  exact h
attribute [local go_sem ↓] Go.wp_at_zero Go.wp_at_succ
set_option maxRecDepth 100000 in
set_option maxHeartbeats 4000000 in
theorem tClause_any (ar : List Int) (ga : Option Addr) (gcap : Nat) (c : List Lit) (ca : Option Addr) (cc : Nat) (w : World) (hl : c.length ≤ 9223372036854775807) (hg : Ints w ar ga) (htab : Tab w) (hc : LitsP w c ca) :
    Calls Tryz.prog 6 #[.agg #[.slice ga ar.length gcap], .slice ca c.length cc] w fun e w' => e = .returned (.tuple #[.string ⟨(if clausesErr ar [c] = 0 then clauseL c else []).toArray⟩, .int .i64 (clausesErr ar [c])]) ∧ Below w.heap.size w w' := by
  obtain ⟨W1, hW1⟩ : ∃ W1, W1 = w.alloc (.cells #[.slice ga ar.length gcap] 24) := ⟨_, rfl⟩
  have hbW : Below w.heap.size w W1 := by rw [hW1]; exact below1 _ _
  have hz1 : W1.heap.size = w.heap.size + 1 := by rw [hW1]; simp
  have hcg : W1.cell? ⟨w.heap.size, 0, none⟩ = some (.slice ga ar.length gcap) := by rw [hW1]; exact cell_new 0 rfl
  have HC := hide (checkClause_any ar ga gcap c ca cc W1 hl (Ints_below hbW hg) (LitsP_below hbW hc))
  have Hok := hide (fun (h : clausesErr ar [c] = 0) => clauses_ok h)
  obtain ⟨E, hE⟩ : ∃ E, E = clausesErr ar [c] := ⟨_, rfl⟩
  obtain ⟨Y, hY⟩ : ∃ Y, Y = (if clausesErr ar [c] = 0 then clauseL c else []) := ⟨_, rfl⟩
  rw [← hY, ← hE]
  rw [← hE] at HC Hok hY
  have HY := hide hY
  have HW1 := hide hW1
  have HbW := hide hbW
  have Hz1 := hide hz1
  have Htab := hide (Tab_below hbW htab)
  have Hc := hide (LitsP_lt (LitsP_below hbW hc))
  have g0 := hcg
  clear hE hY hW1 hbW hz1 htab hc hg hcg
  go_enter Tryz.func6, Tryz.ntmps6
  go_upto_region 1 with fail
  rw [← HW1.out]
  go_wp2_with fail
  refine HC.out.mono ?_
  rintro e w2 ⟨rfl, hb2⟩
  have Hb2 := hide hb2
  have Hf2 := hide (HbW.out.trans (hb2.mono (by have := Hz1.out; omega)))
  clear hb2 HC g0
  by_cases h0 : E = 0
  · obtain ⟨hs, h8, hlo⟩ := Hok.out h0
    have har := tsig_len hs
    have HY1 : Hid (Y = clauseL c) := by show _ = _; rw [HY.out, if_pos h0]
    subst h0
    have Hlo := hide hlo
    clear HY Hok hlo hs
    cases hcn : c with
    | nil =>
      obtain rfl : Y = [36, 102, 97, 108, 115, 101] := by rw [HY1.out, hcn]; rfl
      subst hcn
      clear HY1
      go_wp2_with fail
      go_ret2
      exact ⟨rfl, Hf2.out⟩
    | cons c0 cr =>
      have hne : ((c.length : Int) == 0) = false := by rw [beq_eq_false_iff_ne, hcn, List.length_cons]; omega
      have HJn : Hid (Y = Lib.join (c.map litL) [32, 124, 32]) := by show _ = _; rw [HY1.out, clauseL, hcn]; rfl
      have hpos : 0 < c.length := by rw [hcn]; simp
      rw [← hcn]
      clear hcn HY1
      obtain ⟨ti, hi, hzz⟩ := Option.map_eq_some_iff.1 Tryz.info9
      simp only [Prod.mk.injEq] at hzz
      obtain ⟨hz0, hz1, hz2⟩ := hzz
      go_wp2_with fail
      go_loopw [7, 21] (fun lv i wr => ∃ k : Nat, k ≤ c.length ∧ i = .int .i64 k ∧ Hid (wr.ownsRow w2.heap.size 9 1 lv k ((c.take k).map (fun x => strV (litL x)))) ∧ Hid (Below w2.heap.size w2 wr)) (fun _ i _ => c.length - (intOf i).toNat)
      case atStart => exact ⟨0, Nat.zero_le _, rfl, ⟨rfl, Or.inl ⟨rfl, rfl⟩⟩, Below.refl _ _⟩
      case round =>
        obtain ⟨k, hk, rfl, Hown, Hb⟩ := hrel
        have hzr := Hb.out.size
        obtain ⟨la, lc, rfl⟩ := own_shape Hown.out
        by_cases hlt : k < c.length
        · obtain ⟨b, off, rfl⟩ := LitsP_some (LitsQ_lits Hc.out) (by omega)
          obtain ⟨x, hx⟩ : ∃ x, c[k]? = some x := ⟨c[k], List.getElem?_eq_getElem hlt⟩
          have HbR := hide (Hb2.out.trans (Hb.out.mono Hb2.out.size))
          obtain ⟨a1, c1, a2, c2, k0, k1, k2, k3, k4, k5, k6, hi1, hi2⟩ := LitsP_at (LitsP_below HbR.out (LitsQ_lits Hc.out)) hx
          have hxo := Hlo.out x (List.mem_of_getElem? hx)
          obtain ⟨W3, hW3⟩ : ∃ W3, W3 = wr.alloc (.cells #[.bool x.1, .int .i64 x.2.1.v, .int .i64 x.2.1.f, .slice a1 x.2.1.args.length c1, .int .i64 x.2.2.v, .int .i64 x.2.2.f, .slice a2 x.2.2.args.length c2] 52) := ⟨_, rfl⟩
          have hb3 : Below wr.heap.size wr W3 := by rw [hW3]; exact below1 _ _
          have hz3 : W3.heap.size = wr.heap.size + 1 := by rw [hW3]; simp
          have h7 : L7 W3 wr.heap.size 0 x a1 c1 a2 c2 := by rw [hW3]; exact L7.new _ rfl
          have HTY := hide (fun (Y : World) (hb : Below W3.heap.size W3 Y) => Tab_below hb (Tab_below hb3 (Tab_below HbR.out Htab.out)))
          have Hi1 := hide (fun (Y : World) (hb : Below W3.heap.size W3 Y) => (show InL Y x.2.1.args a1 from InP_below hb (InP_below hb3 hi1)))
          have Hi2 := hide (fun (Y : World) (hb : Below W3.heap.size W3 Y) => (show InL Y x.2.2.args a2 from InP_below hb (InP_below hb3 hi2)))
          have HA := hide (fun (Y : World) (n : Nat) (hb : Below W3.heap.size W3 Y) (hin : InL Y [x.2.1] (some ⟨n, 0, none⟩)) => written_one har hxo.1 n Y (HTY.out Y hb) hin)
          have HB := hide (fun (Y : World) (n : Nat) (hb : Below W3.heap.size W3 Y) (hin : InL Y [x.2.2] (some ⟨n, 0, none⟩)) => written_one har hxo.2 n Y (HTY.out Y hb) hin)
          have HSg := hide (fun (Y : World) => sign_any x a1 c1 a2 c2 Y)
          have hla := (term_len har _).1 x.2.1 (Nat.le_refl _) hxo.1.2
          have hlb := (term_len har _).1 x.2.2 (Nat.le_refl _) hxo.2.2
          have hls : (signL x.1).length ≤ 4 := by rw [signL]; split <;> simp
          have hsA := hxo.1.1
          have hsB := hxo.2.1
          have hadd1 : ¬ 9223372036854775807 < (textT x.2.1).length + (signL x.1).length := by omega
          have hadd2 : ¬ 9223372036854775807 < (textT x.2.1).length + (signL x.1).length + (textT x.2.2).length := by omega
          have HO := hide (fun (Y : World) (hb : Below W3.heap.size W3 Y) => own_same (own_same Hown.out (fun g hg => hb3.block g (own_lt Hown.out g hg).2)) (w' := Y) (fun g hg => hb.block g (by have := (own_lt Hown.out g hg).2; omega)))
          have Hst : Hid ((c.take (k + 1)).map (fun x => strV (litL x)) = (c.take k).map (fun x => strV (litL x)) ++ [strV (litL x)]) := by show _ = _; rw [List.take_add_one, hx, List.map_append]; rfl
          have hS := hide (fun (w' : World) (hb : Below W3.heap.size W3 w') => (show w'.cell? ⟨wr.heap.size, 0, none⟩ = some (.bool x.1) ∧ w'.cell? ⟨wr.heap.size, 1, none⟩ = some (.int .i64 x.2.1.v) ∧ w'.cell? ⟨wr.heap.size, 2, none⟩ = some (.int .i64 x.2.1.f) ∧ w'.cell? ⟨wr.heap.size, 3, none⟩ = some (.slice a1 x.2.1.args.length c1) ∧ w'.cell? ⟨wr.heap.size, 4, none⟩ = some (.int .i64 x.2.2.v) ∧ w'.cell? ⟨wr.heap.size, 5, none⟩ = some (.int .i64 x.2.2.f) ∧ w'.cell? ⟨wr.heap.size, 6, none⟩ = some (.slice a2 x.2.2.args.length c2) from by
            obtain ⟨u0, u1, u2, u3, u4, u5, u6⟩ := h7.below hb
            simp only [Nat.zero_add] at u1 u2 u3 u4 u5 u6
            exact ⟨u0, u1, u2, u3, u4, u5, u6⟩))
          have HbW3 := hide (Hb.out.trans (hb3.mono hzr))
          have HW3 := hide hW3
          have Hz3 := hide hz3
          have hkI : (k : Int) < c.length := by omega
          have hk0 : (0 : Int) ≤ k := by omega
          obtain ⟨p0, p1, p2, p3, p4, p5, p6⟩ := hS.out W3 (Below.refl _ _)
          have Hp := hide (hS.out W3 (Below.refl _ _))
          clear hx hxo hi1 hi2 hW3 hb3 h7 hz3
          go_wp2_with fail
          rw [← HW3.out]
          go_region_held3 (fun w' => w'.cell? ⟨wr.heap.size, 0, none⟩ = some (.bool x.1) ∧ w'.cell? ⟨wr.heap.size, 1, none⟩ = some (.int .i64 x.2.1.v) ∧ w'.cell? ⟨wr.heap.size, 2, none⟩ = some (.int .i64 x.2.1.f) ∧ w'.cell? ⟨wr.heap.size, 3, none⟩ = some (.slice a1 x.2.1.args.length c1) ∧ w'.cell? ⟨wr.heap.size, 4, none⟩ = some (.int .i64 x.2.2.v) ∧ w'.cell? ⟨wr.heap.size, 5, none⟩ = some (.int .i64 x.2.2.f) ∧ w'.cell? ⟨wr.heap.size, 6, none⟩ = some (.slice a2 x.2.2.args.length c2)) ((first | (with_reducible exact ⟨HcD.out _ _ Hp.out.1, HcD.out _ _ Hp.out.2.1, HcD.out _ _ Hp.out.2.2.1, HcD.out _ _ Hp.out.2.2.2.1, HcD.out _ _ Hp.out.2.2.2.2.1, HcD.out _ _ Hp.out.2.2.2.2.2.1, HcD.out _ _ Hp.out.2.2.2.2.2.2⟩) | (refine hS.out _ ?_; (repeat' (first | with_reducible exact HxC.out | with_reducible exact HxB.out | with_reducible exact HxA.out | with_reducible exact Below.refl _ _ | (with_reducible refine Below.drew ?_) | (refine Below.alloc ?_ ?_ _; rotate_left; focus (first | omega | (simp; omega) | (simp; done))))); done) | go_keep)) ((first
            | (go_at_call 20
               with_reducible refine (HA.out _ _ ?_ ?_).mono ?_
               · (repeat' (first | with_reducible exact HxC.out | with_reducible exact HxB.out | with_reducible exact HxA.out | with_reducible exact Below.refl _ _ | (with_reducible refine Below.drew ?_) | (refine Below.alloc ?_ ?_ _; rotate_left; focus (first | omega | (simp; omega) | (simp; done)))))
               · (repeat (first | (with_reducible refine in_drew ?_) | (with_reducible refine InP_below HY2.out ?_) | (with_reducible refine InP_below HY1.out ?_))); first | (with_reducible refine in_one ?_ (Hi1.out _ ?_); (focus (first | rfl | (simp; done))); (repeat' (first | with_reducible exact HxC.out | with_reducible exact HxB.out | with_reducible exact HxA.out | with_reducible exact Below.refl _ _ | (with_reducible refine Below.drew ?_) | (refine Below.alloc ?_ ?_ _; rotate_left; focus (first | omega | (simp; omega) | (simp; done))))); done) | (with_reducible refine in_two ?_ (Hi1.out _ ?_); (focus (first | rfl | (simp; done))); (repeat' (first | with_reducible exact HxC.out | with_reducible exact HxB.out | with_reducible exact HxA.out | with_reducible exact Below.refl _ _ | (with_reducible refine Below.drew ?_) | (refine Below.alloc ?_ ?_ _; rotate_left; focus (first | omega | (simp; omega) | (simp; done))))); done) | fail
               rintro e xA ⟨rfl, hbA⟩
               have HY1 := hide hbA
               have HxA : Hid (Below W3.heap.size W3 xA) := by
                 refine Below.trans (b := _) ?_ (hbA.mono ?_)
                 · (repeat' (first | with_reducible exact HxC.out | with_reducible exact HxB.out | with_reducible exact HxA.out | with_reducible exact Below.refl _ _ | (with_reducible refine Below.drew ?_) | (refine Below.alloc ?_ ?_ _; rotate_left; focus (first | omega | (simp; omega) | (simp; done)))))
                 · first | omega | (simp; omega) | (simp; done)
               have hzA := HxA.out.size
               clear hbA)
            | (go_at_call 22
               with_reducible refine (HSg.out _).mono ?_
               rintro e xB ⟨rfl, hbB⟩
               have HY2 := hide hbB
               have HxB : Hid (Below W3.heap.size W3 xB) := by
                 refine Below.trans (b := _) ?_ (hbB.mono ?_)
                 · (repeat' (first | with_reducible exact HxC.out | with_reducible exact HxB.out | with_reducible exact HxA.out | with_reducible exact Below.refl _ _ | (with_reducible refine Below.drew ?_) | (refine Below.alloc ?_ ?_ _; rotate_left; focus (first | omega | (simp; omega) | (simp; done)))))
                 · first | omega | (simp; omega) | (simp; done)
               have hzB := HxB.out.size
               clear hbB)
            | (go_at_call 20
               with_reducible refine (HB.out _ _ ?_ ?_).mono ?_
               · (repeat' (first | with_reducible exact HxC.out | with_reducible exact HxB.out | with_reducible exact HxA.out | with_reducible exact Below.refl _ _ | (with_reducible refine Below.drew ?_) | (refine Below.alloc ?_ ?_ _; rotate_left; focus (first | omega | (simp; omega) | (simp; done)))))
               · (repeat (first | (with_reducible refine in_drew ?_) | (with_reducible refine InP_below HY2.out ?_) | (with_reducible refine InP_below HY1.out ?_))); first | (with_reducible refine in_one ?_ (Hi2.out _ ?_); (focus (first | rfl | (simp; done))); (repeat' (first | with_reducible exact HxC.out | with_reducible exact HxB.out | with_reducible exact HxA.out | with_reducible exact Below.refl _ _ | (with_reducible refine Below.drew ?_) | (refine Below.alloc ?_ ?_ _; rotate_left; focus (first | omega | (simp; omega) | (simp; done))))); done) | (with_reducible refine in_two ?_ (Hi2.out _ ?_); (focus (first | rfl | (simp; done))); (repeat' (first | with_reducible exact HxC.out | with_reducible exact HxB.out | with_reducible exact HxA.out | with_reducible exact Below.refl _ _ | (with_reducible refine Below.drew ?_) | (refine Below.alloc ?_ ?_ _; rotate_left; focus (first | omega | (simp; omega) | (simp; done))))); done) | fail
               rintro e xC ⟨rfl, hbC⟩
               have HxC : Hid (Below W3.heap.size W3 xC) := by
                 refine Below.trans (b := _) ?_ (hbC.mono ?_)
                 · (repeat' (first | with_reducible exact HxC.out | with_reducible exact HxB.out | with_reducible exact HxA.out | with_reducible exact Below.refl _ _ | (with_reducible refine Below.drew ?_) | (refine Below.alloc ?_ ?_ _; rotate_left; focus (first | omega | (simp; omega) | (simp; done)))))
                 · first | omega | (simp; omega) | (simp; done)
               have hzC := HxC.out.size
               clear hbC)
            | (refine step_append_lies _ rfl (.tmp 25) (.tmp 38) 50 rfl w2.heap.size 9 ti (.string ⟨#[]⟩) 1 16 Tryz.underlying50 hi hz0 hz1 hz2 rfl (by decide) (.slice la k lc) k ((c.take k).map (fun x => strV (litL x))) rfl (HO.out _ (by (repeat' (first | with_reducible exact HxC.out | (with_reducible refine Below.drew ?_) | (refine Below.alloc ?_ ?_ _; rotate_left; focus (first | omega | (simp; omega) | (simp; done))))))) ⟨xC.heap.size, 0, none⟩ 1 1 [.string ⟨(textT x.2.1 ++ signL x.1 ++ textT x.2.2).toArray⟩] rfl rfl (World.news_of_block (heap_alloc_new xC _)) (by simp [Value.oneCell']) (by decide) (by unfold maxLen; omega) (by omega) (by have := Hz3.out; simp; omega) _ rfl ?_
               intro g capg wD hownD hgrD hatD hltD
               have HoD : Hid (wD.ownsRow w2.heap.size 9 1 (.slice (some ⟨g, 0, none⟩) (k + 1) capg) (k + 1) ((c.take (k + 1)).map (fun x => strV (litL x)))) := by
                 unfold Hid
                 rw [Hst.out]
                 exact hownD
               have hYC : Hid (Below w2.heap.size w2 wD ∧ ∀ j v, W3.cell? ⟨wr.heap.size, j, none⟩ = some v → wD.cell? ⟨wr.heap.size, j, none⟩ = some v) := by
                 unfold Hid
                 refine appD HbW3.out Hz3.out (fun j hj => own_lt Hown.out j hj) hgrD ?_
                 (repeat' (first | with_reducible exact HxC.out | (with_reducible refine Below.drew ?_) | (refine Below.alloc ?_ ?_ _; rotate_left; focus (first | omega | (simp; omega) | (simp; done)))))
               have HfD := hide hYC.out.1
               have HcD := hide hYC.out.2
               clear hownD hgrD hatD)
            | fail))
          all_goals (
            go_wp2_with fail
            go_roundw
            case rel => exact ⟨k + 1, by omega, by go_num, HoD, HfD⟩
            case measure => simp [intOf]; omega)
        · obtain rfl : k = c.length := by omega
          rw [List.take_length] at Hown
          have HJ := hide (join_own har Hlo.out h8 hpos Hown.out)
          have Hfr := hide (Hf2.out.trans (Hb.out.mono Hf2.out.size))
          rw [← HJn.out] at HJ
          have hkI : ¬ ((c.length : Int) < c.length) := by omega
          go_wp2_with fail
          refine HJ.out.mono ?_
          rintro e w4 ⟨rfl, hb4⟩
          have Hb4 := hide (Hfr.out.trans (hb4.mono Hfr.out.size))
          clear hb4
          go_wp2_with fail
          go_ret2
          exact ⟨rfl, Hb4.out⟩
  · have h0' : (E != 0) = true := by simpa using h0
    obtain rfl : Y = [] := by rw [HY.out, if_neg h0]
    clear h0 HY Hok
    go_wp2_with fail
    go_ret2
    exact ⟨rfl, Hf2.out⟩
end Go.Proofs.YtbkedppkdhfpoaaGreatDoor

namespace Go.Proofs.YtbkedppkdhfpoaaGreatDoor
open Go.RowKit

/-- What a reader has still to read. -/
def IsR (w : World) (b : Nat) (l : List UInt8) : Prop := w.heap[b]? = some (.cells #[.string ⟨l.toArray⟩] 86 (0, 0))
/-- Nothing but the reader is written. -/
structure Rd (b : Nat) (w w' : World) : Prop where
  below : Below b w w'
  size : w.heap.size ≤ w'.heap.size
  block : ∀ k, k < w.heap.size → k ≠ b → w'.heap[k]? = w.heap[k]?
theorem Rd.refl (b : Nat) (w : World) : Rd b w w := ⟨Below.refl _ _, Nat.le_refl _, fun _ _ _ => rfl⟩
theorem Rd.trans {b : Nat} {w w1 w2 : World} (h : Rd b w w1) (h2 : Rd b w1 w2) : Rd b w w2 :=
  ⟨h.below.trans h2.below, Nat.le_trans h.size h2.size, fun k hk hb => by rw [h2.block k (Nat.lt_of_lt_of_le hk h.size) hb, h.block k hk hb]⟩
theorem Rd.of_below {b : Nat} {w w' : World} (hb : b ≤ w.heap.size) (h : Below w.heap.size w w') : Rd b w w' := ⟨h.mono hb, h.size, fun k hk _ => h.block k hk⟩
theorem IsR.lt {w : World} {b : Nat} {l : List UInt8} (h : IsR w b l) : b < w.heap.size := (Array.getElem?_eq_some_iff.1 h).1
theorem IsR.cell {w : World} {b : Nat} {l : List UInt8} (h : IsR w b l) : w.cell? ⟨b, 0, none⟩ = some (.string ⟨l.toArray⟩) := by rw [Lib.cell_of_heap h]; rfl
theorem IsR.below {w w' : World} {b : Nat} {l : List UInt8} (h : IsR w b l) (hb : Below w.heap.size w w') : IsR w' b l := by
  unfold IsR
  rw [hb.block b h.lt]
  exact h
theorem IsR.frozen {w : World} {b : Nat} {l : List UInt8} (h : IsR w b l) : w.frozen? ⟨b, 0, none⟩ = false := by
  unfold IsR at h
  simp [World.frozen?, h]
theorem IsR.set {w : World} {b : Nat} {l : List UInt8} (h : IsR w b l) (m : List UInt8) : IsR (w.setCell ⟨b, 0, none⟩ (.string ⟨m.toArray⟩)) b m := by
  unfold IsR at h ⊢
  simp only [World.setCell]
  rw [Array.getElem?_modify, h]
  simp
set_option maxRecDepth 100000 in
set_option maxHeartbeats 1000000 in
theorem take_any (b : Nat) (l p : List UInt8) (w : World) (h : IsR w b l) :
    Calls Tryz.prog 47 #[.pointer (some ⟨b, 0, none⟩), .string ⟨p.toArray⟩] w fun e w' => e = .returned (.bool (Lib.hasPrefix l p)) ∧ IsR w' b (Lib.trimPrefix l p) ∧ Rd b w w' := by
  have c0 := h.cell
  have hf0 := h.frozen
  have hC := Tryz.strings_CutPrefix ⟨l.toArray⟩ ⟨p.toArray⟩ w
  have e1 : (⟨l.toArray⟩ : ByteArray).data.toList = l := rfl
  have e2 : (⟨p.toArray⟩ : ByteArray).data.toList = p := rfl
  rw [e1, e2] at hC
  have HC := hide hC
  have H := hide h
  clear hC h e1 e2
  go_enter Tryz.func47, Tryz.ntmps47
  go_wp2_with fail
  refine HC.out.mono ?_
  rintro e w1 ⟨rfl, rfl⟩
  go_wp2_with fail
  go_ret
  refine ⟨rfl, ?_, (Below.refl b w1).setCell (p := ⟨b, 0, none⟩) (Nat.le_refl _) _, by simp [World.setCell], fun k _ hb => Below.heap_setCell _ _ _ _ hb⟩
  exact H.out.set _
/-- Reading gives up. -/
def gaveUp : Ending := .panicked [{ v := .iface 83 (.agg #[]), recovered := false }]
set_option maxRecDepth 100000 in
set_option maxHeartbeats 1000000 in
theorem ask_any (b : Nat) (so : Bool) (w : World) :
    Calls Tryz.prog 46 #[.pointer (some ⟨b, 0, none⟩), .bool so] w fun e w' => e = (if so then .returned (.tuple #[]) else gaveUp) ∧ w' = w := by
  cases so with
  | true =>
    go_enter Tryz.func46, Tryz.ntmps46
    go_wp2_with fail
    go_end0
    exact ⟨rfl, rfl⟩
  | false =>
    go_enter Tryz.func46, Tryz.ntmps46
    go_wp2_with fail
    exact ⟨rfl, rfl, rfl⟩
end Go.Proofs.YtbkedppkdhfpoaaGreatDoor

namespace Go.Proofs
open Go.Shelf
def Tryz.lays161_ren : Go.Shelf.Ren := ⟨fun | 161 => 57 | 231 => 64 | 227 => 65 | 233 => 66 | 235 => 67 | 228 => 76 | 197 => 77 | 151 => 78 | 260 => 86 | 152 => 87 | 137 => 95 | 119 => 96 | 224 => 97 | 225 => 98 | 217 => 106 | 266 => 109 | n => n, fun | 9 => 9 | 4 => 4 | 3 => 3 | 5 => 5 | 117 => 104 | 116 => 103 | 0 => 0 | 124 => 107 | 105 => 114 | 21 => 21 | 119 => 139 | 46 => 129 | 139 => 142 | 138 => 141 | n => n, fun | 3 => 3 | 4 => 4 | n => n⟩
theorem Tryz.lays161 : Go.Proofs.Lays.n161 Tryz.prog Tryz.lays161_ren := {
  mixed := by kernel_rfl
  f119 := Tryz.func96.trans (congrArg some (by kernel_rfl))
  f137 := Tryz.func95.trans (congrArg some (by kernel_rfl))
  f151 := Tryz.func78.trans (congrArg some (by kernel_rfl))
  f152 := Tryz.func87.trans (congrArg some (by kernel_rfl))
  f161 := Tryz.func57.trans (congrArg some (by kernel_rfl))
  f197 := Tryz.func77.trans (congrArg some (by kernel_rfl))
  f217 := Tryz.func106.trans (congrArg some (by kernel_rfl))
  f224 := Tryz.func97.trans (congrArg some (by kernel_rfl))
  f225 := Tryz.func98.trans (congrArg some (by kernel_rfl))
  f227 := Tryz.func65.trans (congrArg some (by kernel_rfl))
  f228 := Tryz.func76.trans (congrArg some (by kernel_rfl))
  f231 := Tryz.func64.trans (congrArg some (by kernel_rfl))
  f233 := Tryz.func66.trans (congrArg some (by kernel_rfl))
  f235 := Tryz.func67.trans (congrArg some (by kernel_rfl))
  f260 := Tryz.func86.trans (congrArg some (by kernel_rfl))
  f266 := Tryz.func109.trans (congrArg some (by kernel_rfl))
  t0 := Tryz.underlying0
  a0 := Tryz.isAgg0
  z0 := Tryz.sizeOf0
  v0 := Tryz.zeroValue0
  t3 := Tryz.underlying3
  a3 := Tryz.isAgg3
  z3 := Tryz.sizeOf3
  v3 := Tryz.zeroValue3
  t4 := Tryz.underlying4
  a4 := Tryz.isAgg4
  z4 := Tryz.sizeOf4
  v4 := Tryz.zeroValue4
  t5 := Tryz.underlying5
  a5 := Tryz.isAgg5
  z5 := Tryz.sizeOf5
  v5 := Tryz.zeroValue5
  t9 := Tryz.underlying9
  a9 := Tryz.isAgg9
  z9 := Tryz.sizeOf9
  v9 := Tryz.zeroValue9
  t21 := Tryz.underlying21
  a21 := Tryz.isAgg21
  z21 := Tryz.sizeOf21
  v21 := Tryz.zeroValue21
  t46 := Tryz.underlying129
  a46 := Tryz.isAgg129
  z46 := Tryz.sizeOf129
  v46 := Tryz.zeroValue129
  t105 := Tryz.underlying114
  a105 := Tryz.isAgg114
  z105 := Tryz.sizeOf114
  v105 := Tryz.zeroValue114
  t116 := Tryz.underlying103
  a116 := Tryz.isAgg103
  z116 := Tryz.sizeOf103
  t117 := Tryz.underlying104
  a117 := Tryz.isAgg104
  z117 := Tryz.sizeOf104
  v117 := Tryz.zeroValue104
  t119 := Tryz.underlying139
  a119 := Tryz.isAgg139
  z119 := Tryz.sizeOf139
  t124 := Tryz.underlying107
  a124 := Tryz.isAgg107
  z124 := Tryz.sizeOf107
  v124 := Tryz.zeroValue107
  t138 := Tryz.underlying141
  a138 := Tryz.isAgg141
  z138 := Tryz.sizeOf141
  v138 := Tryz.zeroValue141
  t139 := Tryz.underlying142
  a139 := Tryz.isAgg142
  z139 := Tryz.sizeOf142
  v139 := Tryz.zeroValue142
  g3 := by kernel_rfl
  g4 := by kernel_rfl }
theorem Tryz.strings_TrimLeft_digits (s : ByteArray) (w : World) :
    Calls Tryz.prog 57 #[.string s, .string ⟨#[48, 49, 50, 51, 52, 53, 54, 55, 56, 57]⟩] w fun e w' => e = .returned (.string ⟨(Lib.trimLeftS s.data.toList [48, 49, 50, 51, 52, 53, 54, 55, 56, 57]).toArray⟩) ∧ Go.RowKit.Below w.heap.size w w' :=
  Any.strings_TrimLeft_laid Tryz.lays161 (by kernel_rfl) s ⟨#[48, 49, 50, 51, 52, 53, 54, 55, 56, 57]⟩ w (by decide) (ascii_of_all (by decide))
end Go.Proofs

namespace Go.Proofs.YtbkedppkdhfpoaaGreatDoor
open Go.RowKit

/-- The ten digits. -/
def tens : List UInt8 := [48, 49, 50, 51, 52, 53, 54, 55, 56, 57]
/-- The digits that a text opens with. -/
def digs (l : List UInt8) : List UInt8 := l.takeWhile (tens.contains ·)
/-- What is behind them. -/
def aft (l : List UInt8) : List UInt8 := l.dropWhile (tens.contains ·)
/-- Digits that are a number's. -/
abbrev numOk (d : List UInt8) : Prop := (0 < d.length ∧ d.length ≤ 9) ∧ (d = [48] ∨ d[0]? ≠ some 48)
/-- Their number. -/
def numV (d : List UInt8) : Int := (Lib.atoi d).getD 0
/-- A number that is read, and what is left. -/
def rdNum (l : List UInt8) : Option (Int × List UInt8) := if numOk (digs l) then some (numV (digs l), aft l) else none
theorem digs_aft (l : List UInt8) : digs l ++ aft l = l := List.takeWhile_append_dropWhile
theorem digs_len (l : List UInt8) : (digs l).length + (aft l).length = l.length := by rw [← List.length_append, digs_aft]
theorem digs_cut (l : List UInt8) : (⟨l.toArray⟩ : ByteArray).extract 0 (digs l).length = ⟨(digs l).toArray⟩ := by
  apply ByteArray.ext
  rw [ByteArray.data_extract]
  show l.toArray.extract 0 _ = _
  rw [List.extract_toArray]
  congr 1
  rw [List.extract_eq_take_drop, List.drop_zero, Nat.sub_zero]
  have h : (digs l ++ aft l).take (digs l).length = digs l := List.take_left' rfl
  rw [digs_aft] at h
  exact h
theorem digs_mem {l : List UInt8} {x : UInt8} (h : x ∈ digs l) : tens.contains x = true := by
  have := List.all_takeWhile (l := l) (p := (tens.contains ·))
  exact List.all_eq_true.1 this x h
theorem dec_all (d : List UInt8) (h : ∀ x ∈ d, tens.contains x = true) : ∀ acc, ∃ n, Lib.decFrom acc d = some n := by
  induction d with
  | nil => intro acc; exact ⟨_, rfl⟩
  | cons a t ih =>
    intro acc
    have ha := h a List.mem_cons_self
    have hd : ∃ d, Lib.digitVal a = some d := by
      simp only [tens, List.contains_cons, List.contains_nil, Bool.or_false, Bool.or_eq_true, beq_iff_eq] at ha
      rcases ha with rfl | rfl | rfl | rfl | rfl | rfl | rfl | rfl | rfl | rfl <;> exact ⟨_, rfl⟩
    obtain ⟨d, hd⟩ := hd
    obtain ⟨n, hn⟩ := ih (fun x hx => h x (List.mem_cons_of_mem _ hx)) (acc * 10 + d)
    refine ⟨n, ?_⟩
    rw [Lib.decFrom, hd]
    exact hn
theorem atoi_all (d : List UInt8) (h0 : 0 < d.length) (h : ∀ x ∈ d, tens.contains x = true) : Lib.atoi d = some (numV d) := by
  cases d with
  | nil => cases h0
  | cons a t =>
    have ha := h a List.mem_cons_self
    obtain ⟨n, hn⟩ := dec_all (a :: t) h 0
    have h1 : (a == 45) = false := by
      rw [beq_eq_false_iff_ne]; rintro rfl; exact absurd ha (by decide)
    have h2 : (a == 43) = false := by
      rw [beq_eq_false_iff_ne]; rintro rfl; exact absurd ha (by decide)
    have e : Lib.atoi (a :: t) = some (n : Int) := by
      rw [Lib.atoi, h1, h2, if_neg (by decide), if_neg (by decide), Lib.decNat, if_neg (by simp), hn]
      rfl
    rw [numV, e]
    rfl
theorem ask_yes (b : Nat) (w : World) : Calls Tryz.prog 46 #[.pointer (some ⟨b, 0, none⟩), .bool true] w fun e w' => e = .returned (.tuple #[]) ∧ w' = w := ask_any b true w
theorem ask_no (b : Nat) (w : World) : Calls Tryz.prog 46 #[.pointer (some ⟨b, 0, none⟩), .bool false] w fun e w' => e = .panicked [{ v := .iface 83 (.agg #[]), recovered := false }] ∧ w' = w := ask_any b false w
theorem rd_set {w : World} {b : Nat} (v : Value) : Rd b w (w.setCell ⟨b, 0, none⟩ v) := ⟨(Below.refl b w).setCell (p := ⟨b, 0, none⟩) (Nat.le_refl _) _, by simp [World.setCell], fun k _ hb => Below.heap_setCell _ _ _ _ hb⟩
attribute [local go_sem ↓] Go.wp_at_zero Go.wp_at_succ
set_option maxRecDepth 100000 in
set_option maxHeartbeats 2000000 in
theorem number_any (b : Nat) (l : List UInt8) (hl : l.length ≤ 3000) (w : World) (h : IsR w b l) :
    Calls Tryz.prog 48 #[.pointer (some ⟨b, 0, none⟩)] w fun e w' => Rd b w w' ∧ (match rdNum l with | some (n, r) => e = .returned (.int .i64 n) ∧ IsR w' b r | none => e = gaveUp) := by
  obtain ⟨R, hR⟩ : ∃ R, R = rdNum l := ⟨_, rfl⟩
  rw [← hR]
  have HR := hide hR
  clear hR
  have c0 := h.cell
  have hT := Tryz.strings_TrimLeft_digits ⟨l.toArray⟩ w
  have e1 : Lib.trimLeftS (⟨l.toArray⟩ : ByteArray).data.toList [48, 49, 50, 51, 52, 53, 54, 55, 56, 57] = aft l := rfl
  rw [e1] at hT
  have hln := digs_len l
  have hsub : IntKind.i64.wrap ((l.length : Int) - ((aft l).length : Int)) = ((digs l).length : Int) := by
    have : (l.length : Int) - ((aft l).length : Int) = ((digs l).length : Int) := by omega
    rw [this]
    rw [IntKind.wrap_i64]; omega
  have hcut := digs_cut l
  have hq0 : (0 : Int) ≤ ((digs l).length : Int) := by omega
  have hq1 : ((digs l).length : Int) ≤ (l.length : Int) := by omega
  have HT := hide hT
  have H := hide h
  clear hT e1 h
  go_enter Tryz.func48, Tryz.ntmps48
  go_wp2_with fail
  refine HT.out.mono ?_
  rintro e w1 ⟨rfl, hb1⟩
  have H1 := hide (H.out.below hb1)
  have c1 := H1.out.cell
  have HR1 := hide (Rd.of_below (Nat.le_of_lt H.out.lt) hb1)
  clear hb1 c0
  go_wp2_with fail
  go_region
  have H2 := hide (H1.out.below ((Below.refl _ w1).drew))
  have HR2 := hide (HR1.out.trans (Rd.of_below (Nat.le_of_lt H1.out.lt) ((Below.refl _ w1).drew)))
  have HA1 := hide (ask_yes b)
  have HA0 := hide (ask_no b)
  clear c1
  by_cases hn : 0 < (digs l).length ∧ (digs l).length ≤ 9
  · obtain ⟨hn0, hn9⟩ := hn
    have g0 : (0 : Int) < ((digs l).length : Int) := by omega
    have g9 : ((digs l).length : Int) ≤ 9 := by omega
    obtain ⟨a, t, hd⟩ : ∃ a t, digs l = a :: t := by
      cases h : digs l with
      | nil => rw [h] at hn0; cases hn0
      | cons a t => exact ⟨a, t, rfl⟩
    have hx : (⟨(digs l).toArray⟩ : ByteArray)[0]'(by show 0 < (digs l).toArray.size; simp; omega) = a := by
      show (digs l).toArray[0]'_ = a
      simp [hd]
    have Hd := hide hd
    clear hd
    go_wp2_with fail
    refine (HA1.out _).mono ?_
    rintro e w2 ⟨rfl, rfl⟩
    have hbad : ((digs l == [48]) = false ∧ ((a.toNat : Int) != 48) = false ∧ ¬ numOk (digs l)) ∨ ((digs l == [48]) = true ∧ numOk (digs l)) ∨ ((digs l == [48]) = false ∧ ((a.toNat : Int) != 48) = true ∧ numOk (digs l)) := by
      by_cases h1 : digs l = [48]
      · exact Or.inr (Or.inl ⟨by rw [h1]; rfl, ⟨hn0, hn9⟩, Or.inl h1⟩)
      · have h2 : (digs l == [48]) = false := by rw [beq_eq_false_iff_ne]; exact h1
        by_cases h3 : a = 48
        · refine Or.inl ⟨h2, by rw [h3]; rfl, fun h => ?_⟩
          rcases h.2 with h | h
          · exact h1 h
          · exact h (by rw [Hd.out, h3]; rfl)
        · refine Or.inr (Or.inr ⟨h2, ?_, ⟨hn0, hn9⟩, Or.inr ?_⟩)
          · rw [bne_iff_ne]
            intro h4
            exact h3 (UInt8.toNat_inj.1 (by have : (48 : UInt8).toNat = 48 := rfl; omega))
          · rw [Hd.out]
            intro h4
            exact h3 (by simpa using h4)
    rcases hbad with ⟨hb1, hb2, hb3⟩ | ⟨hb1, hb3⟩ | ⟨hb1, hb2, hb3⟩
    · obtain rfl : R = none := by rw [HR.out, rdNum, if_neg hb3]
      clear hb3
      go_wp2_with fail
      refine (HA0.out _).mono ?_
      rintro e w2 ⟨rfl, rfl⟩
      exact ⟨rfl, HR2.out, rfl⟩
    all_goals (
      obtain rfl : R = some (numV (digs l), aft l) := by rw [HR.out, rdNum, if_pos hb3]
      clear hb3
      have hAt := hide (fun (Y : World) => Tryz.strconv_Atoi ⟨(digs l).toArray⟩ (numV (digs l)) (by show (digs l).toArray.size ≤ 18; simp; omega) (atoi_all _ hn0 (fun x hx => digs_mem hx)) Y)
      have hf0 := H2.out.frozen
      have c2 := H2.out.cell
      go_wp2_with fail
      refine (HA1.out _).mono ?_
      rintro e w2 ⟨rfl, rfl⟩
      go_wp2_with fail
      refine (hAt.out _).mono ?_
      rintro e w3 ⟨rfl, t3, rfl⟩
      go_wp2_with fail
      refine (HA1.out _).mono ?_
      rintro e w4 ⟨rfl, rfl⟩
      go_wp2_with fail
      go_ret
      have q1 := H1.out.set (aft l)
      have q2 : IsR (w1.setCell ⟨b, 0, none⟩ (.string ⟨(aft l).toArray⟩)).drew b (aft l) := q1.below ((Below.refl _ _).drew)
      have q3 := Lib.bytesWorld_below (w1.setCell ⟨b, 0, none⟩ (.string ⟨(aft l).toArray⟩)).drew 5 t3
      exact ⟨((HR1.out.trans (rd_set _)).trans (Rd.of_below (Nat.le_of_lt q1.lt) ((Below.refl _ _).drew))).trans (Rd.of_below (Nat.le_of_lt q2.lt) q3), rfl, q2.below q3⟩)
  · obtain rfl : R = none := by rw [HR.out, rdNum, if_neg]; exact fun h => hn h.1
    by_cases h0 : 0 < (digs l).length
    · have g0 : (0 : Int) < ((digs l).length : Int) := by omega
      have g9 : ¬ ((digs l).length : Int) ≤ 9 := by omega
      clear hn
      go_wp2_with fail
      refine (HA0.out _).mono ?_
      rintro e w2 ⟨rfl, rfl⟩
      exact ⟨rfl, HR2.out, rfl⟩
    · have g0 : ¬ (0 : Int) < ((digs l).length : Int) := by omega
      clear hn
      go_wp2_with fail
      refine (HA0.out _).mono ?_
      rintro e w2 ⟨rfl, rfl⟩
      exact ⟨rfl, HR2.out, rfl⟩
end Go.Proofs.YtbkedppkdhfpoaaGreatDoor

namespace Go.Proofs.YtbkedppkdhfpoaaGreatDoor
open Go.RowKit

/-- The arguments behind the first, k more at most; rd reads one. -/
def rdMore (rd : List UInt8 → Option (T × List UInt8)) : Nat → List T → List UInt8 → Option (List T × List UInt8)
  | 0, ts, l => if Lib.hasPrefix l [44] then none else if Lib.hasPrefix l [41] then some (ts, Lib.trimPrefix l [41]) else none
  | k + 1, ts, l =>
    if Lib.hasPrefix l [44] then (rd (Lib.trimPrefix l [44])).bind fun x => rdMore rd k (ts ++ [x.1]) x.2
    else if Lib.hasPrefix l [41] then some (ts, Lib.trimPrefix l [41]) else none
/-- A term that is read, and what is left. -/
def rdT : Nat → List UInt8 → Option (T × List UInt8)
  | 0, _ => none
  | n + 1, l =>
    if Lib.hasPrefix l [88] then (rdNum (Lib.trimPrefix l [88])).bind fun x => if 0 < x.1 then some (⟨x.1, 0, []⟩, x.2) else none
    else if Lib.hasPrefix l [102] then
      (rdNum (Lib.trimPrefix l [102])).bind fun x =>
        if Lib.hasPrefix x.2 [40] then
          (rdT n (Lib.trimPrefix x.2 [40])).bind fun y => (rdMore (rdT n) 2 [y.1] y.2).bind fun z => some (⟨0, x.1, z.1⟩, z.2)
        else some (⟨0, x.1, []⟩, x.2)
    else none
theorem has_cons {l : List UInt8} {a : UInt8} (h : Lib.hasPrefix l [a] = true) : l = a :: Lib.trimPrefix l [a] := by
  cases l with
  | nil => simp [Lib.hasPrefix] at h
  | cons x r =>
    have e : x = a := by
      simp only [Lib.hasPrefix, List.isPrefixOf] at h
      simpa using (Eq.symm (by simpa using h) : x = a)
    subst e
    rw [Lib.trimPrefix, if_pos h]
    rfl
theorem take_one (a : UInt8) (r : List UInt8) : Lib.hasPrefix (a :: r) [a] = true ∧ Lib.trimPrefix (a :: r) [a] = r := by
  have h : Lib.hasPrefix (a :: r) [a] = true := by simp [Lib.hasPrefix, List.isPrefixOf]
  exact ⟨h, by rw [Lib.trimPrefix, if_pos h]; rfl⟩
theorem take_not {a x : UInt8} (h : x ≠ a) (r : List UInt8) : Lib.hasPrefix (x :: r) [a] = false := by
  simp [Lib.hasPrefix, List.isPrefixOf, Ne.symm h]
theorem rdNum_len {l : List UInt8} {n : Int} {r : List UInt8} (h : rdNum l = some (n, r)) : r.length < l.length := by
  rw [rdNum] at h
  split at h
  · rename_i hn
    obtain ⟨-, rfl⟩ := Prod.mk.inj (Option.some.inj h)
    have := digs_len l
    have := hn.1.1
    omega
  · cases h
theorem rdMore_len {rd : List UInt8 → Option (T × List UInt8)} (hrd : ∀ l t r, rd l = some (t, r) → r.length < l.length) : ∀ (k : Nat) (ts : List T) (l : List UInt8) (us : List T) (r : List UInt8), rdMore rd k ts l = some (us, r) → r.length < l.length := by
  intro k
  induction k with
  | zero =>
    intro ts l us r h
    rw [rdMore] at h
    split at h
    · cases h
    split at h
    · rename_i h2
      obtain ⟨-, rfl⟩ := Prod.mk.inj (Option.some.inj h)
      have e := congrArg List.length (has_cons h2)
      rw [List.length_cons] at e
      omega
    · cases h
  | succ k ih =>
    intro ts l us r h
    rw [rdMore] at h
    split at h
    · rename_i h2
      obtain ⟨⟨t, r1⟩, h3, h4⟩ := Option.bind_eq_some_iff.1 h
      have e := congrArg List.length (has_cons h2)
      rw [List.length_cons] at e
      have h5 := hrd _ _ _ h3
      have h6 := ih _ _ _ _ h4
      have h7 : r.length < r1.length := h6
      omega
    split at h
    · rename_i h2
      obtain ⟨-, rfl⟩ := Prod.mk.inj (Option.some.inj h)
      have e := congrArg List.length (has_cons h2)
      rw [List.length_cons] at e
      omega
    · cases h
theorem rdT_len : ∀ (n : Nat) (l : List UInt8) (t : T) (r : List UInt8), rdT n l = some (t, r) → r.length < l.length := by
  intro n
  induction n with
  | zero => intro l t r h; cases h
  | succ n ih =>
    intro l t r h
    rw [rdT] at h
    split at h
    · rename_i h1
      obtain ⟨⟨v, r1⟩, h2, h3⟩ := Option.bind_eq_some_iff.1 h
      have e := congrArg List.length (has_cons h1)
      rw [List.length_cons] at e
      have h4 := rdNum_len h2
      simp only at h3
      split at h3
      · obtain ⟨-, rfl⟩ := Prod.mk.inj (Option.some.inj h3)
        omega
      · cases h3
    split at h
    · rename_i h1
      obtain ⟨⟨f, r1⟩, h2, h3⟩ := Option.bind_eq_some_iff.1 h
      have e := congrArg List.length (has_cons h1)
      rw [List.length_cons] at e
      have h4 := rdNum_len h2
      simp only at h3
      split at h3
      · rename_i h5
        obtain ⟨⟨u, r2⟩, h6, h7⟩ := Option.bind_eq_some_iff.1 h3
        obtain ⟨⟨us, r3⟩, h8, h9⟩ := Option.bind_eq_some_iff.1 h7
        obtain ⟨-, rfl⟩ := Prod.mk.inj (Option.some.inj h9)
        have e2 := congrArg List.length (has_cons h5)
        rw [List.length_cons] at e2
        have q1 := ih _ _ _ h6
        have q2 := rdMore_len ih _ _ _ _ _ h8
        simp only at q1 q2 e2 ⊢
        omega
      · obtain ⟨-, rfl⟩ := Prod.mk.inj (Option.some.inj h3)
        omega
    · cases h
end Go.Proofs.YtbkedppkdhfpoaaGreatDoor
