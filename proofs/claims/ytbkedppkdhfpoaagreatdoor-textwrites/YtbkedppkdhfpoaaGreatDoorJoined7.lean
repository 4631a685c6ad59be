/- Texts: what must be in any case. Texts: the document's own digits. Texts: the document's own text of a term. Texts: the document's own text of a clause. The document's own check of clauses. Texts: terms and clauses are written as the document says: the law. The arguments of the statements, read: signatures, terms, places. A clause and a model that a statement is handed, read. -/
import Derived.BigQuiet
import Derived.ChangeOld
import Derived.Deep.RegionHeld3
import Derived.Deep.Slices
import Derived.Deep.Strs
import Derived.Laws.IdiomStrings
import Derived.OpenShut
import Derived.ProofKit
import Derived.Test.YtbkedppkdhfpoaaGreatDoorJoined6
namespace Go.Proofs.YtbkedppkdhfpoaaGreatDoor
open Go.RowKit

def tyX : T := ⟨1, 0, []⟩
def tyA : T := ⟨0, 1, [tyX]⟩
def tyO : T := ⟨0, 0, []⟩
def tyC : List Lit := [(true, tyA, tyO), (false, tyX, tyO)]
def tyY : T := ⟨3, 0, []⟩
def tyT : T := ⟨0, 1, [tyY]⟩
def tyS : List UInt8 := [102, 49, 40, 88, 49, 41, 32, 61, 32, 102, 48, 32, 124, 32, 88, 49, 32, 33, 61, 32, 102, 48]
def tyU : List UInt8 := [102, 49, 40, 88, 51, 41]
theorem ty_ok : clausesErr [0, 1] [tyC] = 0 := by rfl
theorem ty_sig : sigErr [0, 1] = 0 := by rfl
theorem ty_text : clauseL tyC = tyS := by decide +kernel
theorem ty_term : textT tyT = tyU := by decide +kernel
theorem ty_all : allErr [0, 1] [tyT] = 0 := by rfl
theorem ty_rd : rdCl 3001 tyS = some (tyC, []) := by rw [← ty_text]; exact cl_round ty_ok 3001 (by decide)
theorem ty_pe : pcErr [0, 1] tyS = 0 := by rw [pc_some ty_sig (by decide) ty_rd]; exact ty_ok
theorem ty_pc : pcC [0, 1] tyS = tyC := pcC_some ty_pe ty_rd
theorem ty_rt : rdT 3001 tyU = some (tyT, []) := by rw [← ty_term]; exact term_round ty_sig ((allErr_iff.1 ty_all).2 tyT (by simp)) 3001 (by decide)
theorem ty_te : ptErr [0, 1] tyU = 0 := by rw [pt_some ty_sig (by decide) ty_rt]; exact ty_all
theorem ty_tt : ptT [0, 1] tyU = tyT := ptT_some ty_te ty_rt
theorem Clause_begun (n1 n2 : Nat) (w : World) (hg : Ints w [0, 1] (some ⟨n1, 0, none⟩)) (htab : Tab w) (hc : LitsP w tyC (some ⟨n2, 0, none⟩)) :
    Calls Tryz.prog 6 #[.agg #[.slice (some ⟨n1, 0, none⟩) 2 2], .slice (some ⟨n2, 0, none⟩) 2 2] w fun e w' => e = .returned (.tuple #[.string ⟨tyS.toArray⟩, .int .i64 0]) ∧ Below w.heap.size w w' := by
  have h := tClause_any [0, 1] (some ⟨n1, 0, none⟩) 2 tyC (some ⟨n2, 0, none⟩) 2 w (by decide) hg htab hc
  rw [ty_ok, if_pos rfl, ty_text] at h
  exact h
/-- What ParseClause hands back of the text. -/
def TyB1 (w : World) (e : Ending) (w' : World) : Prop := ∃ a cap, e = .returned (.tuple #[.slice a 2 cap, .int .i64 0]) ∧ Below w.heap.size w w'
theorem ParseClause_begun (n1 : Nat) (w : World) (hg : Ints w [0, 1] (some ⟨n1, 0, none⟩)) :
    Calls Tryz.prog 14 #[.agg #[.slice (some ⟨n1, 0, none⟩) 2 2], .string ⟨tyS.toArray⟩] w (TyB1 w) := by
  have h := parseClause_any [0, 1] (some ⟨n1, 0, none⟩) 2 tyS w hg
  rw [ty_pe, ty_pc] at h
  refine h.mono ?_
  rintro e w' ⟨a, cap, rfl, -, hb⟩
  exact ⟨a, cap, rfl, hb⟩
/-- What ParseTerm hands back of the text. -/
def TyB2 (w : World) (e : Ending) (w' : World) : Prop := ∃ a cap, e = .returned (.tuple #[.agg #[.int .i64 0, .int .i64 1, .slice a 1 cap], .int .i64 0]) ∧ InL w' [tyY] a ∧ Below w.heap.size w w'
theorem ParseTerm_begun (n1 : Nat) (w : World) (hg : Ints w [0, 1] (some ⟨n1, 0, none⟩)) :
    Calls Tryz.prog 13 #[.agg #[.slice (some ⟨n1, 0, none⟩) 2 2], .string ⟨tyU.toArray⟩] w (TyB2 w) := by
  have h := parseTerm_any [0, 1] (some ⟨n1, 0, none⟩) 2 tyU w hg
  rw [ty_te, ty_tt] at h
  refine h.mono ?_
  rintro e w' ⟨a, cap, rfl, hi, hb⟩
  exact ⟨a, cap, rfl, InP_imp (fun _ _ => trivial) hi, hb⟩
theorem Term_begun (n1 : Nat) (a : Option Addr) (cap : Nat) (w : World) (hg : Ints w [0, 1] (some ⟨n1, 0, none⟩)) (htab : Tab w) (hin : InL w [tyY] a) :
    Calls Tryz.prog 5 #[.agg #[.slice (some ⟨n1, 0, none⟩) 2 2], .agg #[.int .i64 0, .int .i64 1, .slice a 1 cap]] w fun e w' => e = .returned (.tuple #[.string ⟨tyU.toArray⟩, .int .i64 0]) ∧ Below w.heap.size w w' := by
  have h := tTerm_any [0, 1] (some ⟨n1, 0, none⟩) 2 tyT a cap w hg htab hin
  rw [ty_all, if_pos rfl, ty_term] at h
  exact h
theorem ty_lits {w : World} {n m c2 : Nat} (hn : n = w.heap.size) (hin : InL w [tyX] (some ⟨m, 0, none⟩)) :
    LitsP (w.alloc (.cells #[.bool true, .int .i64 0, .int .i64 1, .slice (some ⟨m, 0, none⟩) 1 c2, .int .i64 0, .int .i64 0, .slice none 0 0, .bool false, .int .i64 1, .int .i64 0, .slice none 0 0, .int .i64 0, .int .i64 0, .slice none 0 0] 52)) tyC (some ⟨n, 0, none⟩) := by
  subst hn
  have hc : ∀ j v, #[Value.bool true, .int .i64 0, .int .i64 1, .slice (some ⟨m, 0, none⟩) 1 c2, .int .i64 0, .int .i64 0, .slice none 0 0, .bool false, .int .i64 1, .int .i64 0, .slice none 0 0, .int .i64 0, .int .i64 0, .slice none 0 0][j]? = some v → (w.alloc (.cells #[.bool true, .int .i64 0, .int .i64 1, .slice (some ⟨m, 0, none⟩) 1 c2, .int .i64 0, .int .i64 0, .slice none 0 0, .bool false, .int .i64 1, .int .i64 0, .slice none 0 0, .int .i64 0, .int .i64 0, .slice none 0 0] 52)).cell? ⟨w.heap.size, j, none⟩ = some v := fun j v h => by rw [cell_new j rfl]; exact h
  exact ⟨w.heap.size, 0, some ⟨m, 0, none⟩, c2, none, 0, rfl, hc 0 _ rfl, hc 1 _ rfl, hc 2 _ rfl, hc 3 _ rfl, hc 4 _ rfl, hc 5 _ rfl, hc 6 _ rfl, InP_below (below1 _ _) hin, InP_nil, w.heap.size, 7, none, 0, none, 0, rfl, hc 7 _ rfl, hc 8 _ rfl, hc 9 _ rfl, hc 10 _ rfl, hc 11 _ rfl, hc 12 _ rfl, hc 13 _ rfl, InP_nil, InP_nil, trivial⟩
attribute [local go_sem ↓] Go.wp_at_zero Go.wp_at_succ
set_option maxRecDepth 100000 in
set_option maxHeartbeats 2000000 in
theorem textBegun_any (w : World) (htab : Tab w) : Calls Tryz.prog 12 #[] w fun e w' => e = .returned (.bool true) ∧ Below w.heap.size w w' := by
  have Htab := hide htab
  clear htab
  go_enter Tryz.func12, Tryz.ntmps12
  go_wp2_with fail
  refine (small_any _).mono ?_
  rintro e w1 ⟨n1, rfl, hg1, hb1⟩
  go_wp2_with fail
  refine (va_any 1 _).mono ?_
  rintro e w2 ⟨rfl, hb2⟩
  go_wp2_with fail
  refine (fn_any 1 _ 1 1 _).mono ?_
  rintro e w3 ⟨rfl, hb3⟩
  go_wp2_with fail
  refine (fn_any 0 _ 0 0 _).mono ?_
  rintro e w4 ⟨rfl, hb4⟩
  go_wp2_with fail
  refine (va_any 1 _).mono ?_
  rintro e w5 ⟨rfl, hb5⟩
  go_wp2_with fail
  refine (fn_any 0 _ 0 0 _).mono ?_
  rintro e w6 ⟨rfl, hb6⟩
  have hz1 := hb1.size
  have hz2 := hb2.size
  have hz3 := hb3.size
  have hz4 := hb4.size
  have hz5 := hb5.size
  have hz6 := hb6.size
  simp at hz3
  have hb36 : Below w3.heap.size w3 w6 := hb4.trans ((hb5.mono hz4).trans (hb6.mono (by omega)))
  have hb26 : Below w2.heap.size w2 w6 := (below1 _ _).trans ((hb3.mono (by simp)).trans (hb36.mono (by omega)))
  have hb06 : Below w.heap.size w w6 := hb1.trans ((hb2.mono hz1).trans (hb26.mono (by omega)))
  have hg6 := Ints_below hb26 (Ints_below hb2 hg1)
  have hin6 : InL w6 [tyX] (some ⟨w2.heap.size, 0, none⟩) := InP_below (hb36.mono (by omega)) (InP_below hb3 (InP_newT (p := fun _ => True) (w := w2) (t := tyX) 27 rfl trivial rfl))
  have HLt := hide (ty_lits (n := w6.heap.size) (c2 := 1) rfl hin6)
  have HG := hide (Ints_below (below1 w6 (.cells #[.bool true, .int .i64 0, .int .i64 1, .slice (some ⟨w2.heap.size, 0, none⟩) 1 1, .int .i64 0, .int .i64 0, .slice none 0 0, .bool false, .int .i64 1, .int .i64 0, .slice none 0 0, .int .i64 0, .int .i64 0, .slice none 0 0] 52)) hg6)
  have Hb06 := hide hb06
  clear hb1 hb2 hb3 hb4 hb5 hb6 hb36 hb26 hb06 hg6 hin6 hg1
  go_wp2_with fail
  refine (Clause_begun n1 _ _ HG.out (Tab_below (below1 _ _) (Tab_below Hb06.out Htab.out)) HLt.out).mono ?_
  rintro e w7 ⟨rfl, hb7⟩
  have Hb07 := hide (Hb06.out.trans (((below1 w6 _).trans (hb7.mono (by simp))).mono Hb06.out.size))
  clear hb7 HG HLt Hb06 hz1 hz2 hz3 hz4 hz5 hz6
  go_wp2_with fail
  refine (small_any _).mono ?_
  rintro e w8 ⟨n8, rfl, hg8, hb8⟩
  have Hb08 := hide (Hb07.out.trans (hb8.mono Hb07.out.size))
  have HPC := hide (ParseClause_begun n8 w8 hg8)
  clear hb8 Hb07 hg8
  go_wp2_with fail
  refine HPC.out.mono ?_
  rintro e w9 ⟨a9, cap9, rfl, hb9⟩
  have Hb09 := hide (Hb08.out.trans (hb9.mono Hb08.out.size))
  clear hb9 Hb08 HPC
  go_wp2_with fail
  refine (small_any _).mono ?_
  rintro e wa ⟨na, rfl, hga, hba⟩
  have Hb0a := hide (Hb09.out.trans (hba.mono Hb09.out.size))
  have HPT := hide (ParseTerm_begun na wa hga)
  clear hba Hb09 hga
  go_wp2_with fail
  refine HPT.out.mono ?_
  rintro e wb ⟨ab, capb, rfl, hinb, hbb⟩
  have Hb0b := hide (Hb0a.out.trans (hbb.mono Hb0a.out.size))
  clear hbb Hb0a HPT
  have hS := hide (fun (w' : World) (hb : Below (wb.heap.size + 1) (wb.alloc (.cells #[.int .i64 0, .int .i64 1, .slice ab 1 capb] 27)) w') => (show w'.cell? ⟨wb.heap.size, 0, none⟩ = some (.int .i64 0) ∧ w'.cell? ⟨wb.heap.size, 1, none⟩ = some (.int .i64 1) ∧ w'.cell? ⟨wb.heap.size, 2, none⟩ = some (.slice ab 1 capb) from
    ⟨((Three.new 27 rfl).same (hb.block _ (by omega))).c0, ((Three.new 27 rfl).same (hb.block _ (by omega))).c1, ((Three.new 27 rfl).same (hb.block _ (by omega))).c2⟩))
  have hI := hide (fun (w' : World) (hb : Below (wb.heap.size + 1) (wb.alloc (.cells #[.int .i64 0, .int .i64 1, .slice ab 1 capb] 27)) w') => InP_below ((below1 wb _).trans (hb.mono (by omega))) hinb)
  have hB := hide (fun (w' : World) (hb : Below (wb.heap.size + 1) (wb.alloc (.cells #[.int .i64 0, .int .i64 1, .slice ab 1 capb] 27)) w') => (Hb0b.out.alloc Hb0b.out.size _).trans (hb.mono (by have := Hb0b.out.size; omega)))
  clear hinb Hb0b
  go_wp2_with fail
  go_region_held3 (fun w' => w'.cell? ⟨wb.heap.size, 0, none⟩ = some (.int .i64 0) ∧ w'.cell? ⟨wb.heap.size, 1, none⟩ = some (.int .i64 1) ∧ w'.cell? ⟨wb.heap.size, 2, none⟩ = some (.slice ab 1 capb)) ((first | go_keep | exact hS.out _ (Hid.out ‹Hid (Below _ _ _)›))) ((first
    | (go_at_call 27
       refine (small_any _).mono ?_
       rintro e w6 ⟨n6, rfl, hg6, hb6⟩
       have H6 : Hid (Below (wb.heap.size + 1) (wb.alloc (.cells #[.int .i64 0, .int .i64 1, .slice ab 1 capb] 27)) w6) := by
         have := below_undrew hb6
         simpa [Hid] using this)
    | (go_at_call 5
       refine (Term_begun n6 ab capb _ hg6 (Tab_below (hB.out _ H6.out) Htab.out) (hI.out _ H6.out)).mono ?_
       rintro e w7 ⟨rfl, hb7⟩
       have H7 : Hid (Below (wb.heap.size + 1) (wb.alloc (.cells #[.int .i64 0, .int .i64 1, .slice ab 1 capb] 27)) w7) := H6.out.trans (hb7.mono (by have := H6.out.size; simpa using this)))))
  clear H6 hg6 hb6 hb7
  go_wp2_with fail
  go_ret
  exact ⟨rfl, hB.out _ H7.out⟩
end Go.Proofs.YtbkedppkdhfpoaaGreatDoor

namespace Go.Proofs.YtbkedppkdhfpoaaGreatDoor
open Go.RowKit

theorem digits_small {n : Nat} (h : n < 10) : Lib.decDigits n = [UInt8.ofNat (48 + n)] := by rw [Lib.decDigits, dif_pos h]
theorem digits_great {n : Nat} (h : ¬ n < 10) : Lib.decDigits n = Lib.decDigits (n / 10) ++ Lib.decDigits (n % 10) := by
  rw [digits_small (Nat.mod_lt _ (by decide)), Lib.decDigits, dif_neg h]
attribute [local go_sem ↓] Go.wp_at_zero Go.wp_at_succ
set_option maxRecDepth 100000 in
set_option maxHeartbeats 1000000 in
theorem Digits_any (N : Nat) : ∀ (n : Nat) (w : World), n < N → n ≤ 1000 → Calls Tryz.prog 26 #[.int .i64 n] w fun e w' => e = .returned (.string ⟨(Lib.decDigits n).toArray⟩) ∧ Below w.heap.size w w' := by
  induction N with
  | zero => intro n w h; exact absurd h (Nat.not_lt_zero _)
  | succ N ih =>
    intro n w hn hl
    by_cases h : n < 10
    · have h10 : (n : Int) < 10 := by omega
      have hcv : (convert 70 9 (.slice (some ⟨w.heap.size, 0, none⟩) 1 1)).run Tryz.prog (w.alloc (.cells #[.int .u8 (48 + (n : Int))] 5)) = .ok (.string ⟨[UInt8.ofNat (48 + n)].toArray⟩) (w.alloc (.cells #[.int .u8 (48 + (n : Int))] 5)) :=
        run_convert_bytes_back (P := Tryz.prog) (w.alloc (.cells #[.int .u8 (48 + (n : Int))] 5)) 70 9 5 ⟨w.heap.size, 0, none⟩ 1 [UInt8.ofNat (48 + n)] Tryz.underlying70 Tryz.underlying5 Tryz.underlying9 (fun j hj => by
        obtain rfl : j = 0 := by simp at hj; omega
        rw [show (⟨w.heap.size, 0, none⟩ : Addr).add 0 = ⟨w.heap.size, 0, none⟩ from rfl, cell_new 0 rfl]
        have e : (UInt8.ofNat (48 + n)).toNat = 48 + n := by rw [UInt8.toNat_ofNat']; omega
        show some (Value.int .u8 (48 + (n : Int))) = some (Value.int .u8 (((UInt8.ofNat (48 + n)).toNat : Nat) : Int))
        rw [e]
        simp)
      rw [digits_small h]
      go_enter Tryz.func26, Tryz.ntmps26
      go_wp2_with fail
      go_ret
      refine ⟨?_, below1 _ _⟩
      simp
    · have h10 : ¬ (n : Int) < 10 := by omega
      have hq : ((n / 10 : Nat) : Int) = (n : Int) / 10 := by omega
      have hr : ((n % 10 : Nat) : Int) = (n : Int) % 10 := by omega
      have H1 := hide (fun (w : World) => ih (n / 10) w (by omega) (by omega))
      have H2 := hide (fun (w : World) => ih (n % 10) w (by omega) (by omega))
      rw [hq] at H1
      rw [hr] at H2
      have hd := digits_great h
      have hlen := dec_len n
      rw [hd, List.length_append] at hlen
      rw [hd]
      have hadd : ¬ 9223372036854775807 < (Lib.decDigits (n / 10)).length + (Lib.decDigits (n % 10)).length := by omega
      clear hd hq hr hlen
      go_enter Tryz.func26, Tryz.ntmps26
      go_wp2_with fail
      refine (H1.out _).mono ?_
      rintro e w1 ⟨rfl, hb1⟩
      go_wp2_with fail
      refine (H2.out _).mono ?_
      rintro e w2 ⟨rfl, hb2⟩
      have Hb := hide (hb1.trans (hb2.mono hb1.size))
      clear hb1 hb2
      go_wp2_with fail
      go_ret
      exact ⟨by rw [bytes_append]; rfl, Hb.out⟩
end Go.Proofs.YtbkedppkdhfpoaaGreatDoor

namespace Go.Proofs.YtbkedppkdhfpoaaGreatDoor
open Go.RowKit

theorem Digits_int (z : Int) (h0 : 0 ≤ z) (h1 : z ≤ 1000) (w : World) : Calls Tryz.prog 26 #[.int .i64 z] w fun e w' => e = .returned (.string ⟨(Lib.itoa z).toArray⟩) ∧ Below w.heap.size w w' := by
  obtain ⟨n, rfl⟩ := Int.eq_ofNat_of_zero_le h0
  have e : Lib.itoa (n : Int) = Lib.decDigits n := by
    rw [Lib.itoa, if_neg (by omega)]
    rfl
  rw [e]
  exact Digits_any (n + 1) n w (by omega) (by omega)
theorem szL_le_take (ts : List T) (k : Nat) : T.sz.szL (ts.take k) ≤ T.sz.szL ts := by
  have h := T.szL_append (ts.take k) (ts.drop k)
  rw [List.take_append_drop] at h
  omega
/-- What of a term's text is written when k arguments are. -/
def upTo (t : T) (k : Nat) : List UInt8 := nameL t ++ (if k = 0 then [] else 40 :: textT.textL (t.args.take k))
theorem upTo_len {ar : List Int} (har : ar.length ≤ 12) {t : T} (hok : okP ar t) (hsz : t.sz ≤ 1000) (k : Nat) : (upTo t k).length ≤ 2000000 := by
  have h1 := nameL_len har hok
  have h2 := ((term_len har _).2 (t.args.take k) (Nat.le_refl _) (fun x hx => okArg hok (List.mem_of_mem_take hx))).1
  have h3 := szL_le_take t.args k
  have h4 : T.sz.szL t.args < t.sz := by cases t; simp [T.sz]
  rw [upTo, List.length_append]
  split
  · simp; omega
  · rw [List.length_cons]; omega
theorem upTo_step {t x : T} {k : Nat} (h : t.args[k]? = some x) : upTo t (k + 1) = upTo t k ++ (if k = 0 then [40] else [44]) ++ textT x := by
  rw [upTo, upTo, textL_step h, if_neg (by omega)]
  by_cases h0 : k = 0
  · subst h0
    simp [textT.textL]
  · rw [if_neg h0, if_neg h0, if_neg h0]
    simp
theorem upTo_end (t : T) : upTo t t.args.length ++ (if t.args.length = 0 then [] else [41]) = textT t := by
  rw [upTo, textT_eq, List.take_length]
  by_cases h : t.args.length = 0
  · have : t.args = [] := List.length_eq_zero_iff.1 h
    rw [if_pos h, if_pos h, this]
    simp
  · have : t.args.isEmpty = false := by
      rw [List.isEmpty_eq_false_iff]
      intro e
      rw [e] at h
      exact h rfl
    rw [if_neg h, if_neg h, this]
    simp
attribute [local go_sem ↓] Go.wp_at_zero Go.wp_at_succ
set_option maxRecDepth 100000 in
set_option maxHeartbeats 2000000 in
theorem TermText_any (ar : List Int) (har : ar.length ≤ 12) (N : Nat) : ∀ (t : T) (a : Option Addr) (cap : Nat) (w : World), t.sz < N → t.sz ≤ 1000 → okP ar t → InL w t.args a →
    Calls Tryz.prog 10 #[.agg #[.int .i64 t.v, .int .i64 t.f, .slice a t.args.length cap]] w fun e w' => e = .returned (.string ⟨(textT t).toArray⟩) ∧ Below w.heap.size w w' := by
  induction N with
  | zero => intro t a cap w h; exact absurd h (Nat.not_lt_zero _)
  | succ N ih =>
    intro t a cap w hN hsz hok hin
    obtain ⟨W1, hW1⟩ : ∃ W1, W1 = w.alloc (.cells #[.int .i64 t.v, .int .i64 t.f, .slice a t.args.length cap] 27) := ⟨_, rfl⟩
    have hbW : Below w.heap.size w W1 := by rw [hW1]; exact below1 _ _
    have hz1 : W1.heap.size = w.heap.size + 1 := by rw [hW1]; simp
    have h3 : Three W1 w.heap.size (.int .i64 t.v) (.int .i64 t.f) (.slice a t.args.length cap) := by rw [hW1]; exact Three.new _ rfl
    obtain ⟨⟨hv0, hv1⟩, hf0, hf1⟩ := ok_nums har hok
    have HDv := hide (fun (Y : World) => Digits_int t.v hv0 hv1 Y)
    have HDf := hide (fun (Y : World) => Digits_int t.f hf0 hf1 Y)
    have Hin := hide (InP_below hbW hin)
    have H3 := hide (fun (Y : World) (hb : Below W1.heap.size W1 Y) => h3.below hb)
    have HF := hide (fun (Y : World) (hb : Below W1.heap.size W1 Y) => hbW.trans (hb.mono (by omega)))
    have HW1 := hide hW1
    have hlv := itoa_len hv0 hv1
    have hlf := itoa_len hf0 hf1
    obtain ⟨X, hX⟩ : ∃ X, X = textT t := ⟨_, rfl⟩
    rw [← hX]
    have HX := hide hX
    have hlt1 : t.args.length ≤ 1000 := by
      have h1 := T.length_le t.args
      have h4 : T.sz.szL t.args < t.sz := by cases t; simp [T.sz]
      omega
    obtain ⟨p0, p1, p2, -, -, -⟩ := h3
    have Hih := hide ih
    have Hok := hide hok
    clear hW1 hbW hz1 hin hX ih hok
    go_enter Tryz.func10, Tryz.ntmps10
    go_upto_region 1 with fail
    rw [← HW1.out]
    by_cases hv : t.v = 0
    · have hvn : ¬ (0 < t.v) := by omega
      have Hup : Hid (nameL t = [102] ++ Lib.itoa t.f) := by show _ = _; rw [nameL, if_neg (by simpa using hv)]; rfl
      have hadd0 : ¬ 9223372036854775807 < 1 + (Lib.itoa t.f).length := by omega
      go_wp2_with fail
      refine (HDf.out _).mono ?_
      rintro e w2 ⟨rfl, hb2⟩
      have Hb2 := hide hb2
      clear hb2 p0 p1 p2
      go_wp2_with fail
      rw [show ({ data := #[102] } : ByteArray) ++ { data := (Lib.itoa t.f).toArray } = ⟨(nameL t).toArray⟩ by rw [Hup.out]; exact bytes_append [102] _]
      go_loopw [3, 4] (fun sv i wr => ∃ k : Nat, k ≤ t.args.length ∧ i = .int .i64 k ∧ sv = .string ⟨(upTo t k).toArray⟩ ∧ Hid (Below W1.heap.size W1 wr)) (fun _ i _ => t.args.length - (intOf i).toNat)
      case atStart => exact ⟨0, Nat.zero_le _, rfl, by rw [upTo, if_pos rfl, List.append_nil], Hb2.out⟩
      case round =>
        obtain ⟨k, hk, rfl, rfl, Hb⟩ := hrel
        have hS := upTo_len har Hok.out hsz k
        obtain ⟨S, hSe⟩ : ∃ S, S = upTo t k := ⟨_, rfl⟩
        rw [← hSe] at hS ⊢
        have HSe := hide hSe
        obtain ⟨q0, q1, q2, -, -, -⟩ := H3.out wr Hb.out
        clear hSe
        by_cases hlt : k < t.args.length
        · obtain ⟨ba, off, rfl⟩ := InP_some Hin.out (by omega)
          obtain ⟨x, hx⟩ : ∃ x, t.args[k]? = some x := ⟨t.args[k], List.getElem?_eq_getElem hlt⟩
          obtain ⟨a1, cap1, -, c0, c1, c2, hinx⟩ := InP_at (InP_below Hb.out Hin.out) hx
          have hxm := List.mem_of_getElem? hx
          have hxo := okArg Hok.out hxm
          have hxs : x.sz < t.sz := by have h1 := T.szL_mem hxm; have h4 : T.sz.szL t.args < t.sz := by cases t; simp [T.sz]
                                       omega
          have HI := hide (Hih.out x a1 cap1 wr (by omega) (by omega) hxo hinx)
          have hxl := (term_len har _).1 x (Nat.le_refl _) hxo
          have Hst := hide (upTo_step hx)
          have hkI : (k : Int) < t.args.length := by omega
          have hk0 : (0 : Int) ≤ k := by omega
          have hadd1 : ¬ 9223372036854775807 < S.length + 1 := by omega
          have hadd2 : ¬ 9223372036854775807 < S.length + 1 + (textT x).length := by omega
          clear hx hxm hxo hinx
          by_cases hk00 : k = 0
          · subst hk00
            simp only [Nat.zero_mul, Nat.add_zero] at c0 c1 c2
            rw [if_pos rfl, ← HSe.out] at Hst
            go_wp2_with fail
            refine HI.out.mono ?_
            rintro e w4 ⟨rfl, hb4⟩
            have Hb4 := hide (Hb.out.trans (hb4.mono Hb.out.size))
            clear hb4
            go_wp2_with fail
            go_roundw
            case rel => exact ⟨0 + 1, by omega, by go_num, by rw [Hst.out, ← bytes_append, ← bytes_append], Hb4⟩
            case measure => simp [intOf]; omega
          · have hkb : ((k : Int) == 0) = false := by rw [beq_eq_false_iff_ne]; omega
            rw [if_neg hk00, ← HSe.out] at Hst
            go_wp2_with fail
            refine HI.out.mono ?_
            rintro e w4 ⟨rfl, hb4⟩
            have Hb4 := hide (Hb.out.trans (hb4.mono Hb.out.size))
            clear hb4
            go_wp2_with fail
            go_roundw
            case rel => exact ⟨k + 1, by omega, by go_num, by rw [Hst.out, ← bytes_append, ← bytes_append], Hb4⟩
            case measure => simp [intOf]; omega
        · obtain rfl : k = t.args.length := by omega
          have hkI : ¬ ((t.args.length : Int) < t.args.length) := by omega
          have Hf := hide (HF.out _ Hb.out)
          have hend := upTo_end t
          rw [← HSe.out, ← HX.out] at hend
          by_cases h0 : t.args.length = 0
          · have h0' : ¬ (0 : Int) < (t.args.length : Int) := by omega
            rw [if_pos h0, List.append_nil] at hend
            subst hend
            clear h0
            go_wp2_with fail
            go_ret
            exact ⟨rfl, Hf.out⟩
          · have h0' : (0 : Int) < (t.args.length : Int) := by omega
            rw [if_neg h0] at hend
            have Hend := hide hend
            have hadd1 : ¬ 9223372036854775807 < S.length + 1 := by omega
            clear h0 hend
            go_wp2_with fail
            go_ret
            exact ⟨by rw [← Hend.out, ← bytes_append]; rfl, Hf.out⟩
    · have hvp : 0 < t.v := by omega
      have Hup : Hid (X = [88] ++ Lib.itoa t.v) := by
        show _ = _
        rw [HX.out, textT_eq, nameL, if_pos hv, (ok_var Hok.out hv).2]
        simp
      have hadd0 : ¬ 9223372036854775807 < 1 + (Lib.itoa t.v).length := by omega
      clear hv
      go_wp2_with fail
      refine (HDv.out _).mono ?_
      rintro e w2 ⟨rfl, hb2⟩
      have Hf := hide (HF.out _ hb2)
      clear hb2
      go_wp2_with fail
      go_ret
      exact ⟨by rw [Hup.out, ← bytes_append]; rfl, Hf.out⟩
end Go.Proofs.YtbkedppkdhfpoaaGreatDoor

namespace Go.Proofs.YtbkedppkdhfpoaaGreatDoor
open Go.RowKit

theorem joinTail_snoc (sep : List UInt8) (l : List (List UInt8)) (y : List UInt8) : Lib.joinTail sep (l ++ [y]) = Lib.joinTail sep l ++ (sep ++ y) := by simp [Lib.joinTail]
/-- The text of the first literals. -/
def clUp (c : List Lit) (k : Nat) : List UInt8 := Lib.join ((c.take k).map litL) [32, 124, 32]
theorem clUp_step {c : List Lit} {k : Nat} {x : Lit} (h : c[k]? = some x) : clUp c (k + 1) = clUp c k ++ (if k = 0 then [] else [32, 124, 32]) ++ textT x.2.1 ++ signL x.1 ++ textT x.2.2 := by
  have e : (c.take (k + 1)).map litL = (c.take k).map litL ++ [litL x] := by rw [List.take_add_one, h, List.map_append]; rfl
  rw [clUp, clUp, e]
  by_cases h0 : k = 0
  · subst h0
    rw [if_pos rfl, List.take_zero, List.map_nil, List.nil_append, Lib.join_one, Lib.join_nil, litL]
    simp
  · rw [if_neg h0]
    have hlt := (List.getElem?_eq_some_iff.1 h).1
    cases hc : (c.take k).map litL with
    | nil =>
      have : ((c.take k).map litL).length = 0 := by rw [hc]; rfl
      rw [List.length_map, List.length_take] at this
      omega
    | cons y r =>
      rw [List.cons_append, Lib.join_cons, Lib.join_cons, joinTail_snoc, litL]
      simp
theorem clUp_len {ar : List Int} (har : ar.length ≤ 12) {c : List Lit} (hlo : LitsOk ar c) (h8 : c.length ≤ 8) (k : Nat) : (clUp c k).length ≤ 3000000 := by
  have h2 := join_len [32, 124, 32] 241444 ((c.take k).map litL) (fun y hy => by
    obtain ⟨x, hx, rfl⟩ := List.mem_map.1 hy
    exact litL_len har (hlo x (List.mem_of_mem_take hx)))
  rw [List.length_map] at h2
  have h3 : (c.take k).length * ([32, 124, 32].length + 241444) ≤ 8 * ([32, 124, 32].length + 241444) := Nat.mul_le_mul_right _ (by rw [List.length_take]; omega)
  have h4 : 8 * (([32, 124, 32] : List UInt8).length + 241444) ≤ 3000000 := by decide
  exact Nat.le_trans h2 (Nat.le_trans h3 h4)
attribute [local go_sem ↓] Go.wp_at_zero Go.wp_at_succ
set_option maxRecDepth 100000 in
set_option maxHeartbeats 2000000 in
theorem ClauseText_any (ar : List Int) (har : ar.length ≤ 12) (c : List Lit) (ca : Option Addr) (cc : Nat) (w : World) (hlo : LitsOk ar c) (h8 : c.length ≤ 8) (hc : LitsP w c ca) :
    Calls Tryz.prog 11 #[.slice ca c.length cc] w fun e w' => e = .returned (.string ⟨(clauseL c).toArray⟩) ∧ Below w.heap.size w w' := by
  obtain ⟨X, hX⟩ : ∃ X, X = clauseL c := ⟨_, rfl⟩
  rw [← hX]
  by_cases hn : c.length = 0
  · obtain rfl : c = [] := List.length_eq_zero_iff.1 hn
    subst hX
    clear hn hc hlo
    go_enter Tryz.func11, Tryz.ntmps11
    go_wp2_with fail
    go_ret
    exact ⟨rfl, Below.refl _ _⟩
  · have hne : ((c.length : Int) == 0) = false := by rw [beq_eq_false_iff_ne]; omega
    have HX : Hid (X = clUp c c.length) := by
      show _ = _
      rw [hX, clauseL, clUp, List.take_length]
      have : c.isEmpty = false := by
        rw [List.isEmpty_eq_false_iff]
        intro e
        rw [e] at hn
        exact hn rfl
      rw [this]
      rfl
    have Hc := hide hc
    have Hlo := hide hlo
    have HT := hide (fun (x : T) (a : Option Addr) (cap : Nat) (Y : World) (hs : x.sz ≤ 120 ∧ okP ar x) (hi : InL Y x.args a) => TermText_any ar har (x.sz + 1) x a cap Y (by omega) (by omega) hs.2 hi)
    clear hX hc hlo hn
    go_enter Tryz.func11, Tryz.ntmps11
    go_wp2_with fail
    go_loopw [3, 4] (fun sv i wr => ∃ k : Nat, k ≤ c.length ∧ i = .int .i64 k ∧ sv = .string ⟨(clUp c k).toArray⟩ ∧ Hid (Below w.heap.size w wr)) (fun _ i _ => c.length - (intOf i).toNat)
    case atStart => exact ⟨0, Nat.zero_le _, rfl, rfl, Below.refl _ _⟩
    case round =>
      obtain ⟨k, hk, rfl, rfl, Hb⟩ := hrel
      have hS := clUp_len har Hlo.out h8 k
      obtain ⟨S, hSe⟩ : ∃ S, S = clUp c k := ⟨_, rfl⟩
      rw [← hSe] at hS ⊢
      have HSe := hide hSe
      clear hSe
      by_cases hlt : k < c.length
      · obtain ⟨b, off, rfl⟩ := LitsP_some Hc.out (by omega)
        obtain ⟨x, hx⟩ : ∃ x, c[k]? = some x := ⟨c[k], List.getElem?_eq_getElem hlt⟩
        obtain ⟨a1, c1, a2, c2, k0, k1, k2, k3, k4, k5, k6, hi1, hi2⟩ := LitsP_at (LitsP_below Hb.out Hc.out) hx
        have hxo := Hlo.out x (List.mem_of_getElem? hx)
        have HA := hide (HT.out x.2.1 a1 c1 wr hxo.1 hi1)
        have HB := hide (fun (Y : World) (hb : Below wr.heap.size wr Y) => HT.out x.2.2 a2 c2 Y hxo.2 (InP_below hb hi2))
        have HK := hide (fun (Y : World) (hb : Below wr.heap.size wr Y) => And.intro (cell_below hb k0) (And.intro (cell_below hb k4) (And.intro (cell_below hb k5) (cell_below hb k6))))
        have hla := (term_len har _).1 x.2.1 (Nat.le_refl _) hxo.1.2
        have hlb := (term_len har _).1 x.2.2 (Nat.le_refl _) hxo.2.2
        have hsA := hxo.1.1
        have hsB := hxo.2.1
        have Hst := hide (clUp_step hx)
        have hkI : (k : Int) < c.length := by omega
        have hk0 : (0 : Int) ≤ k := by omega
        obtain ⟨q, yt, zt⟩ := x
        clear hx hxo hi1 hi2
        have hadd0 : ¬ 9223372036854775807 < S.length + 3 := by omega
        by_cases hk00 : k = 0
        case' pos =>
          have hkd : ¬ (0 : Int) < k := by omega
          rw [if_pos hk00, List.append_nil, ← HSe.out] at Hst
          have hS2 := hS
          obtain ⟨S2, hS2e⟩ : ∃ S2, S2 = S := ⟨_, rfl⟩
          rw [← hS2e] at hS2 Hst ⊢
          clear hk00 hS2e
          go_wp2_with fail
        case' neg =>
          have hkd : (0 : Int) < k := by omega
          rw [if_neg hk00, ← HSe.out] at Hst
          have hS2 : (S ++ [32, 124, 32]).length ≤ 3000003 := by rw [List.length_append]; simp; omega
          obtain ⟨S2, hS2e⟩ : ∃ S2, S2 = S ++ [32, 124, 32] := ⟨_, rfl⟩
          rw [← hS2e] at hS2 Hst
          clear hk00
          go_wp2_with fail
          rw [show ({ data := S.toArray } : ByteArray) ++ { data := #[32, 124, 32] } = ⟨S2.toArray⟩ by rw [hS2e]; exact bytes_append S [32, 124, 32]]
          clear hS2e
        all_goals (
          have hadd1 : ¬ 9223372036854775807 < S2.length + (textT yt).length := by omega
          have hadd2 : ¬ 9223372036854775807 < S2.length + (textT yt).length + 3 := by omega
          have hadd3 : ¬ 9223372036854775807 < S2.length + (textT yt).length + 4 := by omega
          have hadd4 : ¬ 9223372036854775807 < S2.length + (textT yt).length + 3 + (textT zt).length := by omega
          have hadd5 : ¬ 9223372036854775807 < S2.length + (textT yt).length + 4 + (textT zt).length := by omega
          refine HA.out.mono ?_
          rintro e w4 ⟨rfl, hb4⟩
          obtain ⟨m0, m4, m5, m6⟩ := HK.out w4 hb4
          have HB4 := hide (HB.out w4 hb4)
          have Hb4 := hide (Hb.out.trans (hb4.mono Hb.out.size))
          clear hb4 HA HB HK k0 k1 k2 k3 k4 k5 k6
          cases q with
          | true =>
            go_wp2_with fail
            refine HB4.out.mono ?_
            rintro e w5 ⟨rfl, hb5⟩
            have Hb5 := hide (Hb4.out.trans (hb5.mono Hb4.out.size))
            clear hb5 HB4
            go_wp2_with fail
            go_roundw
            case rel => exact ⟨k + 1, by omega, by go_num, by rw [Hst.out, ← bytes_append, ← bytes_append, ← bytes_append]; rfl, Hb5⟩
            case measure => simp [intOf]; omega
          | false =>
            go_wp2_with fail
            refine HB4.out.mono ?_
            rintro e w5 ⟨rfl, hb5⟩
            have Hb5 := hide (Hb4.out.trans (hb5.mono Hb4.out.size))
            clear hb5 HB4
            go_wp2_with fail
            go_roundw
            case rel => exact ⟨k + 1, by omega, by go_num, by rw [Hst.out, ← bytes_append, ← bytes_append, ← bytes_append]; rfl, Hb5⟩
            case measure => simp [intOf]; omega)
      · obtain rfl : k = c.length := by omega
        have hkI : ¬ ((c.length : Int) < c.length) := by omega
        rw [← HSe.out] at HX
        obtain rfl := HX.out
        go_wp2_with fail
        go_ret
        exact ⟨rfl, Hb.out⟩
end Go.Proofs.YtbkedppkdhfpoaaGreatDoor

namespace Go.Proofs.YtbkedppkdhfpoaaGreatDoor
open Go.RowKit

set_option maxRecDepth 100000 in
set_option maxHeartbeats 1000000 in
theorem refCheckClause_any (ar : List Int) (ga : Option Addr) (gcap : Nat) (c : List Lit) (ca : Option Addr) (cc : Nat) (w : World) (hgl : ar.length ≤ 12) (hg : Ints w ar ga) (hl : c.length ≤ 9223372036854775807) (hc : LitsP w c ca) :
    Calls Tryz.prog 9 #[.agg #[.slice ga ar.length gcap], .slice ca c.length cc] w fun e w' => e = .returned (.int .i64 (clauseErr ar c)) ∧ Below w.heap.size w w' := by
  obtain ⟨Z, hZ⟩ : ∃ Z, Z = clauseErr ar c := ⟨_, rfl⟩
  rw [← hZ]
  have HZ := hide hZ
  have Hg := hide hg
  have Hc := hide hc
  clear hZ hg hc
  go_enter Tryz.func9, Tryz.ntmps9
  by_cases h8 : 8 < c.length
  · obtain rfl : Z = 2 := by rw [HZ.out, clauseErr, if_pos h8]
    have e8 : (8 : Int) < c.length := by omega
    clear HZ h8
    go_wp2_with fail
    go_ret
    exact ⟨rfl, below1 _ _⟩
  · have HZ1 : Hid (Z = litsErr ar c) := by show _ = _; rw [HZ.out, clauseErr, if_neg h8]
    have e8 : ¬ (8 : Int) < c.length := by omega
    have cg0 : ∀ o, o = Obj.cells #[.slice ga ar.length gcap] 24 → (w.alloc o).cell? ⟨w.heap.size, 0, none⟩ = some (.slice ga ar.length gcap) := fun o ho => by rw [ho]; exact cell_new 0 rfl
    have Hcg0 := hide (cg0 _ rfl)
    clear HZ cg0
    go_wp2_with fail
    go_loopw [5] (fun i wr => ∃ k : Nat, k ≤ c.length ∧ i = .int .i64 k ∧ Hid (Z = litsErr ar (c.drop k)) ∧ Hid (Below (w.heap.size + 1) (w.alloc (.cells #[.slice ga ar.length gcap] 24)) wr)) (fun i _ => c.length - (intOf i).toNat)
    case atStart => exact ⟨0, Nat.zero_le _, rfl, by rw [List.drop_zero]; exact HZ1, Below.refl _ _⟩
    case round =>
      obtain ⟨k, hk, rfl, Hk, Hbr⟩ := hrel
      have hzr := Hbr.out.size
      rw [World.size_alloc] at hzr
      have Hbw := hide ((below1 w (.cells #[.slice ga ar.length gcap] 24)).trans (Hbr.out.mono (by omega)))
      have cg : wr.cell? ⟨w.heap.size, 0, none⟩ = some (.slice ga ar.length gcap) := by rw [Hbr.out.cell (p := ⟨w.heap.size, 0, none⟩) (by show w.heap.size < w.heap.size + 1; omega)]; exact Hcg0.out
      by_cases hlt : k < c.length
      · obtain ⟨b, off, rfl⟩ := LitsP_some Hc.out (by omega)
        obtain ⟨x, hx⟩ : ∃ x, c[k]? = some x := ⟨c[k], List.getElem?_eq_getElem hlt⟩
        obtain ⟨a1, c1, a2, c2, k0, k1, k2, k3, k4, k5, k6, hi1, hi2⟩ := LitsP_at (LitsP_below Hbw.out Hc.out) hx
        have hst := litsErr_drop (ar := ar) hx
        rw [← Hk.out] at hst
        have q2 : off + k * 7 + 1 + 1 = off + k * 7 + 2 := by omega
        have q3 : off + k * 7 + 1 + 2 = off + k * 7 + 3 := by omega
        have q5 : off + k * 7 + 4 + 1 = off + k * 7 + 5 := by omega
        have q6 : off + k * 7 + 4 + 2 = off + k * 7 + 6 := by omega
        rw [← q2] at k2
        rw [← q3] at k3
        rw [← q5] at k5
        rw [← q6] at k6
        have HC1 := hide (refCheckTerm_any ar ga gcap x.2.1 a1 c1 wr.drew (Ints_below (drewB0 wr) (Ints_below Hbw.out Hg.out)) hgl (InP_below (drewB0 wr) hi1))
        obtain ⟨F1, hF1⟩ : ∃ F, F = termErr ar x.2.1 := ⟨_, rfl⟩
        obtain ⟨F2, hF2⟩ : ∃ F, F = termErr ar x.2.2 := ⟨_, rfl⟩
        rw [← hF1] at HC1 hst
        rw [← hF2] at hst
        have Hst := hide hst
        have HF2 := hide hF2
        have Hi2 := hide hi2
        have hkI : (k : Int) < c.length := by omega
        have hk0 : (0 : Int) ≤ k := by omega
        have hS := hide (fun (w' : World) (hb' : Below wr.heap.size wr w') => (show w'.cell? ⟨w.heap.size, 0, none⟩ = some (.slice ga ar.length gcap) ∧ w'.cell? ⟨b, off + k * 7 + 1, none⟩ = some (.int .i64 x.2.1.v) ∧ w'.cell? ⟨b, off + k * 7 + 1 + 1, none⟩ = some (.int .i64 x.2.1.f) ∧ w'.cell? ⟨b, off + k * 7 + 1 + 2, none⟩ = some (.slice a1 x.2.1.args.length c1) ∧ w'.cell? ⟨b, off + k * 7 + 4, none⟩ = some (.int .i64 x.2.2.v) ∧ w'.cell? ⟨b, off + k * 7 + 4 + 1, none⟩ = some (.int .i64 x.2.2.f) ∧ w'.cell? ⟨b, off + k * 7 + 4 + 2, none⟩ = some (.slice a2 x.2.2.args.length c2) from
          ⟨cellB hb' cg, cellB hb' k1, cellB hb' k2, cellB hb' k3, cellB hb' k4, cellB hb' k5, cellB hb' k6⟩))
        have Hbwr := hide (Below.refl wr.heap.size wr)
        have hS1 := hide (hS.out wr.drew (drewB0 wr))
        have hS0 := hide (hS.out wr Hbwr.out)
        clear hst hx hi1 hi2 hF1 hF2 Hk q2 q3 q5 q6 k0 k1 k2 k3 k4 k5 k6 cg
        go_wp2_with fail
        go_region_held3 (fun w' => w'.cell? ⟨w.heap.size, 0, none⟩ = some (.slice ga ar.length gcap) ∧ w'.cell? ⟨b, off + k * 7 + 1, none⟩ = some (.int .i64 x.2.1.v) ∧ w'.cell? ⟨b, off + k * 7 + 1 + 1, none⟩ = some (.int .i64 x.2.1.f) ∧ w'.cell? ⟨b, off + k * 7 + 1 + 2, none⟩ = some (.slice a1 x.2.1.args.length c1) ∧ w'.cell? ⟨b, off + k * 7 + 4, none⟩ = some (.int .i64 x.2.2.v) ∧ w'.cell? ⟨b, off + k * 7 + 4 + 1, none⟩ = some (.int .i64 x.2.2.f) ∧ w'.cell? ⟨b, off + k * 7 + 4 + 2, none⟩ = some (.slice a2 x.2.2.args.length c2)) ((first | with_reducible exact hS.out _ (Hid.out Hbw2) | with_reducible exact hS1.out | with_reducible exact hS0.out | go_keep)) ((
          go_at_call 24
          refine HC1.out.mono ?_
          rintro e w2 ⟨rfl, hbw2⟩
          have Hbw2 : Hid (Below wr.heap.size wr w2) := (drewB0 wr).trans hbw2))
        clear hS1 hS0 HC1
        have Hb2 := hide (Hbr.out.trans (Hbw2.out.mono hzr))
        have Hbf := hide (Hbw.out.trans (Hbw2.out.mono Hbw.out.size))
        clear hbw2
        by_cases h1 : F1 = 0
        · have Hs2 : Hid (Z = if F2 = 0 then litsErr ar (c.drop (k + 1)) else F2) := by show _ = _; rw [Hst.out, if_pos h1]
          subst h1
          have HC2 := hide (refCheckTerm_any ar ga gcap x.2.2 a2 c2 w2.drew (Ints_below (drewB0 w2) (Ints_below Hbf.out Hg.out)) hgl (InP_below (drewB0 w2) (InP_below Hbw2.out Hi2.out)))
          rw [← HF2.out] at HC2
          have hS1 := hide (hS.out w2.drew (Hbw2.out.trans ((drewB0 w2).mono Hbw2.out.size)))
          have hS0 := hide (hS.out w2 Hbw2.out)
          clear Hst
          go_wp2_with fail
          go_region_held3 (fun w' => w'.cell? ⟨w.heap.size, 0, none⟩ = some (.slice ga ar.length gcap) ∧ w'.cell? ⟨b, off + k * 7 + 1, none⟩ = some (.int .i64 x.2.1.v) ∧ w'.cell? ⟨b, off + k * 7 + 1 + 1, none⟩ = some (.int .i64 x.2.1.f) ∧ w'.cell? ⟨b, off + k * 7 + 1 + 2, none⟩ = some (.slice a1 x.2.1.args.length c1) ∧ w'.cell? ⟨b, off + k * 7 + 4, none⟩ = some (.int .i64 x.2.2.v) ∧ w'.cell? ⟨b, off + k * 7 + 4 + 1, none⟩ = some (.int .i64 x.2.2.f) ∧ w'.cell? ⟨b, off + k * 7 + 4 + 2, none⟩ = some (.slice a2 x.2.2.args.length c2)) ((first | with_reducible exact hS.out _ (Hid.out Hbw3) | with_reducible exact hS1.out | with_reducible exact hS0.out | go_keep)) ((
            go_at_call 24
            refine HC2.out.mono ?_
            rintro e w3 ⟨rfl, hbw3⟩
            have Hbw3 : Hid (Below wr.heap.size wr w3) := Hbw2.out.trans (((drewB0 w2).trans hbw3).mono Hbw2.out.size)))
          clear hS1 hS0 HC2 hbw3
          have Hb3 := hide (Hbr.out.trans (Hbw3.out.mono hzr))
          have Hbf3 := hide (Hbw.out.trans (Hbw3.out.mono Hbw.out.size))
          by_cases h2 : F2 = 0
          · have Hs3 : Hid (Z = litsErr ar (c.drop (k + 1))) := by show _ = _; rw [Hs2.out, if_pos h2]
            subst h2
            clear Hs2
            go_wp2_with fail
            go_roundw
            case rel => exact ⟨k + 1, by omega, by go_num, Hs3, Hb3⟩
            case measure => simp [intOf]; omega
          · have h2b : (F2 != 0) = true := by simpa using h2
            obtain rfl : Z = F2 := by rw [Hs2.out, if_neg h2]
            clear Hs2 h2
            go_wp2_with fail
            go_ret
            exact ⟨rfl, Hbf3.out⟩
        · have h1b : (F1 == 0) = false := by simpa using h1
          have h1c : (F1 != 0) = true := by simpa using h1
          obtain rfl : Z = F1 := by rw [Hst.out, if_neg h1]
          clear Hst h1 hS
          go_wp2_with fail
          go_ret
          exact ⟨rfl, Hbf.out⟩
      · have hk2 : k = c.length := by omega
        subst hk2
        obtain rfl : Z = 0 := by rw [Hk.out, List.drop_length]; rfl
        clear Hk
        go_wp2_with fail
        go_ret
        exact ⟨rfl, Hbw.out⟩

end Go.Proofs.YtbkedppkdhfpoaaGreatDoor

namespace Go.Proofs.YtbkedppkdhfpoaaGreatDoor
open Go.RowKit

theorem tIntsDrew {w : World} {zs : List Int} {a : Option Addr} (h : Ints w zs a) : Ints w.drew zs a := Ints_below (w := w) ⟨rfl, rfl, rfl, Nat.le_refl _, fun _ _ => rfl⟩ h
theorem tchk1 (ar : List Int) (ga : Option Addr) (gcap : Nat) (t : T) (a : Option Addr) (w : World) (hg : Ints w ar ga) (hin : InL w [t] a) :
    Calls Tryz.prog 7 #[.agg #[.slice ga ar.length gcap], .slice a 1 1] w fun e w' => e = .returned (.int .i64 (allErr ar [t])) ∧ Below w.heap.size w w' := refCheckTerms_any ar ga gcap [t] a 1 w hg hin (by simp)
theorem clausesErr_at {ar : List Int} {c : List Lit} (h : sigErr ar = 0) : clausesErr ar [c] = clauseErr ar c := by
  rw [clausesErr, if_pos h, if_neg (by simp), clErr, clErr]
  split
  · rename_i h0; exact h0.symm
  · rfl
attribute [local go_sem ↓] Go.wp_at_zero Go.wp_at_succ
set_option maxRecDepth 100000 in
set_option maxHeartbeats 4000000 in
theorem textWrites_any (ar : List Int) (ga : Option Addr) (gcap : Nat) (t : T) (a : Option Addr) (cap : Nat) (c : List Lit) (ca : Option Addr) (cc : Nat) (w : World) (hcl : c.length ≤ 9223372036854775807) (hg : Ints w ar ga) (htab : Tab w) (hin : InL w t.args a) (hc : LitsP w c ca) :
    Calls Tryz.prog 3 #[.agg #[.slice ga ar.length gcap], .agg #[.int .i64 t.v, .int .i64 t.f, .slice a t.args.length cap], .slice ca c.length cc] w fun e w' => e = .returned (.bool true) ∧ Below w.heap.size w w' := by
  obtain ⟨W1, hW1⟩ : ∃ W1, W1 = (w.alloc (.cells #[.slice ga ar.length gcap] 24)).alloc (.cells #[.int .i64 t.v, .int .i64 t.f, .slice a t.args.length cap] 27) := ⟨_, rfl⟩
  have hbW : Below w.heap.size w W1 := by rw [hW1]; exact below2 _ _ _
  have hz1 : W1.heap.size = w.heap.size + 2 := by rw [hW1]; simp
  have hcg : W1.cell? ⟨w.heap.size, 0, none⟩ = some (.slice ga ar.length gcap) := by rw [hW1, cell_alloc_lt (by simp)]; exact cell_new 0 rfl
  have h3 : Three W1 (w.heap.size + 1) (.int .i64 t.v) (.int .i64 t.f) (.slice a t.args.length cap) := by rw [hW1]; exact Three.new _ (by simp)
  have HS := hide (fun (Y : World) (hb : Below W1.heap.size W1 Y) => (show Y.cell? ⟨w.heap.size, 0, none⟩ = some (.slice ga ar.length gcap) ∧ Y.cell? ⟨w.heap.size + 1, 0, none⟩ = some (.int .i64 t.v) ∧ Y.cell? ⟨w.heap.size + 1, 1, none⟩ = some (.int .i64 t.f) ∧ Y.cell? ⟨w.heap.size + 1, 2, none⟩ = some (.slice a t.args.length cap) from ⟨cell_below hb hcg, (h3.below hb).c0, (h3.below hb).c1, (h3.below hb).c2⟩))
  have HI := hide (fun (Y : World) (hb : Below W1.heap.size W1 Y) => Ints_below hb (Ints_below hbW hg))
  have HN := hide (fun (Y : World) (hb : Below W1.heap.size W1 Y) => (show InL Y t.args a from InP_below hb (InP_below hbW hin)))
  have HT := hide (fun (Y : World) (hb : Below W1.heap.size W1 Y) => Tab_below hb (Tab_below hbW htab))
  have HC := hide (fun (Y : World) (hb : Below W1.heap.size W1 Y) => LitsP_below hb (LitsP_below hbW hc))
  have HF := hide (fun (Y : World) (hb : Below W1.heap.size W1 Y) => hbW.trans (hb.mono (by omega)))
  have HW1 := hide hW1
  have Hz1 := hide hz1
  obtain ⟨E1, hE1⟩ : ∃ E, E = allErr ar [t] := ⟨_, rfl⟩
  obtain ⟨E2, hE2⟩ : ∃ E, E = clausesErr ar [c] := ⟨_, rfl⟩
  obtain ⟨S, hS⟩ : ∃ E, E = sigErr ar := ⟨_, rfl⟩
  obtain ⟨X, hX⟩ : ∃ X, X = (if allErr ar [t] = 0 then textT t else []) := ⟨_, rfl⟩
  obtain ⟨Y, hY⟩ : ∃ Y, Y = (if clausesErr ar [c] = 0 then clauseL c else []) := ⟨_, rfl⟩
  have HE1 := hide hE1
  have HE2 := hide hE2
  have HSg := hide hS
  have HX := hide hX
  have HY := hide hY
  have HTm := hide (tTerm_any ar ga gcap t a cap W1 (HI.out _ (Below.refl _ _)) (HT.out _ (Below.refl _ _)) (HN.out _ (Below.refl _ _)))
  rw [← hX, ← hE1] at HTm
  obtain ⟨g0, t0, t1, t2⟩ := HS.out W1 (Below.refl _ _)
  clear hW1 hbW hz1 hcg h3 hg htab hin hc hE1 hE2 hS hX hY
  go_enter Tryz.func3, Tryz.ntmps3
  go_upto_region 1 with fail
  rw [← HW1.out]
  go_wp2_with fail
  refine HTm.out.mono ?_
  rintro e w2 ⟨rfl, hb2⟩
  have Hb2 := hide hb2
  have HCl := hide (tClause_any ar ga gcap c ca cc w2 hcl (HI.out w2 hb2) (HT.out w2 hb2) (HC.out w2 hb2))
  rw [← HY.out, ← HE2.out] at HCl
  clear hb2 HTm g0 t0 t1 t2
  obtain ⟨g0, -, -, -⟩ := HS.out w2 Hb2.out
  go_wp2_with fail
  refine HCl.out.mono ?_
  rintro e w3 ⟨rfl, hb3⟩
  have Hb3 := hide (Hb2.out.trans (hb3.mono Hb2.out.size))
  clear hb3 HCl Hb2 g0
  obtain ⟨g0, t0, t1, t2⟩ := HS.out w3 Hb3.out
  have hz3 := Hb3.out.size
  go_upto_region 3 with fail
  go_cut [11, 12] (fun v v2 wc => v = .int .i64 E1 ∧ v2 = .int .i64 S ∧ Hid (Below W1.heap.size W1 wc))
  case first =>
    have hgB := HI.out w3 Hb3.out
    have hinT := HN.out w3 Hb3.out
    have hzz : w.heap.size + 2 ≤ w3.heap.size := by have := Hz1.out; omega
    have Hbx : Hid (Below w3.heap.size w3 w3) := Below.refl _ _
    have hSS := hide (fun (Y : World) (hb : Below w3.heap.size w3 Y) => HS.out Y (Hb3.out.trans (hb.mono hz3)))
    have HFF := hide (fun (Y : World) (hb : Below w3.heap.size w3 Y) => Hb3.out.trans (hb.mono hz3))
    clear HC HT HF HX HY HN HI Hb3 HS Hz1
    go_region_held3 (fun w' => w'.cell? ⟨w.heap.size, 0, none⟩ = some (.slice ga ar.length gcap) ∧ w'.cell? ⟨w.heap.size + 1, 0, none⟩ = some (.int .i64 t.v) ∧ w'.cell? ⟨w.heap.size + 1, 1, none⟩ = some (.int .i64 t.f) ∧ w'.cell? ⟨w.heap.size + 1, 2, none⟩ = some (.slice a t.args.length cap)) ((first | (refine hSS.out _ ?_; (repeat' (first | with_reducible exact Hxb.out | with_reducible exact Hxa.out | with_reducible exact Below.refl _ _ | (with_reducible refine Below.drew ?_) | (refine Below.alloc ?_ ?_ _; rotate_left; focus (first | omega | (simp; omega) | (simp; done))))); done) | go_keep)) ((first
      | (go_at_call 7
         with_reducible refine (tchk1 ar ga gcap t _ _ ?_ ?_).mono ?_
         · (repeat' (first | with_reducible exact hgB | with_reducible refine tIntsDrew ?_ | with_reducible refine Ints_alloc _ ?_ | with_reducible refine Ints_below HYb.out ?_))
         · (repeat' (first | with_reducible exact hinT | with_reducible refine in_drew ?_ | (with_reducible refine InP_new1 _ ?_ trivial ?_; focus (first | with_reducible rfl | (simp; done))) | with_reducible refine InP_alloc _ ?_ | with_reducible refine InP_below HYb.out ?_))
         rintro e xa ⟨rfl, hba⟩
         have HYa := hide hba
         have Hxa : Hid (Below w3.heap.size w3 xa) := by
           refine Below.trans (b := _) ?_ (hba.mono ?_)
           · (repeat' (first | with_reducible exact Hxb.out | with_reducible exact Below.refl _ _ | (with_reducible refine Below.drew ?_) | (refine Below.alloc ?_ ?_ _; rotate_left; focus (first | omega | (simp; omega) | (simp; done)))))
           · first | omega | (simp; omega) | (simp; done)
         have hsza := Hxa.out.size
         clear hba)
      | (go_at_call 8
         with_reducible refine (checkSignature_any ar ga gcap _ ?_).mono ?_
         · (repeat' (first | with_reducible exact hgB | with_reducible refine tIntsDrew ?_ | with_reducible refine Ints_alloc _ ?_ | with_reducible refine Ints_below HYa.out ?_))
         rintro e xb ⟨rfl, hbb⟩
         have HYb := hide hbb
         have Hxb : Hid (Below w3.heap.size w3 xb) := by
           refine Below.trans (b := _) ?_ (hbb.mono ?_)
           · (repeat' (first | with_reducible exact Hxa.out | with_reducible exact Below.refl _ _ | (with_reducible refine Below.drew ?_) | (refine Below.alloc ?_ ?_ _; rotate_left; focus (first | omega | (simp; omega) | (simp; done)))))
           · first | omega | (simp; omega) | (simp; done)
         have hszb := Hxb.out.size
         clear hbb)))
    all_goals (go_wp2_with fail; go_meet; exact ⟨by rw [HE1.out], by rw [HSg.out], HFF.out _ (by first | exact Hxb.out | exact Hxa.out)⟩)
  case rest =>
    obtain ⟨rfl, rfl, Hbc⟩ := hcut
    clear Hb3 g0 t0 t1 t2 hz3
    obtain ⟨g0, t0, t1, t2⟩ := HS.out wc Hbc.out
    by_cases hs : S = 0
    case' pos =>
      have hs0 : sigErr ar = 0 := by rw [← HSg.out]; exact hs
      have HCk := hide (refCheckClause_any ar ga gcap c ca cc wc (tsig_len hs0) (HI.out wc Hbc.out) hcl (HC.out wc Hbc.out))
      rw [← clausesErr_at hs0, ← HE2.out] at HCk
      subst hs
      clear hs0
      go_wp2_with fail
      refine HCk.out.mono ?_
      rintro e w4 ⟨rfl, hb4⟩
      have Hb4 := hide (Hbc.out.trans (hb4.mono Hbc.out.size))
      clear hb4 HCk g0 t0 t1 t2 Hbc
    case' neg =>
      have hs0 : sigErr ar ≠ 0 := by rw [← HSg.out]; exact hs
      have hE2 : E2 = S := by rw [HE2.out, HSg.out, clausesErr, if_neg hs0]
      have hE1 : E1 = S := by rw [HE1.out, HSg.out, allErr, if_neg hs0]
      have hs' : (S == 0) = false := by rw [beq_eq_false_iff_ne]; exact hs
      obtain rfl : X = [] := by rw [HX.out, if_neg]; rw [← HE1.out, hE1]; exact hs
      obtain rfl : Y = [] := by rw [HY.out, if_neg]; rw [← HE2.out, hE2]; exact hs
      subst hE1
      subst hE2
      have HBg := hide (textBegun_any _ (HT.out _ Hbc.out))
      clear hs hs0 g0 t0 t1 t2
      go_wp2_with fail
      refine HBg.out.mono ?_
      rintro e w7 ⟨rfl, hb7⟩
      have Hf := hide (HF.out _ (Hbc.out.trans (hb7.mono Hbc.out.size)))
      clear hb7 HBg Hbc
      go_wp2_with fail
      go_ret
      exact ⟨rfl, Hf.out⟩
    all_goals (
      obtain ⟨g0, t0, t1, t2⟩ := HS.out _ Hb4.out
      by_cases hv : E1 = 0
      case' pos =>
        have hv0 : allErr ar [t] = 0 := by rw [← HE1.out]; exact hv
        have hok := (allErr_iff.1 hv0).2 t (by simp)
        have HTt := hide (TermText_any ar (tsig_len (allErr_iff.1 hv0).1) (t.sz + 1) t a cap _ (by omega) (by omega) hok.2 (HN.out _ Hb4.out))
        have hXt : textT t = X := by rw [HX.out, if_pos hv0]
        rw [hXt] at HTt
        subst hv
        clear hv0 hok hXt
        go_wp2_with fail
        refine HTt.out.mono ?_
        rintro e w5 ⟨rfl, hb5⟩
        have Hb5 := hide (Hb4.out.trans (hb5.mono Hb4.out.size))
        clear hb5 HTt g0 t0 t1 t2 Hb4
      case' neg =>
        have hv' : (E1 == 0) = false := by rw [beq_eq_false_iff_ne]; exact hv
        obtain rfl : X = [] := by rw [HX.out, if_neg]; rw [← HE1.out]; exact hv
        have Hb5 := Hb4
        clear hv Hb4
      all_goals (
        by_cases hw : E2 = 0
        case' pos =>
          have hw0 : clausesErr ar [c] = 0 := by rw [← HE2.out]; exact hw
          obtain ⟨hsg, h8, hlo⟩ := clauses_ok hw0
          have HCt := hide (ClauseText_any ar (tsig_len hsg) c ca cc _ hlo h8 (HC.out _ Hb5.out))
          have hYt : clauseL c = Y := by rw [HY.out, if_pos hw0]
          rw [hYt] at HCt
          subst hw
          clear hw0 hsg h8 hlo hYt
          go_wp2_with fail
          refine HCt.out.mono ?_
          rintro e w6 ⟨rfl, hb6⟩
          have Hb6 := hide (Hb5.out.trans (hb6.mono Hb5.out.size))
          clear hb6 HCt Hb5
        case' neg =>
          have hw' : (E2 == 0) = false := by rw [beq_eq_false_iff_ne]; exact hw
          obtain rfl : Y = [] := by rw [HY.out, if_neg]; rw [← HE2.out]; exact hw
          have Hb6 := Hb5
          clear hw Hb5
        all_goals (
          have HBg := hide (textBegun_any _ (HT.out _ Hb6.out))
          go_wp2_with fail
          refine HBg.out.mono ?_
          rintro e w7 ⟨rfl, hb7⟩
          have Hf := hide (HF.out _ (Hb6.out.trans (hb7.mono Hb6.out.size)))
          clear hb7 HBg Hb6
          go_wp2_with fail
          go_ret
          exact ⟨rfl, Hf.out⟩)))
end Go.Proofs.YtbkedppkdhfpoaaGreatDoor

namespace Go.Proofs.YtbkedppkdhfpoaaGreatDoor
open Go.RowKit Go.ChangeShapes Go.WideShapes Go.Deep

theorem InL_of_fn {w : World} : ∀ (n b off : Nat) (f : Nat → T), (∀ i, i < n → ∃ s, w.cell? ⟨b, off + i * 3, none⟩ = some (.int .i64 (f i).v) ∧ w.cell? ⟨b, off + i * 3 + 1, none⟩ = some (.int .i64 (f i).f) ∧ w.cell? ⟨b, off + i * 3 + 2, none⟩ = some s ∧ (f i).In (fun _ => True) w s) →
    InL w ((List.range n).map f) (some ⟨b, off, none⟩) := by
  intro n
  induction n with
  | zero => intro b off f _; exact InP_nil
  | succ n ih =>
    intro b off f h
    rw [List.range_succ_eq_map, List.map_cons, List.map_map]
    obtain ⟨s, c0, c1, c2, hin⟩ := h 0 (by omega)
    refine InP_cons.2 ⟨b, off, s, rfl, trivial, by simpa using c0, by simpa using c1, by simpa using c2, hin, ih b (off + 3) (f ∘ Nat.succ) (fun i hi => ?_)⟩
    obtain ⟨s, c0, c1, c2, hin⟩ := h (i + 1) (by omega)
    have e : off + (i + 1) * 3 = off + 3 + i * 3 := by omega
    rw [e] at c0 c1 c2
    exact ⟨s, c0, c1, c2, hin⟩

theorem Tryz.cells27 : Tryz.prog.cellsOf 27 = 3 := by kernel_rfl
theorem Tryz.cells3 : Tryz.prog.cellsOf 3 = 1 := by kernel_rfl
theorem Tryz.cells24 : Tryz.prog.cellsOf 24 = 1 := by kernel_rfl

section
variable {H : Type} {enc : TypeId × Value → H} {W : World} {spare : Nat → Bool} {held : Bool}

set_option maxRecDepth 100000 in
/-- A term that can be read is a tree that lies there. -/
theorem open_term : ∀ (fuel : Nat) (cs : List Value) (x : DataW H × List MemPlace), DataW.trod enc Tryz.prog W 0 spare held fuel 27 cs = some x →
    ∃ (t : T) (a : Option Addr) (cap : Nat), cs = [.int .i64 t.v, .int .i64 t.f, .slice a t.args.length cap] ∧ InL W t.args a := by
  intro fuel
  induction fuel using Nat.strongRecOn with
  | _ fuel ih =>
    intro cs x h
    obtain ⟨xs, n, hn, hx, hl, hlen, hf⟩ := DataW.trod_struct Go.Proofs.Tryz.underlying27 h
    rw [Tryz.cells27] at hl
    match cs, hl with
    | [c0, c1, c2], _ =>
      have f0 := hf 0 _ rfl
      have f1 := hf 1 _ rfl
      have f2 := hf 2 _ rfl
      match xs, hlen with
      | [y0, y1, y2], _ =>
        simp only [List.getElem?_cons_zero, List.getElem?_cons_succ] at f0 f1 f2
        have g0 : DataW.trod enc Tryz.prog W 0 spare held n 3 [c0] = some y0 := f0
        have g1 : DataW.trod enc Tryz.prog W 0 spare held n 3 [c1] = some y1 := f1
        have g2 : DataW.trod enc Tryz.prog W 0 spare held n 25 [c2] = some y2 := f2
        obtain ⟨v, e0, _, _⟩ := DataW.trod_int Go.Proofs.Tryz.underlying3 g0
        obtain ⟨f, e1, _, _⟩ := DataW.trod_int Go.Proofs.Tryz.underlying3 g1
        simp only [List.cons.injEq, and_true] at e0 e1
        subst e0 e1
        rcases DataW.trod_slice Go.Proofs.Tryz.underlying25 g2 with ⟨e2, _⟩ | ⟨a, len, cap, elems, rest, m, hm, e2, _, hb, hl', hm', hlen', hel, _, _⟩
        · simp only [List.cons.injEq, and_true] at e2
          subst e2
          exact ⟨⟨v, f, []⟩, none, 0, rfl, InP_nil⟩
        · simp only [List.cons.injEq, and_true] at e2
          subst e2
          rw [Tryz.cells27] at hel
          have hchild : ∀ i, i < len → ∃ t : T, ∃ s, W.cell? (a.add (i * 3)) = some (.int .i64 t.v) ∧ W.cell? ((a.add (i * 3)).add 1) = some (.int .i64 t.f) ∧ W.cell? ((a.add (i * 3)).add 2) = some s ∧ t.In (fun _ => True) W s := by
            intro i hi
            have h1 := hel i hi
            rw [List.getElem?_eq_getElem (by omega)] at h1
            obtain ⟨cs', h2, h3⟩ := Option.bind_eq_some_iff.1 h1
            obtain ⟨t, a', cap', hcs, hin⟩ := ih m (by omega) cs' _ h3
            obtain ⟨_, _, hcell⟩ := World.cells?_some h2
            rw [hcs] at hcell
            refine ⟨t, .slice a' t.args.length cap', ?_, hcell 1 (by omega), hcell 2 (by omega), In_iff.2 ⟨a', cap', rfl, hin⟩⟩
            have := hcell 0 (by omega)
            rwa [show (a.add (i * 3)).add 0 = a.add (i * 3) from by simp [Addr.add]] at this
          by_cases h0 : len = 0
          · subst h0
            exact ⟨⟨v, f, []⟩, some a, cap, rfl, InP_nil⟩
          · obtain ⟨b, off, spot⟩ := a
            have hspot : spot = none := by
              obtain ⟨t, s, hc, _⟩ := hchild 0 (by omega)
              simpa [Addr.add] using World.cell?_spot hc
            subst hspot
            have : Inhabited T := ⟨⟨0, 0, []⟩⟩
            obtain ⟨F, hF⟩ := choose_lt hchild
            refine ⟨⟨v, f, (List.range len).map F⟩, some ⟨b, off, none⟩, cap, by simp, InL_of_fn len b off F (fun i hi => ?_)⟩
            obtain ⟨s, c0, c1, c2, hin⟩ := hF i hi
            have e : ∀ j, (⟨b, off, none⟩ : Addr).add j = ⟨b, off + j, none⟩ := fun j => by simp [Addr.add]
            have e' : ∀ k j, (⟨b, k, none⟩ : Addr).add j = ⟨b, k + j, none⟩ := fun k j => by simp [Addr.add]
            rw [e] at c0 c1 c2
            rw [e'] at c1 c2
            exact ⟨s, c0, c1, c2, hin⟩

/-- A slice of numbers that can be read. -/
theorem open_nums {fuel : Nat} {cs : List Value} {x : DataW H × List MemPlace} (h : DataW.trod enc Tryz.prog W 0 spare held fuel 22 cs = some x) :
    ∃ (zs : List Int) (a : Option Addr) (cap : Nat), cs = [.slice a zs.length cap] ∧ Ints W zs a ∧ zs.length ≤ 9223372036854775807 ∧ zs.length ≤ cap := by
  rcases open_ints Go.Proofs.Tryz.underlying22 Go.Proofs.Tryz.underlying3 Tryz.cells3 h with ⟨hcs, _⟩ | ⟨a, l, c, zs, hcs, _, hl, hm, hz, _, hcell, _⟩
  · exact ⟨[], none, 0, hcs, Or.inl rfl, by simp, by simp⟩
  · have hle : l ≤ zs.length := by rw [hz]; split <;> omega
    have hlen : (zs.take l).length = l := List.length_take_of_le hle
    refine ⟨zs.take l, some a, c, by rw [hcs, hlen], ?_, by rw [hlen]; unfold maxLen at hm; omega, by rw [hlen]; exact hl⟩
    by_cases h0 : l = 0
    · left; rw [h0]; rfl
    · right
      obtain ⟨b, off, rfl, hc⟩ := ints_at hcell (by omega)
      refine ⟨b, off, rfl, fun i hi => ?_⟩
      rw [hlen] at hi
      rw [hc i (by omega)]
      simp [List.getD, List.getElem?_take_of_lt hi]

set_option maxRecDepth 100000 in
/-- A signature. -/
theorem open_sig {fuel : Nat} {cs : List Value} {x : DataW H × List MemPlace} (h : DataW.trod enc Tryz.prog W 0 spare held fuel 24 cs = some x) :
    ∃ (zs : List Int) (a : Option Addr) (cap : Nat), cs = [.slice a zs.length cap] ∧ Ints W zs a := by
  obtain ⟨y0, n, _, hl, h0⟩ := trod_struct1 Go.Proofs.Tryz.underlying24 h
  rw [Tryz.cells24] at hl
  match cs, hl with
  | [c0], _ =>
    have g0 : DataW.trod enc Tryz.prog W 0 spare held n 22 [c0] = some y0 := h0
    obtain ⟨zs, a, cap, hcs, hi, _⟩ := open_nums g0
    exact ⟨zs, a, cap, hcs, hi⟩

end
end Go.Proofs.YtbkedppkdhfpoaaGreatDoor

namespace Go.Proofs.YtbkedppkdhfpoaaGreatDoor
open Go.RowKit Go.ChangeShapes Go.WideShapes Go.Deep

def LitAt (w : World) (b off : Nat) (x : Lit) : Prop := ∃ a1 c1 a2 c2, w.cell? ⟨b, off, none⟩ = some (.bool x.1) ∧ w.cell? ⟨b, off + 1, none⟩ = some (.int .i64 x.2.1.v) ∧ w.cell? ⟨b, off + 2, none⟩ = some (.int .i64 x.2.1.f) ∧ w.cell? ⟨b, off + 3, none⟩ = some (.slice a1 x.2.1.args.length c1) ∧
  w.cell? ⟨b, off + 4, none⟩ = some (.int .i64 x.2.2.v) ∧ w.cell? ⟨b, off + 5, none⟩ = some (.int .i64 x.2.2.f) ∧ w.cell? ⟨b, off + 6, none⟩ = some (.slice a2 x.2.2.args.length c2) ∧ InL w x.2.1.args a1 ∧ InL w x.2.2.args a2
theorem LitsP_of_fn {w : World} : ∀ (n b off : Nat) (f : Nat → Lit), (∀ i, i < n → LitAt w b (off + i * 7) (f i)) → LitsP w ((List.range n).map f) (some ⟨b, off, none⟩) := by
  intro n
  induction n with
  | zero => intro b off f _; trivial
  | succ n ih =>
    intro b off f h
    rw [List.range_succ_eq_map, List.map_cons, List.map_map]
    obtain ⟨a1, c1, a2, c2, h0, h1, h2, h3, h4, h5, h6, i1, i2⟩ := h 0 (by omega)
    refine ⟨b, off, a1, c1, a2, c2, rfl, by simpa using h0, by simpa using h1, by simpa using h2, by simpa using h3, by simpa using h4, by simpa using h5, by simpa using h6, i1, i2, ih b (off + 7) (f ∘ Nat.succ) (fun i hi => ?_)⟩
    have h9 := h (i + 1) (by omega)
    rw [show off + (i + 1) * 7 = off + 7 + i * 7 by omega] at h9
    exact h9
theorem Tryz.cells52 : Tryz.prog.cellsOf 52 = 7 := by kernel_rfl
section
variable {H : Type} {enc : TypeId × Value → H} {W : World} {spare : Nat → Bool} {held : Bool}

set_option maxRecDepth 100000 in
/-- A literal that can be read. -/
theorem open_lit (fuel : Nat) (cs : List Value) (x : DataW H × List MemPlace) (h : DataW.trod enc Tryz.prog W 0 spare held fuel 52 cs = some x) :
    ∃ (y : Lit) (a : Option Addr) (cap : Nat) (a2 : Option Addr) (cap2 : Nat), cs = [.bool y.1, .int .i64 y.2.1.v, .int .i64 y.2.1.f, .slice a y.2.1.args.length cap, .int .i64 y.2.2.v, .int .i64 y.2.2.f, .slice a2 y.2.2.args.length cap2] ∧ InL W y.2.1.args a ∧ InL W y.2.2.args a2 := by
  obtain ⟨xs, n, hn, hx, hl, hlen, hf⟩ := DataW.trod_struct Go.Proofs.Tryz.underlying52 h
  rw [Tryz.cells52] at hl
  match cs, hl with
  | [c0, c1, c2, c3, c4, c5, c6], _ =>
    have f0 := hf 0 _ rfl
    have f1 := hf 1 _ rfl
    have f2 := hf 2 _ rfl
    match xs, hlen with
    | [y0, y1, y2], _ =>
      simp only [List.getElem?_cons_zero, List.getElem?_cons_succ] at f0 f1 f2
      have g0 : DataW.trod enc Tryz.prog W 0 spare held n 4 [c0] = some y0 := f0
      have g1 : DataW.trod enc Tryz.prog W 0 spare held n 27 [c1, c2, c3] = some y1 := f1
      have g2 : DataW.trod enc Tryz.prog W 0 spare held n 27 [c4, c5, c6] = some y2 := f2
      obtain ⟨yes, hcs, _⟩ := DataW.trod_bool Go.Proofs.Tryz.underlying4 g0
      simp only [List.cons.injEq, and_true] at hcs
      obtain rfl := hcs
      obtain ⟨s, a, cap, hcs, hin⟩ := open_term _ _ _ g1
      simp only [List.cons.injEq, and_true] at hcs
      obtain ⟨rfl, rfl, rfl⟩ := hcs
      obtain ⟨t, a2, cap2, hcs, hin2⟩ := open_term _ _ _ g2
      simp only [List.cons.injEq, and_true] at hcs
      obtain ⟨rfl, rfl, rfl⟩ := hcs
      exact ⟨(yes, s, t), a, cap, a2, cap2, rfl, hin, hin2⟩

set_option maxRecDepth 100000 in
/-- A clause. -/
theorem open_clause {fuel : Nat} {cs : List Value} {x : DataW H × List MemPlace} (h : DataW.trod enc Tryz.prog W 0 spare held fuel 29 cs = some x) :
    ∃ (c : List Lit) (a : Option Addr) (cap : Nat), cs = [.slice a c.length cap] ∧ LitsP W c a ∧ c.length ≤ 9223372036854775807 := by
  rcases DataW.trod_slice Go.Proofs.Tryz.underlying29 h with ⟨e2, _⟩ | ⟨a, len, cap, elems, rest, m, hm, e2, _, hb, hl', hm', hlen', hel, _, _⟩
  · exact ⟨[], none, 0, e2, trivial, by simp⟩
  · rw [Tryz.cells52] at hel
    have hchild : ∀ i, i < len → ∃ y : Lit, ∃ a1 cap1 a2 cap2, W.cell? (a.add (i * 7)) = some (.bool y.1) ∧ W.cell? ((a.add (i * 7)).add 1) = some (.int .i64 y.2.1.v) ∧ W.cell? ((a.add (i * 7)).add 2) = some (.int .i64 y.2.1.f) ∧ W.cell? ((a.add (i * 7)).add 3) = some (.slice a1 y.2.1.args.length cap1) ∧
        W.cell? ((a.add (i * 7)).add 4) = some (.int .i64 y.2.2.v) ∧ W.cell? ((a.add (i * 7)).add 5) = some (.int .i64 y.2.2.f) ∧ W.cell? ((a.add (i * 7)).add 6) = some (.slice a2 y.2.2.args.length cap2) ∧ InL W y.2.1.args a1 ∧ InL W y.2.2.args a2 := by
      intro i hi
      have h1 := hel i hi
      rw [List.getElem?_eq_getElem (by omega)] at h1
      obtain ⟨cs', h2, h3⟩ := Option.bind_eq_some_iff.1 h1
      obtain ⟨y, a', cap', a2', cap2', hcs, hin, hin2⟩ := open_lit m cs' _ h3
      obtain ⟨_, _, hcell⟩ := World.cells?_some h2
      rw [hcs] at hcell
      refine ⟨y, a', cap', a2', cap2', ?_, hcell 1 (by omega), hcell 2 (by omega), hcell 3 (by omega), hcell 4 (by omega), hcell 5 (by omega), hcell 6 (by omega), hin, hin2⟩
      have := hcell 0 (by omega)
      rwa [show (a.add (i * 7)).add 0 = a.add (i * 7) from by simp [Addr.add]] at this
    by_cases h0 : len = 0
    · subst h0
      exact ⟨[], some a, cap, e2, trivial, by simp⟩
    · obtain ⟨b, off, spot⟩ := a
      have hspot : spot = none := by
        obtain ⟨y, a1, cap1, a2, cap2, hc, _⟩ := hchild 0 (by omega)
        simpa [Addr.add] using World.cell?_spot hc
      subst hspot
      have : Inhabited Lit := ⟨(false, ⟨0, 0, []⟩, ⟨0, 0, []⟩)⟩
      obtain ⟨F, hF⟩ := choose_lt hchild
      refine ⟨(List.range len).map F, some ⟨b, off, none⟩, cap, by simpa using e2, LitsP_of_fn len b off F (fun i hi => ?_), by simp; unfold maxLen at hm'; omega⟩
      obtain ⟨a1, cap1, a2, cap2, c0, c1, c2, c3, c4, c5, c6, hin, hin2⟩ := hF i hi
      have e : ∀ j, (⟨b, off, none⟩ : Addr).add j = ⟨b, off + j, none⟩ := fun j => by simp [Addr.add]
      have e2 : ∀ i j, (⟨b, i, none⟩ : Addr).add j = ⟨b, i + j, none⟩ := fun i j => by simp [Addr.add]
      rw [e] at c0 c1 c2 c3 c4 c5 c6
      rw [e2] at c1 c2 c3 c4 c5 c6
      exact ⟨a1, cap1, a2, cap2, c0, c1, c2, c3, c4, c5, c6, hin, hin2⟩

end
end Go.Proofs.YtbkedppkdhfpoaaGreatDoor
