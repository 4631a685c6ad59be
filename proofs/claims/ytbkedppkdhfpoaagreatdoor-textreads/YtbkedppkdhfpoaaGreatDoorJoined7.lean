/- Texts: what must be in any case. Texts: the document's own digits. Texts: the document's own text of a term. Texts: the document's own text of a clause. Texts: the document's own reader: a number. -/
import Derived.Deep.RegionHeld3
import Derived.Laws.IdiomStrings
import Derived.Test.YtbkedppkdhfpoaaGreatDoorJoined6
namespace Go.Proofs.YtbkedppkdhfpoaaGreatDoor
open Go.RowKit

def tyX : T := ⟨1, 0, []⟩
def tyA : T := ⟨0, 1, [tyX]⟩
def tyO : T := ⟨0, 0, []⟩
def tyC : List Lit := [(true, tyA, tyO), (false, tyX, tyO)]
def tyY : T := ⟨3, 0, []⟩
def tyT : T := ⟨0, 1, [tyY]⟩
def tyS : List UInt8 := [102, 49, 40, 88, 49, 41, 32, 61, 32, 102, 48, 32, 124, 32, 88, 49, 32, 33, 61, 32, 102, 48]
def tyU : List UInt8 := [102, 49, 40, 88, 51, 41]
theorem ty_ok : clausesErr [0, 1] [tyC] = 0 := by rfl
theorem ty_sig : sigErr [0, 1] = 0 := by rfl
theorem ty_text : clauseL tyC = tyS := by decide +kernel
theorem ty_term : textT tyT = tyU := by decide +kernel
theorem ty_all : allErr [0, 1] [tyT] = 0 := by rfl
theorem ty_rd : rdCl 3001 tyS = some (tyC, []) := by rw [← ty_text]; exact cl_round ty_ok 3001 (by decide)
theorem ty_pe : pcErr [0, 1] tyS = 0 := by rw [pc_some ty_sig (by decide) ty_rd]; exact ty_ok
theorem ty_pc : pcC [0, 1] tyS = tyC := pcC_some ty_pe ty_rd
theorem ty_rt : rdT 3001 tyU = some (tyT, []) := by rw [← ty_term]; exact term_round ty_sig ((allErr_iff.1 ty_all).2 tyT (by simp)) 3001 (by decide)
theorem ty_te : ptErr [0, 1] tyU = 0 := by rw [pt_some ty_sig (by decide) ty_rt]; exact ty_all
theorem ty_tt : ptT [0, 1] tyU = tyT := ptT_some ty_te ty_rt
theorem Clause_begun (n1 n2 : Nat) (w : World) (hg : Ints w [0, 1] (some ⟨n1, 0, none⟩)) (htab : Tab w) (hc : LitsP w tyC (some ⟨n2, 0, none⟩)) :
    Calls Tryz.prog 6 #[.agg #[.slice (some ⟨n1, 0, none⟩) 2 2], .slice (some ⟨n2, 0, none⟩) 2 2] w fun e w' => e = .returned (.tuple #[.string ⟨tyS.toArray⟩, .int .i64 0]) ∧ Below w.heap.size w w' := by
  have h := tClause_any [0, 1] (some ⟨n1, 0, none⟩) 2 tyC (some ⟨n2, 0, none⟩) 2 w (by decide) hg htab hc
  rw [ty_ok, if_pos rfl, ty_text] at h
  exact h
/-- What ParseClause hands back of the text. -/
def TyB1 (w : World) (e : Ending) (w' : World) : Prop := ∃ a cap, e = .returned (.tuple #[.slice a 2 cap, .int .i64 0]) ∧ Below w.heap.size w w'
theorem ParseClause_begun (n1 : Nat) (w : World) (hg : Ints w [0, 1] (some ⟨n1, 0, none⟩)) :
    Calls Tryz.prog 14 #[.agg #[.slice (some ⟨n1, 0, none⟩) 2 2], .string ⟨tyS.toArray⟩] w (TyB1 w) := by
  have h := parseClause_any [0, 1] (some ⟨n1, 0, none⟩) 2 tyS w hg
  rw [ty_pe, ty_pc] at h
  refine h.mono ?_
  rintro e w' ⟨a, cap, rfl, -, hb⟩
  exact ⟨a, cap, rfl, hb⟩
/-- What ParseTerm hands back of the text. -/
def TyB2 (w : World) (e : Ending) (w' : World) : Prop := ∃ a cap, e = .returned (.tuple #[.agg #[.int .i64 0, .int .i64 1, .slice a 1 cap], .int .i64 0]) ∧ InL w' [tyY] a ∧ Below w.heap.size w w'
theorem ParseTerm_begun (n1 : Nat) (w : World) (hg : Ints w [0, 1] (some ⟨n1, 0, none⟩)) :
    Calls Tryz.prog 13 #[.agg #[.slice (some ⟨n1, 0, none⟩) 2 2], .string ⟨tyU.toArray⟩] w (TyB2 w) := by
  have h := parseTerm_any [0, 1] (some ⟨n1, 0, none⟩) 2 tyU w hg
  rw [ty_te, ty_tt] at h
  refine h.mono ?_
  rintro e w' ⟨a, cap, rfl, hi, hb⟩
  exact ⟨a, cap, rfl, InP_imp (fun _ _ => trivial) hi, hb⟩
theorem Term_begun (n1 : Nat) (a : Option Addr) (cap : Nat) (w : World) (hg : Ints w [0, 1] (some ⟨n1, 0, none⟩)) (htab : Tab w) (hin : InL w [tyY] a) :
    Calls Tryz.prog 5 #[.agg #[.slice (some ⟨n1, 0, none⟩) 2 2], .agg #[.int .i64 0, .int .i64 1, .slice a 1 cap]] w fun e w' => e = .returned (.tuple #[.string ⟨tyU.toArray⟩, .int .i64 0]) ∧ Below w.heap.size w w' := by
  have h := tTerm_any [0, 1] (some ⟨n1, 0, none⟩) 2 tyT a cap w hg htab hin
  rw [ty_all, if_pos rfl, ty_term] at h
  exact h
theorem ty_lits {w : World} {n m c2 : Nat} (hn : n = w.heap.size) (hin : InL w [tyX] (some ⟨m, 0, none⟩)) :
    LitsP (w.alloc (.cells #[.bool true, .int .i64 0, .int .i64 1, .slice (some ⟨m, 0, none⟩) 1 c2, .int .i64 0, .int .i64 0, .slice none 0 0, .bool false, .int .i64 1, .int .i64 0, .slice none 0 0, .int .i64 0, .int .i64 0, .slice none 0 0] 52)) tyC (some ⟨n, 0, none⟩) := by
  subst hn
  have hc : ∀ j v, #[Value.bool true, .int .i64 0, .int .i64 1, .slice (some ⟨m, 0, none⟩) 1 c2, .int .i64 0, .int .i64 0, .slice none 0 0, .bool false, .int .i64 1, .int .i64 0, .slice none 0 0, .int .i64 0, .int .i64 0, .slice none 0 0][j]? = some v → (w.alloc (.cells #[.bool true, .int .i64 0, .int .i64 1, .slice (some ⟨m, 0, none⟩) 1 c2, .int .i64 0, .int .i64 0, .slice none 0 0, .bool false, .int .i64 1, .int .i64 0, .slice none 0 0, .int .i64 0, .int .i64 0, .slice none 0 0] 52)).cell? ⟨w.heap.size, j, none⟩ = some v := fun j v h => by rw [cell_new j rfl]; exact h
  exact ⟨w.heap.size, 0, some ⟨m, 0, none⟩, c2, none, 0, rfl, hc 0 _ rfl, hc 1 _ rfl, hc 2 _ rfl, hc 3 _ rfl, hc 4 _ rfl, hc 5 _ rfl, hc 6 _ rfl, InP_below (below1 _ _) hin, InP_nil, w.heap.size, 7, none, 0, none, 0, rfl, hc 7 _ rfl, hc 8 _ rfl, hc 9 _ rfl, hc 10 _ rfl, hc 11 _ rfl, hc 12 _ rfl, hc 13 _ rfl, InP_nil, InP_nil, trivial⟩
attribute [local go_sem ↓] Go.wp_at_zero Go.wp_at_succ
set_option maxRecDepth 100000 in
set_option maxHeartbeats 2000000 in
theorem textBegun_any (w : World) (htab : Tab w) : Calls Tryz.prog 12 #[] w fun e w' => e = .returned (.bool true) ∧ Below w.heap.size w w' := by
  have Htab := hide htab
  clear htab
  go_enter Tryz.func12, Tryz.ntmps12
  go_wp2_with fail
  refine (small_any _).mono ?_
  rintro e w1 ⟨n1, rfl, hg1, hb1⟩
  go_wp2_with fail
  refine (va_any 1 _).mono ?_
  rintro e w2 ⟨rfl, hb2⟩
  go_wp2_with fail
  refine (fn_any 1 _ 1 1 _).mono ?_
  rintro e w3 ⟨rfl, hb3⟩
  go_wp2_with fail
  refine (fn_any 0 _ 0 0 _).mono ?_
  rintro e w4 ⟨rfl, hb4⟩
  go_wp2_with fail
  refine (va_any 1 _).mono ?_
  rintro e w5 ⟨rfl, hb5⟩
  go_wp2_with fail
  refine (fn_any 0 _ 0 0 _).mono ?_
  rintro e w6 ⟨rfl, hb6⟩
  have hz1 := hb1.size
  have hz2 := hb2.size
  have hz3 := hb3.size
  have hz4 := hb4.size
  have hz5 := hb5.size
  have hz6 := hb6.size
  simp at hz3
  have hb36 : Below w3.heap.size w3 w6 := hb4.trans ((hb5.mono hz4).trans (hb6.mono (by omega)))
  have hb26 : Below w2.heap.size w2 w6 := (below1 _ _).trans ((hb3.mono (by simp)).trans (hb36.mono (by omega)))
  have hb06 : Below w.heap.size w w6 := hb1.trans ((hb2.mono hz1).trans (hb26.mono (by omega)))
  have hg6 := Ints_below hb26 (Ints_below hb2 hg1)
  have hin6 : InL w6 [tyX] (some ⟨w2.heap.size, 0, none⟩) := InP_below (hb36.mono (by omega)) (InP_below hb3 (InP_newT (p := fun _ => True) (w := w2) (t := tyX) 27 rfl trivial rfl))
  have HLt := hide (ty_lits (n := w6.heap.size) (c2 := 1) rfl hin6)
  have HG := hide (Ints_below (below1 w6 (.cells #[.bool true, .int .i64 0, .int .i64 1, .slice (some ⟨w2.heap.size, 0, none⟩) 1 1, .int .i64 0, .int .i64 0, .slice none 0 0, .bool false, .int .i64 1, .int .i64 0, .slice none 0 0, .int .i64 0, .int .i64 0, .slice none 0 0] 52)) hg6)
  have Hb06 := hide hb06
  clear hb1 hb2 hb3 hb4 hb5 hb6 hb36 hb26 hb06 hg6 hin6 hg1
  go_wp2_with fail
  refine (Clause_begun n1 _ _ HG.out (Tab_below (below1 _ _) (Tab_below Hb06.out Htab.out)) HLt.out).mono ?_
  rintro e w7 ⟨rfl, hb7⟩
  have Hb07 := hide (Hb06.out.trans (((below1 w6 _).trans (hb7.mono (by simp))).mono Hb06.out.size))
  clear hb7 HG HLt Hb06 hz1 hz2 hz3 hz4 hz5 hz6
  go_wp2_with fail
  refine (small_any _).mono ?_
  rintro e w8 ⟨n8, rfl, hg8, hb8⟩
  have Hb08 := hide (Hb07.out.trans (hb8.mono Hb07.out.size))
  have HPC := hide (ParseClause_begun n8 w8 hg8)
  clear hb8 Hb07 hg8
  go_wp2_with fail
  refine HPC.out.mono ?_
  rintro e w9 ⟨a9, cap9, rfl, hb9⟩
  have Hb09 := hide (Hb08.out.trans (hb9.mono Hb08.out.size))
  clear hb9 Hb08 HPC
  go_wp2_with fail
  refine (small_any _).mono ?_
  rintro e wa ⟨na, rfl, hga, hba⟩
  have Hb0a := hide (Hb09.out.trans (hba.mono Hb09.out.size))
  have HPT := hide (ParseTerm_begun na wa hga)
  clear hba Hb09 hga
  go_wp2_with fail
  refine HPT.out.mono ?_
  rintro e wb ⟨ab, capb, rfl, hinb, hbb⟩
  have Hb0b := hide (Hb0a.out.trans (hbb.mono Hb0a.out.size))
  clear hbb Hb0a HPT
  have hS := hide (fun (w' : World) (hb : Below (wb.heap.size + 1) (wb.alloc (.cells #[.int .i64 0, .int .i64 1, .slice ab 1 capb] 27)) w') => (show w'.cell? ⟨wb.heap.size, 0, none⟩ = some (.int .i64 0) ∧ w'.cell? ⟨wb.heap.size, 1, none⟩ = some (.int .i64 1) ∧ w'.cell? ⟨wb.heap.size, 2, none⟩ = some (.slice ab 1 capb) from
    ⟨((Three.new 27 rfl).same (hb.block _ (by omega))).c0, ((Three.new 27 rfl).same (hb.block _ (by omega))).c1, ((Three.new 27 rfl).same (hb.block _ (by omega))).c2⟩))
  have hI := hide (fun (w' : World) (hb : Below (wb.heap.size + 1) (wb.alloc (.cells #[.int .i64 0, .int .i64 1, .slice ab 1 capb] 27)) w') => InP_below ((below1 wb _).trans (hb.mono (by omega))) hinb)
  have hB := hide (fun (w' : World) (hb : Below (wb.heap.size + 1) (wb.alloc (.cells #[.int .i64 0, .int .i64 1, .slice ab 1 capb] 27)) w') => (Hb0b.out.alloc Hb0b.out.size _).trans (hb.mono (by have := Hb0b.out.size; omega)))
  clear hinb Hb0b
  go_wp2_with fail
  go_region_held3 (fun w' => w'.cell? ⟨wb.heap.size, 0, none⟩ = some (.int .i64 0) ∧ w'.cell? ⟨wb.heap.size, 1, none⟩ = some (.int .i64 1) ∧ w'.cell? ⟨wb.heap.size, 2, none⟩ = some (.slice ab 1 capb)) ((first | go_keep | exact hS.out _ (Hid.out ‹Hid (Below _ _ _)›))) ((first
    | (go_at_call 27
       refine (small_any _).mono ?_
       rintro e w6 ⟨n6, rfl, hg6, hb6⟩
       have H6 : Hid (Below (wb.heap.size + 1) (wb.alloc (.cells #[.int .i64 0, .int .i64 1, .slice ab 1 capb] 27)) w6) := by
         have := below_undrew hb6
         simpa [Hid] using this)
    | (go_at_call 5
       refine (Term_begun n6 ab capb _ hg6 (Tab_below (hB.out _ H6.out) Htab.out) (hI.out _ H6.out)).mono ?_
       rintro e w7 ⟨rfl, hb7⟩
       have H7 : Hid (Below (wb.heap.size + 1) (wb.alloc (.cells #[.int .i64 0, .int .i64 1, .slice ab 1 capb] 27)) w7) := H6.out.trans (hb7.mono (by have := H6.out.size; simpa using this)))))
  clear H6 hg6 hb6 hb7
  go_wp2_with fail
  go_ret
  exact ⟨rfl, hB.out _ H7.out⟩
end Go.Proofs.YtbkedppkdhfpoaaGreatDoor

namespace Go.Proofs.YtbkedppkdhfpoaaGreatDoor
open Go.RowKit

theorem digits_small {n : Nat} (h : n < 10) : Lib.decDigits n = [UInt8.ofNat (48 + n)] := by rw [Lib.decDigits, dif_pos h]
theorem digits_great {n : Nat} (h : ¬ n < 10) : Lib.decDigits n = Lib.decDigits (n / 10) ++ Lib.decDigits (n % 10) := by
  rw [digits_small (Nat.mod_lt _ (by decide)), Lib.decDigits, dif_neg h]
attribute [local go_sem ↓] Go.wp_at_zero Go.wp_at_succ
set_option maxRecDepth 100000 in
set_option maxHeartbeats 1000000 in
theorem Digits_any (N : Nat) : ∀ (n : Nat) (w : World), n < N → n ≤ 1000 → Calls Tryz.prog 26 #[.int .i64 n] w fun e w' => e = .returned (.string ⟨(Lib.decDigits n).toArray⟩) ∧ Below w.heap.size w w' := by
  induction N with
  | zero => intro n w h; exact absurd h (Nat.not_lt_zero _)
  | succ N ih =>
    intro n w hn hl
    by_cases h : n < 10
    · have h10 : (n : Int) < 10 := by omega
      have hcv : (convert 70 9 (.slice (some ⟨w.heap.size, 0, none⟩) 1 1)).run Tryz.prog (w.alloc (.cells #[.int .u8 (48 + (n : Int))] 5)) = .ok (.string ⟨[UInt8.ofNat (48 + n)].toArray⟩) (w.alloc (.cells #[.int .u8 (48 + (n : Int))] 5)) :=
        run_convert_bytes_back (P := Tryz.prog) (w.alloc (.cells #[.int .u8 (48 + (n : Int))] 5)) 70 9 5 ⟨w.heap.size, 0, none⟩ 1 [UInt8.ofNat (48 + n)] Tryz.underlying70 Tryz.underlying5 Tryz.underlying9 (fun j hj => by
        obtain rfl : j = 0 := by simp at hj; omega
        rw [show (⟨w.heap.size, 0, none⟩ : Addr).add 0 = ⟨w.heap.size, 0, none⟩ from rfl, cell_new 0 rfl]
        have e : (UInt8.ofNat (48 + n)).toNat = 48 + n := by rw [UInt8.toNat_ofNat']; omega
        show some (Value.int .u8 (48 + (n : Int))) = some (Value.int .u8 (((UInt8.ofNat (48 + n)).toNat : Nat) : Int))
        rw [e]
        simp)
      rw [digits_small h]
      go_enter Tryz.func26, Tryz.ntmps26
      go_wp2_with fail
      go_ret
      refine ⟨?_, below1 _ _⟩
      simp
    · have h10 : ¬ (n : Int) < 10 := by omega
      have hq : ((n / 10 : Nat) : Int) = (n : Int) / 10 := by omega
      have hr : ((n % 10 : Nat) : Int) = (n : Int) % 10 := by omega
      have H1 := hide (fun (w : World) => ih (n / 10) w (by omega) (by omega))
      have H2 := hide (fun (w : World) => ih (n % 10) w (by omega) (by omega))
      rw [hq] at H1
      rw [hr] at H2
      have hd := digits_great h
      have hlen := dec_len n
      rw [hd, List.length_append] at hlen
      rw [hd]
      have hadd : ¬ 9223372036854775807 < (Lib.decDigits (n / 10)).length + (Lib.decDigits (n % 10)).length := by omega
      clear hd hq hr hlen
      go_enter Tryz.func26, Tryz.ntmps26
      go_wp2_with fail
      refine (H1.out _).mono ?_
      rintro e w1 ⟨rfl, hb1⟩
      go_wp2_with fail
      refine (H2.out _).mono ?_
      rintro e w2 ⟨rfl, hb2⟩
      have Hb := hide (hb1.trans (hb2.mono hb1.size))
      clear hb1 hb2
      go_wp2_with fail
      go_ret
      exact ⟨by rw [bytes_append]; rfl, Hb.out⟩
end Go.Proofs.YtbkedppkdhfpoaaGreatDoor

namespace Go.Proofs.YtbkedppkdhfpoaaGreatDoor
open Go.RowKit

theorem Digits_int (z : Int) (h0 : 0 ≤ z) (h1 : z ≤ 1000) (w : World) : Calls Tryz.prog 26 #[.int .i64 z] w fun e w' => e = .returned (.string ⟨(Lib.itoa z).toArray⟩) ∧ Below w.heap.size w w' := by
  obtain ⟨n, rfl⟩ := Int.eq_ofNat_of_zero_le h0
  have e : Lib.itoa (n : Int) = Lib.decDigits n := by
    rw [Lib.itoa, if_neg (by omega)]
    rfl
  rw [e]
  exact Digits_any (n + 1) n w (by omega) (by omega)
theorem szL_le_take (ts : List T) (k : Nat) : T.sz.szL (ts.take k) ≤ T.sz.szL ts := by
  have h := T.szL_append (ts.take k) (ts.drop k)
  rw [List.take_append_drop] at h
  omega
/-- What of a term's text is written when k arguments are. -/
def upTo (t : T) (k : Nat) : List UInt8 := nameL t ++ (if k = 0 then [] else 40 :: textT.textL (t.args.take k))
theorem upTo_len {ar : List Int} (har : ar.length ≤ 12) {t : T} (hok : okP ar t) (hsz : t.sz ≤ 1000) (k : Nat) : (upTo t k).length ≤ 2000000 := by
  have h1 := nameL_len har hok
  have h2 := ((term_len har _).2 (t.args.take k) (Nat.le_refl _) (fun x hx => okArg hok (List.mem_of_mem_take hx))).1
  have h3 := szL_le_take t.args k
  have h4 : T.sz.szL t.args < t.sz := by cases t; simp [T.sz]
  rw [upTo, List.length_append]
  split
  · simp; omega
  · rw [List.length_cons]; omega
theorem upTo_step {t x : T} {k : Nat} (h : t.args[k]? = some x) : upTo t (k + 1) = upTo t k ++ (if k = 0 then [40] else [44]) ++ textT x := by
  rw [upTo, upTo, textL_step h, if_neg (by omega)]
  by_cases h0 : k = 0
  · subst h0
    simp [textT.textL]
  · rw [if_neg h0, if_neg h0, if_neg h0]
    simp
theorem upTo_end (t : T) : upTo t t.args.length ++ (if t.args.length = 0 then [] else [41]) = textT t := by
  rw [upTo, textT_eq, List.take_length]
  by_cases h : t.args.length = 0
  · have : t.args = [] := List.length_eq_zero_iff.1 h
    rw [if_pos h, if_pos h, this]
    simp
  · have : t.args.isEmpty = false := by
      rw [List.isEmpty_eq_false_iff]
      intro e
      rw [e] at h
      exact h rfl
    rw [if_neg h, if_neg h, this]
    simp
attribute [local go_sem ↓] Go.wp_at_zero Go.wp_at_succ
set_option maxRecDepth 100000 in
set_option maxHeartbeats 2000000 in
theorem TermText_any (ar : List Int) (har : ar.length ≤ 12) (N : Nat) : ∀ (t : T) (a : Option Addr) (cap : Nat) (w : World), t.sz < N → t.sz ≤ 1000 → okP ar t → InL w t.args a →
    Calls Tryz.prog 10 #[.agg #[.int .i64 t.v, .int .i64 t.f, .slice a t.args.length cap]] w fun e w' => e = .returned (.string ⟨(textT t).toArray⟩) ∧ Below w.heap.size w w' := by
  induction N with
  | zero => intro t a cap w h; exact absurd h (Nat.not_lt_zero _)
  | succ N ih =>
    intro t a cap w hN hsz hok hin
    obtain ⟨W1, hW1⟩ : ∃ W1, W1 = w.alloc (.cells #[.int .i64 t.v, .int .i64 t.f, .slice a t.args.length cap] 27) := ⟨_, rfl⟩
    have hbW : Below w.heap.size w W1 := by rw [hW1]; exact below1 _ _
    have hz1 : W1.heap.size = w.heap.size + 1 := by rw [hW1]; simp
    have h3 : Three W1 w.heap.size (.int .i64 t.v) (.int .i64 t.f) (.slice a t.args.length cap) := by rw [hW1]; exact Three.new _ rfl
    obtain ⟨⟨hv0, hv1⟩, hf0, hf1⟩ := ok_nums har hok
    have HDv := hide (fun (Y : World) => Digits_int t.v hv0 hv1 Y)
    have HDf := hide (fun (Y : World) => Digits_int t.f hf0 hf1 Y)
    have Hin := hide (InP_below hbW hin)
    have H3 := hide (fun (Y : World) (hb : Below W1.heap.size W1 Y) => h3.below hb)
    have HF := hide (fun (Y : World) (hb : Below W1.heap.size W1 Y) => hbW.trans (hb.mono (by omega)))
    have HW1 := hide hW1
    have hlv := itoa_len hv0 hv1
    have hlf := itoa_len hf0 hf1
    obtain ⟨X, hX⟩ : ∃ X, X = textT t := ⟨_, rfl⟩
    rw [← hX]
    have HX := hide hX
    have hlt1 : t.args.length ≤ 1000 := by
      have h1 := T.length_le t.args
      have h4 : T.sz.szL t.args < t.sz := by cases t; simp [T.sz]
      omega
    obtain ⟨p0, p1, p2, -, -, -⟩ := h3
    have Hih := hide ih
    have Hok := hide hok
    clear hW1 hbW hz1 hin hX ih hok
    go_enter Tryz.func10, Tryz.ntmps10
    go_upto_region 1 with fail
    rw [← HW1.out]
    by_cases hv : t.v = 0
    · have hvn : ¬ (0 < t.v) := by omega
      have Hup : Hid (nameL t = [102] ++ Lib.itoa t.f) := by show _ = _; rw [nameL, if_neg (by simpa using hv)]; rfl
      have hadd0 : ¬ 9223372036854775807 < 1 + (Lib.itoa t.f).length := by omega
      go_wp2_with fail
      refine (HDf.out _).mono ?_
      rintro e w2 ⟨rfl, hb2⟩
      have Hb2 := hide hb2
      clear hb2 p0 p1 p2
      go_wp2_with fail
      rw [show ({ data := #[102] } : ByteArray) ++ { data := (Lib.itoa t.f).toArray } = ⟨(nameL t).toArray⟩ by rw [Hup.out]; exact bytes_append [102] _]
      go_loopw [3, 4] (fun sv i wr => ∃ k : Nat, k ≤ t.args.length ∧ i = .int .i64 k ∧ sv = .string ⟨(upTo t k).toArray⟩ ∧ Hid (Below W1.heap.size W1 wr)) (fun _ i _ => t.args.length - (intOf i).toNat)
      case atStart => exact ⟨0, Nat.zero_le _, rfl, by rw [upTo, if_pos rfl, List.append_nil], Hb2.out⟩
      case round =>
        obtain ⟨k, hk, rfl, rfl, Hb⟩ := hrel
        have hS := upTo_len har Hok.out hsz k
        obtain ⟨S, hSe⟩ : ∃ S, S = upTo t k := ⟨_, rfl⟩
        rw [← hSe] at hS ⊢
        have HSe := hide hSe
        obtain ⟨q0, q1, q2, -, -, -⟩ := H3.out wr Hb.out
        clear hSe
        by_cases hlt : k < t.args.length
        · obtain ⟨ba, off, rfl⟩ := InP_some Hin.out (by omega)
          obtain ⟨x, hx⟩ : ∃ x, t.args[k]? = some x := ⟨t.args[k], List.getElem?_eq_getElem hlt⟩
          obtain ⟨a1, cap1, -, c0, c1, c2, hinx⟩ := InP_at (InP_below Hb.out Hin.out) hx
          have hxm := List.mem_of_getElem? hx
          have hxo := okArg Hok.out hxm
          have hxs : x.sz < t.sz := by have h1 := T.szL_mem hxm; have h4 : T.sz.szL t.args < t.sz := by cases t; simp [T.sz]
                                       omega
          have HI := hide (Hih.out x a1 cap1 wr (by omega) (by omega) hxo hinx)
          have hxl := (term_len har _).1 x (Nat.le_refl _) hxo
          have Hst := hide (upTo_step hx)
          have hkI : (k : Int) < t.args.length := by omega
          have hk0 : (0 : Int) ≤ k := by omega
          have hadd1 : ¬ 9223372036854775807 < S.length + 1 := by omega
          have hadd2 : ¬ 9223372036854775807 < S.length + 1 + (textT x).length := by omega
          clear hx hxm hxo hinx
          by_cases hk00 : k = 0
          · subst hk00
            simp only [Nat.zero_mul, Nat.add_zero] at c0 c1 c2
            rw [if_pos rfl, ← HSe.out] at Hst
            go_wp2_with fail
            refine HI.out.mono ?_
            rintro e w4 ⟨rfl, hb4⟩
            have Hb4 := hide (Hb.out.trans (hb4.mono Hb.out.size))
            clear hb4
            go_wp2_with fail
            go_roundw
            case rel => exact ⟨0 + 1, by omega, by go_num, by rw [Hst.out, ← bytes_append, ← bytes_append], Hb4⟩
            case measure => simp [intOf]; omega
          · have hkb : ((k : Int) == 0) = false := by rw [beq_eq_false_iff_ne]; omega
            rw [if_neg hk00, ← HSe.out] at Hst
            go_wp2_with fail
            refine HI.out.mono ?_
            rintro e w4 ⟨rfl, hb4⟩
            have Hb4 := hide (Hb.out.trans (hb4.mono Hb.out.size))
            clear hb4
            go_wp2_with fail
            go_roundw
            case rel => exact ⟨k + 1, by omega, by go_num, by rw [Hst.out, ← bytes_append, ← bytes_append], Hb4⟩
            case measure => simp [intOf]; omega
        · obtain rfl : k = t.args.length := by omega
          have hkI : ¬ ((t.args.length : Int) < t.args.length) := by omega
          have Hf := hide (HF.out _ Hb.out)
          have hend := upTo_end t
          rw [← HSe.out, ← HX.out] at hend
          by_cases h0 : t.args.length = 0
          · have h0' : ¬ (0 : Int) < (t.args.length : Int) := by omega
            rw [if_pos h0, List.append_nil] at hend
            subst hend
            clear h0
            go_wp2_with fail
            go_ret
            exact ⟨rfl, Hf.out⟩
          · have h0' : (0 : Int) < (t.args.length : Int) := by omega
            rw [if_neg h0] at hend
            have Hend := hide hend
            have hadd1 : ¬ 9223372036854775807 < S.length + 1 := by omega
            clear h0 hend
            go_wp2_with fail
            go_ret
            exact ⟨by rw [← Hend.out, ← bytes_append]; rfl, Hf.out⟩
    · have hvp : 0 < t.v := by omega
      have Hup : Hid (X = [88] ++ Lib.itoa t.v) := by
        show _ = _
        rw [HX.out, textT_eq, nameL, if_pos hv, (ok_var Hok.out hv).2]
        simp
      have hadd0 : ¬ 9223372036854775807 < 1 + (Lib.itoa t.v).length := by omega
      clear hv
      go_wp2_with fail
      refine (HDv.out _).mono ?_
      rintro e w2 ⟨rfl, hb2⟩
      have Hf := hide (HF.out _ hb2)
      clear hb2
      go_wp2_with fail
      go_ret
      exact ⟨by rw [Hup.out, ← bytes_append]; rfl, Hf.out⟩
end Go.Proofs.YtbkedppkdhfpoaaGreatDoor

namespace Go.Proofs.YtbkedppkdhfpoaaGreatDoor
open Go.RowKit

theorem joinTail_snoc (sep : List UInt8) (l : List (List UInt8)) (y : List UInt8) : Lib.joinTail sep (l ++ [y]) = Lib.joinTail sep l ++ (sep ++ y) := by simp [Lib.joinTail]
/-- The text of the first literals. -/
def clUp (c : List Lit) (k : Nat) : List UInt8 := Lib.join ((c.take k).map litL) [32, 124, 32]
theorem clUp_step {c : List Lit} {k : Nat} {x : Lit} (h : c[k]? = some x) : clUp c (k + 1) = clUp c k ++ (if k = 0 then [] else [32, 124, 32]) ++ textT x.2.1 ++ signL x.1 ++ textT x.2.2 := by
  have e : (c.take (k + 1)).map litL = (c.take k).map litL ++ [litL x] := by rw [List.take_add_one, h, List.map_append]; rfl
  rw [clUp, clUp, e]
  by_cases h0 : k = 0
  · subst h0
    rw [if_pos rfl, List.take_zero, List.map_nil, List.nil_append, Lib.join_one, Lib.join_nil, litL]
    simp
  · rw [if_neg h0]
    have hlt := (List.getElem?_eq_some_iff.1 h).1
    cases hc : (c.take k).map litL with
    | nil =>
      have : ((c.take k).map litL).length = 0 := by rw [hc]; rfl
      rw [List.length_map, List.length_take] at this
      omega
    | cons y r =>
      rw [List.cons_append, Lib.join_cons, Lib.join_cons, joinTail_snoc, litL]
      simp
theorem clUp_len {ar : List Int} (har : ar.length ≤ 12) {c : List Lit} (hlo : LitsOk ar c) (h8 : c.length ≤ 8) (k : Nat) : (clUp c k).length ≤ 3000000 := by
  have h2 := join_len [32, 124, 32] 241444 ((c.take k).map litL) (fun y hy => by
    obtain ⟨x, hx, rfl⟩ := List.mem_map.1 hy
    exact litL_len har (hlo x (List.mem_of_mem_take hx)))
  rw [List.length_map] at h2
  have h3 : (c.take k).length * ([32, 124, 32].length + 241444) ≤ 8 * ([32, 124, 32].length + 241444) := Nat.mul_le_mul_right _ (by rw [List.length_take]; omega)
  have h4 : 8 * (([32, 124, 32] : List UInt8).length + 241444) ≤ 3000000 := by decide
  exact Nat.le_trans h2 (Nat.le_trans h3 h4)
attribute [local go_sem ↓] Go.wp_at_zero Go.wp_at_succ
set_option maxRecDepth 100000 in
set_option maxHeartbeats 2000000 in
theorem ClauseText_any (ar : List Int) (har : ar.length ≤ 12) (c : List Lit) (ca : Option Addr) (cc : Nat) (w : World) (hlo : LitsOk ar c) (h8 : c.length ≤ 8) (hc : LitsP w c ca) :
    Calls Tryz.prog 11 #[.slice ca c.length cc] w fun e w' => e = .returned (.string ⟨(clauseL c).toArray⟩) ∧ Below w.heap.size w w' := by
  obtain ⟨X, hX⟩ : ∃ X, X = clauseL c := ⟨_, rfl⟩
  rw [← hX]
  by_cases hn : c.length = 0
  · obtain rfl : c = [] := List.length_eq_zero_iff.1 hn
    subst hX
    clear hn hc hlo
    go_enter Tryz.func11, Tryz.ntmps11
    go_wp2_with fail
    go_ret
    exact ⟨rfl, Below.refl _ _⟩
  · have hne : ((c.length : Int) == 0) = false := by rw [beq_eq_false_iff_ne]; omega
    have HX : Hid (X = clUp c c.length) := by
      show _ = _
      rw [hX, clauseL, clUp, List.take_length]
      have : c.isEmpty = false := by
        rw [List.isEmpty_eq_false_iff]
        intro e
        rw [e] at hn
        exact hn rfl
      rw [this]
      rfl
    have Hc := hide hc
    have Hlo := hide hlo
    have HT := hide (fun (x : T) (a : Option Addr) (cap : Nat) (Y : World) (hs : x.sz ≤ 120 ∧ okP ar x) (hi : InL Y x.args a) => TermText_any ar har (x.sz + 1) x a cap Y (by omega) (by omega) hs.2 hi)
    clear hX hc hlo hn
    go_enter Tryz.func11, Tryz.ntmps11
    go_wp2_with fail
    go_loopw [3, 4] (fun sv i wr => ∃ k : Nat, k ≤ c.length ∧ i = .int .i64 k ∧ sv = .string ⟨(clUp c k).toArray⟩ ∧ Hid (Below w.heap.size w wr)) (fun _ i _ => c.length - (intOf i).toNat)
    case atStart => exact ⟨0, Nat.zero_le _, rfl, rfl, Below.refl _ _⟩
    case round =>
      obtain ⟨k, hk, rfl, rfl, Hb⟩ := hrel
      have hS := clUp_len har Hlo.out h8 k
      obtain ⟨S, hSe⟩ : ∃ S, S = clUp c k := ⟨_, rfl⟩
      rw [← hSe] at hS ⊢
      have HSe := hide hSe
      clear hSe
      by_cases hlt : k < c.length
      · obtain ⟨b, off, rfl⟩ := LitsP_some Hc.out (by omega)
        obtain ⟨x, hx⟩ : ∃ x, c[k]? = some x := ⟨c[k], List.getElem?_eq_getElem hlt⟩
        obtain ⟨a1, c1, a2, c2, k0, k1, k2, k3, k4, k5, k6, hi1, hi2⟩ := LitsP_at (LitsP_below Hb.out Hc.out) hx
        have hxo := Hlo.out x (List.mem_of_getElem? hx)
        have HA := hide (HT.out x.2.1 a1 c1 wr hxo.1 hi1)
        have HB := hide (fun (Y : World) (hb : Below wr.heap.size wr Y) => HT.out x.2.2 a2 c2 Y hxo.2 (InP_below hb hi2))
        have HK := hide (fun (Y : World) (hb : Below wr.heap.size wr Y) => And.intro (cell_below hb k0) (And.intro (cell_below hb k4) (And.intro (cell_below hb k5) (cell_below hb k6))))
        have hla := (term_len har _).1 x.2.1 (Nat.le_refl _) hxo.1.2
        have hlb := (term_len har _).1 x.2.2 (Nat.le_refl _) hxo.2.2
        have hsA := hxo.1.1
        have hsB := hxo.2.1
        have Hst := hide (clUp_step hx)
        have hkI : (k : Int) < c.length := by omega
        have hk0 : (0 : Int) ≤ k := by omega
        obtain ⟨q, yt, zt⟩ := x
        clear hx hxo hi1 hi2
        have hadd0 : ¬ 9223372036854775807 < S.length + 3 := by omega
        by_cases hk00 : k = 0
        case' pos =>
          have hkd : ¬ (0 : Int) < k := by omega
          rw [if_pos hk00, List.append_nil, ← HSe.out] at Hst
          have hS2 := hS
          obtain ⟨S2, hS2e⟩ : ∃ S2, S2 = S := ⟨_, rfl⟩
          rw [← hS2e] at hS2 Hst ⊢
          clear hk00 hS2e
          go_wp2_with fail
        case' neg =>
          have hkd : (0 : Int) < k := by omega
          rw [if_neg hk00, ← HSe.out] at Hst
          have hS2 : (S ++ [32, 124, 32]).length ≤ 3000003 := by rw [List.length_append]; simp; omega
          obtain ⟨S2, hS2e⟩ : ∃ S2, S2 = S ++ [32, 124, 32] := ⟨_, rfl⟩
          rw [← hS2e] at hS2 Hst
          clear hk00
          go_wp2_with fail
          rw [show ({ data := S.toArray } : ByteArray) ++ { data := #[32, 124, 32] } = ⟨S2.toArray⟩ by rw [hS2e]; exact bytes_append S [32, 124, 32]]
          clear hS2e
        all_goals (
          have hadd1 : ¬ 9223372036854775807 < S2.length + (textT yt).length := by omega
          have hadd2 : ¬ 9223372036854775807 < S2.length + (textT yt).length + 3 := by omega
          have hadd3 : ¬ 9223372036854775807 < S2.length + (textT yt).length + 4 := by omega
          have hadd4 : ¬ 9223372036854775807 < S2.length + (textT yt).length + 3 + (textT zt).length := by omega
          have hadd5 : ¬ 9223372036854775807 < S2.length + (textT yt).length + 4 + (textT zt).length := by omega
          refine HA.out.mono ?_
          rintro e w4 ⟨rfl, hb4⟩
          obtain ⟨m0, m4, m5, m6⟩ := HK.out w4 hb4
          have HB4 := hide (HB.out w4 hb4)
          have Hb4 := hide (Hb.out.trans (hb4.mono Hb.out.size))
          clear hb4 HA HB HK k0 k1 k2 k3 k4 k5 k6
          cases q with
          | true =>
            go_wp2_with fail
            refine HB4.out.mono ?_
            rintro e w5 ⟨rfl, hb5⟩
            have Hb5 := hide (Hb4.out.trans (hb5.mono Hb4.out.size))
            clear hb5 HB4
            go_wp2_with fail
            go_roundw
            case rel => exact ⟨k + 1, by omega, by go_num, by rw [Hst.out, ← bytes_append, ← bytes_append, ← bytes_append]; rfl, Hb5⟩
            case measure => simp [intOf]; omega
          | false =>
            go_wp2_with fail
            refine HB4.out.mono ?_
            rintro e w5 ⟨rfl, hb5⟩
            have Hb5 := hide (Hb4.out.trans (hb5.mono Hb4.out.size))
            clear hb5 HB4
            go_wp2_with fail
            go_roundw
            case rel => exact ⟨k + 1, by omega, by go_num, by rw [Hst.out, ← bytes_append, ← bytes_append, ← bytes_append]; rfl, Hb5⟩
            case measure => simp [intOf]; omega)
      · obtain rfl : k = c.length := by omega
        have hkI : ¬ ((c.length : Int) < c.length) := by omega
        rw [← HSe.out] at HX
        obtain rfl := HX.out
        go_wp2_with fail
        go_ret
        exact ⟨rfl, Hb.out⟩
end Go.Proofs.YtbkedppkdhfpoaaGreatDoor

namespace Go.Proofs.YtbkedppkdhfpoaaGreatDoor
open Go.RowKit

theorem tens_iff (c : UInt8) : tens.contains c = true ↔ 48 ≤ c.toNat ∧ c.toNat ≤ 57 := by
  have h : ∀ n : Fin 256, tens.contains (UInt8.ofNat n.val) = true ↔ 48 ≤ (UInt8.ofNat n.val).toNat ∧ (UInt8.ofNat n.val).toNat ≤ 57 := by decide +kernel
  have := h ⟨c.toNat, c.toNat_lt⟩
  simpa using this
theorem digit_of (c : UInt8) (h : 48 ≤ c.toNat ∧ c.toNat ≤ 57) : Lib.digitVal c = some (c.toNat - 48) := by
  have h1 : ∀ n : Fin 256, 48 ≤ n.val ∧ n.val ≤ 57 → Lib.digitVal (UInt8.ofNat n.val) = some (n.val - 48) := by decide +kernel
  have := h1 ⟨c.toNat, c.toNat_lt⟩ h
  simpa using this
theorem aft_head {d : List UInt8} {c : UInt8} {r : List UInt8} (h : aft d = c :: r) : tens.contains c = false := by
  have h1 := List.head?_dropWhile_not (tens.contains ·) d
  rw [show List.dropWhile (tens.contains ·) d = c :: r from h] at h1
  simpa using h1
theorem at_digs {d : List UInt8} {k : Nat} (h : k < (digs d).length) : d[k]? = (digs d)[k]? := by
  conv => lhs; rw [← digs_aft d]
  rw [List.getElem?_append_left h]
theorem digs_step {d : List UInt8} {k : Nat} {c : UInt8} (hk : k ≤ (digs d).length) (hc : d[k]? = some c) (ht : tens.contains c = true) : k < (digs d).length ∧ (digs d)[k]? = some c := by
  have hlt : k < (digs d).length := by
    rcases Nat.lt_or_eq_of_le hk with h | h
    · exact h
    · exfalso
      have hc2 : (digs d ++ aft d)[k]? = some c := by rw [digs_aft]; exact hc
      rw [List.getElem?_append_right (by omega), h, Nat.sub_self] at hc2
      clear hc
      have hc := hc2
      cases ha : aft d with
      | nil => rw [ha] at hc; cases hc
      | cons x r =>
        rw [ha] at hc
        have := aft_head ha
        obtain rfl : x = c := by simpa using hc
        rw [ht] at this
        cases this
  exact ⟨hlt, by rw [← at_digs hlt]; exact hc⟩
theorem digs_stop {d : List UInt8} {k : Nat} {c : UInt8} (hk : k ≤ (digs d).length) (hc : d[k]? = some c) (ht : ¬ tens.contains c = true) : k = (digs d).length := by
  rcases Nat.lt_or_eq_of_le hk with h | h
  · exfalso
    rw [at_digs h] at hc
    exact ht (digs_mem (List.mem_of_getElem? hc))
  · exact h
theorem digs_full {d : List UInt8} {k : Nat} (hk : k ≤ (digs d).length) (h : d.length ≤ k) : k = (digs d).length := by
  have := digs_len d
  omega
theorem aft_drop (d : List UInt8) : aft d = d.drop (digs d).length := by
  have h : (digs d ++ aft d).drop (digs d).length = aft d := List.drop_left' rfl
  rw [digs_aft] at h
  exact h.symm
theorem numV_dec {d : List UInt8} {m : Nat} (h0 : 0 < d.length) (hd : ∀ x ∈ d, tens.contains x = true) (h : Lib.decFrom 0 d = some m) : numV d = m := by
  cases d with
  | nil => cases h0
  | cons a t =>
    have ha := hd a List.mem_cons_self
    have h1 : (a == 45) = false := by
      rw [beq_eq_false_iff_ne]; rintro rfl; exact absurd ha (by decide)
    have h2 : (a == 43) = false := by
      rw [beq_eq_false_iff_ne]; rintro rfl; exact absurd ha (by decide)
    rw [numV, Lib.atoi, h1, h2, if_neg (by decide), if_neg (by decide), Lib.decNat, if_neg (by simp), h]
    rfl
theorem dec_step {d : List UInt8} {k m : Nat} {c : UInt8} (hc : d[k]? = some c) (h : 48 ≤ c.toNat ∧ c.toNat ≤ 57) (hm : Lib.decFrom 0 (d.take k) = some m) : Lib.decFrom 0 (d.take (k + 1)) = some (10 * m + (c.toNat - 48)) := by
  rw [List.take_add_one, hc]
  have := dec_snoc (d.take k) c (c.toNat - 48) (digit_of c h) 0 m hm
  rw [Nat.mul_comm 10 m]
  exact this
/-- What the document's reader of a number answers. -/
def NumAt (l : List UInt8) (p : Nat) (e : Ending) : Prop :=
  (∃ (v : Int) (q : Nat), rdNum (l.drop p) = some (v, l.drop q) ∧ 0 ≤ v ∧ v ≤ 1000000000 ∧ p < q ∧ q ≤ l.length ∧ e = .returned (.tuple #[.int .i64 v, .int .i64 q])) ∨ (rdNum (l.drop p) = none ∧ ∃ q : Int, e = .returned (.tuple #[.int .i64 (-1), .int .i64 q]))
attribute [local go_sem ↓] Go.wp_at_zero Go.wp_at_succ
set_option maxRecDepth 100000 in
set_option maxHeartbeats 2000000 in
theorem numberAt_any (l : List UInt8) (p : Nat) (hp : p ≤ l.length) (hl : l.length ≤ 3000) (w : World) :
    Calls Tryz.prog 51 #[.string ⟨l.toArray⟩, .int .i64 p] w fun e w' => NumAt l p e ∧ w' = w := by
  obtain ⟨D, hD⟩ : ∃ D, D = digs (l.drop p) := ⟨_, rfl⟩
  have HD := hide hD
  clear hD
  go_enter Tryz.func51, Tryz.ntmps51
  go_wp2_with fail
  go_loopw [1, 6] (fun i n wr => ∃ (q k m : Nat), i = .int .i64 q ∧ n = .int .i64 m ∧ Hid (q = p + k) ∧ q ≤ l.length ∧ Hid (k ≤ D.length) ∧ Hid (k ≤ 9) ∧ Hid (Lib.decFrom 0 (D.take k) = some m) ∧ Hid (m < 10 ^ k) ∧ Hid (wr = w)) (fun i _ _ => l.length - (intOf i).toNat)
  case atStart => exact ⟨p, 0, 0, rfl, rfl, rfl, hp, Nat.zero_le _, Nat.zero_le _, rfl, by simp [Hid], rfl⟩
  case round =>
    obtain ⟨q, k, m, rfl, rfl, Hq, hk, HkD, Hk9, Hm, Hmk, Hwr⟩ := hrel
    obtain rfl := Hwr.out
    have hm9 : m < 1000000000 := by
      have h1 := Hmk.out
      have h2 : 10 ^ k ≤ 10 ^ 9 := Nat.pow_le_pow_right (by decide) Hk9.out
      omega
    have hpq : p ≤ q := by have := Hq.out; omega
    have hq0 : (0 : Int) ≤ q := by omega
    have hcase : (∃ (_ : q < l.length) (c : UInt8), (⟨l.toArray⟩ : ByteArray)[q]'(by show q < l.toArray.size; simp; omega) = c ∧ Hid ((l.drop p)[k]? = some c) ∧ 48 ≤ c.toNat ∧ c.toNat ≤ 57) ∨
        (∃ (_ : q < l.length) (c : UInt8), (⟨l.toArray⟩ : ByteArray)[q]'(by show q < l.toArray.size; simp; omega) = c ∧ (q : Int) < l.length ∧ (48 : Int) ≤ (c.toNat : Int) ∧ ¬ (c.toNat : Int) ≤ 57 ∧ Hid (k = (digs (l.drop p)).length)) ∨
        (∃ (_ : q < l.length) (c : UInt8), (⟨l.toArray⟩ : ByteArray)[q]'(by show q < l.toArray.size; simp; omega) = c ∧ (q : Int) < l.length ∧ ¬ (48 : Int) ≤ (c.toNat : Int) ∧ Hid (k = (digs (l.drop p)).length)) ∨
        (¬ (q : Int) < l.length ∧ Hid (k = (digs (l.drop p)).length)) := by
      by_cases hlt : q < l.length
      · have hx : ∀ h, (⟨l.toArray⟩ : ByteArray)[q]'h = l[q] := fun h => by
          show l.toArray[q]'_ = l[q]
          simp
        have hat : (l.drop p)[k]? = some l[q] := by rw [List.getElem?_drop, ← Hq.out, List.getElem?_eq_getElem hlt]
        by_cases hdig : 48 ≤ l[q].toNat ∧ l[q].toNat ≤ 57
        · exact Or.inl ⟨hlt, l[q], hx _, hat, hdig⟩
        · have hke := digs_stop (by rw [← HD.out]; exact HkD.out) hat (fun h => hdig ((tens_iff _).1 h))
          by_cases h48 : 48 ≤ l[q].toNat
          · exact Or.inr (Or.inl ⟨hlt, l[q], hx _, by omega, by omega, by omega, hke⟩)
          · exact Or.inr (Or.inr (Or.inl ⟨hlt, l[q], hx _, by omega, by omega, hke⟩))
      · exact Or.inr (Or.inr (Or.inr ⟨by omega, digs_full (d := l.drop p) (by rw [← HD.out]; exact HkD.out) (by rw [List.length_drop]; have := Hq.out; omega)⟩))
    rcases hcase with ⟨hlt, c, hx, Hat, hd1, hd2⟩ | hcase
    · have hI : (q : Int) < l.length := by omega
      have g1 : (48 : Int) ≤ (c.toNat : Int) := by omega
      have g2 : (c.toNat : Int) ≤ 57 := by omega
      have Hst := hide (digs_step (by rw [← HD.out]; exact HkD.out) Hat.out ((tens_iff c).2 ⟨hd1, hd2⟩))
      rw [← HD.out] at Hst
      by_cases h9 : 9 ≤ k
      · have g9 : (9 : Int) ≤ (q : Int) - p := by have := Hq.out; omega
        go_wp2_with fail
        go_ret2
        refine ⟨Or.inr ⟨?_, _, rfl⟩, rfl⟩
        rw [rdNum, if_neg]
        rw [← HD.out]
        intro h
        have := h.1.2
        have := Hst.out.1
        omega
      · have g9 : ¬ (9 : Int) ≤ (q : Int) - p := by have := Hq.out; omega
        have Hdc := hide (dec_step Hst.out.2 ⟨hd1, hd2⟩ Hm.out)
        have Hpw := hide (show 10 * m + (c.toNat - 48) < 10 ^ (k + 1) by rw [Nat.pow_succ]; have := Hmk.out; omega)
        have hnum : 10 * (m : Int) + (c.toNat : Int) - 48 = ((10 * m + (c.toNat - 48) : Nat) : Int) := by omega
        have Hnum := hide hnum
        clear hnum
        go_wp2_with fail
        go_roundw
        case rel => exact ⟨q + 1, k + 1, 10 * m + (c.toNat - 48), by go_num, by rw [← Hnum.out], (by have := Hq.out; show q + 1 = p + (k + 1); omega), by omega, Hst.out.1, (by show k + 1 ≤ 9; omega), Hdc.out, Hpw.out, trivial⟩
        case measure => simp [intOf]; omega
    rcases hcase with ⟨hlt, c, hx, hI, g1, g2, HkE⟩ | ⟨hlt, c, hx, hI, g1, HkE⟩ | ⟨hI, HkE⟩
    all_goals (
      rw [← HD.out] at HkE
      have Hall : Hid (∀ x ∈ D, tens.contains x = true) := fun x hx => by rw [HD.out] at hx; exact digs_mem hx
      have Hm2 : Hid (Lib.decFrom 0 D = some m) := by
        have := Hm.out
        rw [HkE.out, List.take_length] at this
        exact this
      have Hdr : Hid (aft (l.drop p) = l.drop q) := by
        show _ = _
        rw [aft_drop, ← HD.out, List.drop_drop, ← HkE.out, Hq.out]
      by_cases hk0 : k = 0
      · have hqp : ((q : Int) == (p : Int)) = true := by rw [beq_iff_eq]; have := Hq.out; omega
        go_wp2_with fail
        go_ret2
        refine ⟨Or.inr ⟨?_, _, rfl⟩, rfl⟩
        rw [rdNum, if_neg]
        rw [← HD.out]
        intro h
        have := h.1.1
        have := HkE.out
        omega
      · have hqp : ((q : Int) == (p : Int)) = false := by rw [beq_eq_false_iff_ne]; have := Hq.out; omega
        have hplt : p < l.length := by have := Hq.out; omega
        have hpI : (p : Int) < l.length := by omega
        have hp0 : (0 : Int) ≤ p := by omega
        obtain ⟨z, hz⟩ : ∃ z, z = l[p] := ⟨_, rfl⟩
        have hxz : (⟨l.toArray⟩ : ByteArray)[p]'(by show p < l.toArray.size; simp; omega) = z := by
          rw [hz]
          show l.toArray[p]'_ = l[p]
          simp
        have HD0 : Hid (D[0]? = some z) := by
          show _ = _
          have h1 := at_digs (d := l.drop p) (k := 0) (by rw [← HD.out]; have := HkE.out; omega)
          rw [← HD.out] at h1
          rw [← h1, List.getElem?_drop, Nat.add_zero, List.getElem?_eq_getElem hplt, hz]
        clear hz
        by_cases hbad : 2 ≤ k ∧ z = 48
        · obtain ⟨h2, rfl⟩ := hbad
          have g3 : (p : Int) + 1 < q := by have := Hq.out; omega
          go_wp2_with fail
          go_ret2
          refine ⟨Or.inr ⟨?_, _, rfl⟩, rfl⟩
          rw [rdNum, if_neg]
          rw [← HD.out]
          intro h
          rcases h.2 with h3 | h3
          · have := HkE.out
            rw [h3] at this
            simp at this
            omega
          · exact h3 HD0.out
        · have Hok : Hid (numOk D) := by
            refine ⟨⟨by have := HkE.out; omega, by have := HkE.out; have := Hk9.out; omega⟩, ?_⟩
            by_cases h1 : k = 1
            · by_cases hz : z = 48
              · left
                have hl1 : D.length = 1 := by rw [← HkE.out]; exact h1
                match D, hl1, HD0.out with
                | [y], _, h => obtain rfl : y = z := by simpa using h
                               rw [hz]
              · right
                rw [HD0.out]
                intro h
                exact hz (by simpa using h)
            · right
              rw [HD0.out]
              intro h
              exact hbad ⟨by omega, by simpa using h⟩
          have Hres : Hid (NumAt l p (.returned (.tuple #[.int .i64 m, .int .i64 q]))) := by
            refine Or.inl ⟨m, q, ?_, by omega, by omega, by have := Hq.out; omega, by omega, rfl⟩
            rw [rdNum, ← HD.out, if_pos Hok.out, Hdr.out, numV_dec (by have := HkE.out; omega) Hall.out Hm2.out]
          by_cases h2 : 2 ≤ k
          · have g3 : (p : Int) + 1 < q := by have := Hq.out; omega
            have g4 : ((z.toNat : Int) == 48) = false := by
              rw [beq_eq_false_iff_ne]
              intro h
              exact hbad ⟨h2, UInt8.toNat_inj.1 (by have : (48 : UInt8).toNat = 48 := rfl; omega)⟩
            clear hbad
            go_wp2_with fail
            go_ret2
            exact ⟨Hres.out, rfl⟩
          · have g3 : ¬ (p : Int) + 1 < q := by have := Hq.out; omega
            clear hbad
            go_wp2_with fail
            go_ret2
            exact ⟨Hres.out, rfl⟩)
end Go.Proofs.YtbkedppkdhfpoaaGreatDoor
