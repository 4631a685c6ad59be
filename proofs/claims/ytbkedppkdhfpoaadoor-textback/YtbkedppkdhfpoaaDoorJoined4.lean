/- Texts: the reader: a word taken, and what is asked. The contracts of the library that the program calls, laid at this program in plain words. Texts: the reader: a number. Texts: what is read: terms, literals, clauses (pure). Texts: the reader: a term, with its arguments by what reads them. Texts: the reader: arguments. Texts: a number that was written is read as it was (pure). Texts: a term that was written is read as it was (pure). Texts: what is read writes the text itself (pure): numbers. Texts: a term that is read writes the text itself (pure). Texts: literals, read and written (pure). -/
import Derived.Deep.AppendLies
import Derived.Deep.RegionHeld3
import Derived.Lib.AtoiErrMem
import Derived.Lib.Builder
import Derived.Shelf.Strings.SlTrimAscii
import Derived.Shelf.Strings.Trim
import Derived.Test.YtbkedppkdhfpoaaDoorJoined3
namespace Go.Proofs.YtbkedppkdhfpoaaDoor
open Go.RowKit

/-- What a reader has still to read. -/
def IsR (w : World) (b : Nat) (l : List UInt8) : Prop := w.heap[b]? = some (.cells #[.string ⟨l.toArray⟩] 74 (0, 0))
/-- Nothing but the reader is written. -/
structure Rd (b : Nat) (w w' : World) : Prop where
  below : Below b w w'
  size : w.heap.size ≤ w'.heap.size
  block : ∀ k, k < w.heap.size → k ≠ b → w'.heap[k]? = w.heap[k]?
theorem Rd.refl (b : Nat) (w : World) : Rd b w w := ⟨Below.refl _ _, Nat.le_refl _, fun _ _ _ => rfl⟩
theorem Rd.trans {b : Nat} {w w1 w2 : World} (h : Rd b w w1) (h2 : Rd b w1 w2) : Rd b w w2 :=
  ⟨h.below.trans h2.below, Nat.le_trans h.size h2.size, fun k hk hb => by rw [h2.block k (Nat.lt_of_lt_of_le hk h.size) hb, h.block k hk hb]⟩
theorem Rd.of_below {b : Nat} {w w' : World} (hb : b ≤ w.heap.size) (h : Below w.heap.size w w') : Rd b w w' := ⟨h.mono hb, h.size, fun k hk _ => h.block k hk⟩
theorem IsR.lt {w : World} {b : Nat} {l : List UInt8} (h : IsR w b l) : b < w.heap.size := (Array.getElem?_eq_some_iff.1 h).1
theorem IsR.cell {w : World} {b : Nat} {l : List UInt8} (h : IsR w b l) : w.cell? ⟨b, 0, none⟩ = some (.string ⟨l.toArray⟩) := by rw [Lib.cell_of_heap h]; rfl
theorem IsR.below {w w' : World} {b : Nat} {l : List UInt8} (h : IsR w b l) (hb : Below w.heap.size w w') : IsR w' b l := by
  unfold IsR
  rw [hb.block b h.lt]
  exact h
theorem IsR.frozen {w : World} {b : Nat} {l : List UInt8} (h : IsR w b l) : w.frozen? ⟨b, 0, none⟩ = false := by
  unfold IsR at h
  simp [World.frozen?, h]
theorem IsR.set {w : World} {b : Nat} {l : List UInt8} (h : IsR w b l) (m : List UInt8) : IsR (w.setCell ⟨b, 0, none⟩ (.string ⟨m.toArray⟩)) b m := by
  unfold IsR at h ⊢
  simp only [World.setCell]
  rw [Array.getElem?_modify, h]
  simp
set_option maxRecDepth 100000 in
set_option maxHeartbeats 1000000 in
theorem take_any (b : Nat) (l p : List UInt8) (w : World) (h : IsR w b l) :
    Calls Tryd.prog 31 #[.pointer (some ⟨b, 0, none⟩), .string ⟨p.toArray⟩] w fun e w' => e = .returned (.bool (Lib.hasPrefix l p)) ∧ IsR w' b (Lib.trimPrefix l p) ∧ Rd b w w' := by
  have c0 := h.cell
  have hf0 := h.frozen
  have hC := Tryd.strings_CutPrefix ⟨l.toArray⟩ ⟨p.toArray⟩ w
  have e1 : (⟨l.toArray⟩ : ByteArray).data.toList = l := rfl
  have e2 : (⟨p.toArray⟩ : ByteArray).data.toList = p := rfl
  rw [e1, e2] at hC
  have HC := hide hC
  have H := hide h
  clear hC h e1 e2
  go_enter Tryd.func31, Tryd.ntmps31
  go_wp2_with fail
  refine HC.out.mono ?_
  rintro e w1 ⟨rfl, rfl⟩
  go_wp2_with fail
  go_ret
  refine ⟨rfl, ?_, (Below.refl b w1).setCell (p := ⟨b, 0, none⟩) (Nat.le_refl _) _, by simp [World.setCell], fun k _ hb => Below.heap_setCell _ _ _ _ hb⟩
  exact H.out.set _
/-- Reading gives up. -/
def gaveUp : Ending := .panicked [{ v := .iface 71 (.agg #[]), recovered := false }]
set_option maxRecDepth 100000 in
set_option maxHeartbeats 1000000 in
theorem ask_any (b : Nat) (so : Bool) (w : World) :
    Calls Tryd.prog 30 #[.pointer (some ⟨b, 0, none⟩), .bool so] w fun e w' => e = (if so then .returned (.tuple #[]) else gaveUp) ∧ w' = w := by
  cases so with
  | true =>
    go_enter Tryd.func30, Tryd.ntmps30
    go_wp2_with fail
    go_end0
    exact ⟨rfl, rfl⟩
  | false =>
    go_enter Tryd.func30, Tryd.ntmps30
    go_wp2_with fail
    exact ⟨rfl, rfl, rfl⟩
end Go.Proofs.YtbkedppkdhfpoaaDoor

namespace Go.Proofs
open Go.Shelf
def Tryd.lays161_ren : Go.Shelf.Ren := ⟨fun | 161 => 40 | 231 => 47 | 227 => 48 | 233 => 49 | 235 => 50 | 228 => 56 | 197 => 57 | 151 => 58 | 260 => 69 | 152 => 70 | 137 => 79 | 119 => 80 | 224 => 81 | 225 => 82 | 217 => 90 | 266 => 93 | n => n, fun | 9 => 9 | 4 => 4 | 3 => 3 | 5 => 5 | 117 => 93 | 116 => 92 | 0 => 0 | 124 => 96 | 105 => 100 | 21 => 21 | 119 => 128 | 46 => 117 | 139 => 131 | 138 => 130 | n => n, fun | 3 => 3 | 4 => 4 | n => n⟩
theorem Tryd.lays161 : Go.Proofs.Lays.n161 Tryd.prog Tryd.lays161_ren := {
  mixed := by kernel_rfl
  f119 := Tryd.func80.trans (congrArg some (by kernel_rfl))
  f137 := Tryd.func79.trans (congrArg some (by kernel_rfl))
  f151 := Tryd.func58.trans (congrArg some (by kernel_rfl))
  f152 := Tryd.func70.trans (congrArg some (by kernel_rfl))
  f161 := Tryd.func40.trans (congrArg some (by kernel_rfl))
  f197 := Tryd.func57.trans (congrArg some (by kernel_rfl))
  f217 := Tryd.func90.trans (congrArg some (by kernel_rfl))
  f224 := Tryd.func81.trans (congrArg some (by kernel_rfl))
  f225 := Tryd.func82.trans (congrArg some (by kernel_rfl))
  f227 := Tryd.func48.trans (congrArg some (by kernel_rfl))
  f228 := Tryd.func56.trans (congrArg some (by kernel_rfl))
  f231 := Tryd.func47.trans (congrArg some (by kernel_rfl))
  f233 := Tryd.func49.trans (congrArg some (by kernel_rfl))
  f235 := Tryd.func50.trans (congrArg some (by kernel_rfl))
  f260 := Tryd.func69.trans (congrArg some (by kernel_rfl))
  f266 := Tryd.func93.trans (congrArg some (by kernel_rfl))
  t0 := Tryd.underlying0
  a0 := Tryd.isAgg0
  z0 := Tryd.sizeOf0
  v0 := Tryd.zeroValue0
  t3 := Tryd.underlying3
  a3 := Tryd.isAgg3
  z3 := Tryd.sizeOf3
  v3 := Tryd.zeroValue3
  t4 := Tryd.underlying4
  a4 := Tryd.isAgg4
  z4 := Tryd.sizeOf4
  v4 := Tryd.zeroValue4
  t5 := Tryd.underlying5
  a5 := Tryd.isAgg5
  z5 := Tryd.sizeOf5
  v5 := Tryd.zeroValue5
  t9 := Tryd.underlying9
  a9 := Tryd.isAgg9
  z9 := Tryd.sizeOf9
  v9 := Tryd.zeroValue9
  t21 := Tryd.underlying21
  a21 := Tryd.isAgg21
  z21 := Tryd.sizeOf21
  v21 := Tryd.zeroValue21
  t46 := Tryd.underlying117
  a46 := Tryd.isAgg117
  z46 := Tryd.sizeOf117
  v46 := Tryd.zeroValue117
  t105 := Tryd.underlying100
  a105 := Tryd.isAgg100
  z105 := Tryd.sizeOf100
  v105 := Tryd.zeroValue100
  t116 := Tryd.underlying92
  a116 := Tryd.isAgg92
  z116 := Tryd.sizeOf92
  t117 := Tryd.underlying93
  a117 := Tryd.isAgg93
  z117 := Tryd.sizeOf93
  v117 := Tryd.zeroValue93
  t119 := Tryd.underlying128
  a119 := Tryd.isAgg128
  z119 := Tryd.sizeOf128
  t124 := Tryd.underlying96
  a124 := Tryd.isAgg96
  z124 := Tryd.sizeOf96
  v124 := Tryd.zeroValue96
  t138 := Tryd.underlying130
  a138 := Tryd.isAgg130
  z138 := Tryd.sizeOf130
  v138 := Tryd.zeroValue130
  t139 := Tryd.underlying131
  a139 := Tryd.isAgg131
  z139 := Tryd.sizeOf131
  v139 := Tryd.zeroValue131
  g3 := by kernel_rfl
  g4 := by kernel_rfl }
theorem Tryd.strings_TrimLeft_digits (s : ByteArray) (w : World) :
    Calls Tryd.prog 40 #[.string s, .string ⟨#[48, 49, 50, 51, 52, 53, 54, 55, 56, 57]⟩] w fun e w' => e = .returned (.string ⟨(Lib.trimLeftS s.data.toList [48, 49, 50, 51, 52, 53, 54, 55, 56, 57]).toArray⟩) ∧ Go.RowKit.Below w.heap.size w w' :=
  Any.strings_TrimLeft_laid Tryd.lays161 (by kernel_rfl) s ⟨#[48, 49, 50, 51, 52, 53, 54, 55, 56, 57]⟩ w (by decide) (ascii_of_all (by decide))
end Go.Proofs

namespace Go.Proofs.YtbkedppkdhfpoaaDoor
open Go.RowKit

/-- The ten digits. -/
def tens : List UInt8 := [48, 49, 50, 51, 52, 53, 54, 55, 56, 57]
/-- The digits that a text opens with. -/
def digs (l : List UInt8) : List UInt8 := l.takeWhile (tens.contains ·)
/-- What is behind them. -/
def aft (l : List UInt8) : List UInt8 := l.dropWhile (tens.contains ·)
/-- Digits that are a number's. -/
abbrev numOk (d : List UInt8) : Prop := (0 < d.length ∧ d.length ≤ 9) ∧ (d = [48] ∨ d[0]? ≠ some 48)
/-- Their number. -/
def numV (d : List UInt8) : Int := (Lib.atoi d).getD 0
/-- A number that is read, and what is left. -/
def rdNum (l : List UInt8) : Option (Int × List UInt8) := if numOk (digs l) then some (numV (digs l), aft l) else none
theorem digs_aft (l : List UInt8) : digs l ++ aft l = l := List.takeWhile_append_dropWhile
theorem digs_len (l : List UInt8) : (digs l).length + (aft l).length = l.length := by rw [← List.length_append, digs_aft]
theorem digs_cut (l : List UInt8) : (⟨l.toArray⟩ : ByteArray).extract 0 (digs l).length = ⟨(digs l).toArray⟩ := by
  apply ByteArray.ext
  rw [ByteArray.data_extract]
  show l.toArray.extract 0 _ = _
  rw [List.extract_toArray]
  congr 1
  rw [List.extract_eq_take_drop, List.drop_zero, Nat.sub_zero]
  have h : (digs l ++ aft l).take (digs l).length = digs l := List.take_left' rfl
  rw [digs_aft] at h
  exact h
theorem digs_mem {l : List UInt8} {x : UInt8} (h : x ∈ digs l) : tens.contains x = true := by
  have := List.all_takeWhile (l := l) (p := (tens.contains ·))
  exact List.all_eq_true.1 this x h
theorem dec_all (d : List UInt8) (h : ∀ x ∈ d, tens.contains x = true) : ∀ acc, ∃ n, Lib.decFrom acc d = some n := by
  induction d with
  | nil => intro acc; exact ⟨_, rfl⟩
  | cons a t ih =>
    intro acc
    have ha := h a List.mem_cons_self
    have hd : ∃ d, Lib.digitVal a = some d := by
      simp only [tens, List.contains_cons, List.contains_nil, Bool.or_false, Bool.or_eq_true, beq_iff_eq] at ha
      rcases ha with rfl | rfl | rfl | rfl | rfl | rfl | rfl | rfl | rfl | rfl <;> exact ⟨_, rfl⟩
    obtain ⟨d, hd⟩ := hd
    obtain ⟨n, hn⟩ := ih (fun x hx => h x (List.mem_cons_of_mem _ hx)) (acc * 10 + d)
    refine ⟨n, ?_⟩
    rw [Lib.decFrom, hd]
    exact hn
theorem atoi_all (d : List UInt8) (h0 : 0 < d.length) (h : ∀ x ∈ d, tens.contains x = true) : Lib.atoi d = some (numV d) := by
  cases d with
  | nil => cases h0
  | cons a t =>
    have ha := h a List.mem_cons_self
    obtain ⟨n, hn⟩ := dec_all (a :: t) h 0
    have h1 : (a == 45) = false := by
      rw [beq_eq_false_iff_ne]; rintro rfl; exact absurd ha (by decide)
    have h2 : (a == 43) = false := by
      rw [beq_eq_false_iff_ne]; rintro rfl; exact absurd ha (by decide)
    have e : Lib.atoi (a :: t) = some (n : Int) := by
      rw [Lib.atoi, h1, h2, if_neg (by decide), if_neg (by decide), Lib.decNat, if_neg (by simp), hn]
      rfl
    rw [numV, e]
    rfl
theorem ask_yes (b : Nat) (w : World) : Calls Tryd.prog 30 #[.pointer (some ⟨b, 0, none⟩), .bool true] w fun e w' => e = .returned (.tuple #[]) ∧ w' = w := ask_any b true w
theorem ask_no (b : Nat) (w : World) : Calls Tryd.prog 30 #[.pointer (some ⟨b, 0, none⟩), .bool false] w fun e w' => e = .panicked [{ v := .iface 71 (.agg #[]), recovered := false }] ∧ w' = w := ask_any b false w
theorem rd_set {w : World} {b : Nat} (v : Value) : Rd b w (w.setCell ⟨b, 0, none⟩ v) := ⟨(Below.refl b w).setCell (p := ⟨b, 0, none⟩) (Nat.le_refl _) _, by simp [World.setCell], fun k _ hb => Below.heap_setCell _ _ _ _ hb⟩
attribute [local go_sem ↓] Go.wp_at_zero Go.wp_at_succ
set_option maxRecDepth 100000 in
set_option maxHeartbeats 2000000 in
theorem number_any (b : Nat) (l : List UInt8) (hl : l.length ≤ 3000) (w : World) (h : IsR w b l) :
    Calls Tryd.prog 33 #[.pointer (some ⟨b, 0, none⟩)] w fun e w' => Rd b w w' ∧ (match rdNum l with | some (n, r) => e = .returned (.int .i64 n) ∧ IsR w' b r | none => e = gaveUp) := by
  obtain ⟨R, hR⟩ : ∃ R, R = rdNum l := ⟨_, rfl⟩
  rw [← hR]
  have HR := hide hR
  clear hR
  have c0 := h.cell
  have hT := Tryd.strings_TrimLeft_digits ⟨l.toArray⟩ w
  have e1 : Lib.trimLeftS (⟨l.toArray⟩ : ByteArray).data.toList [48, 49, 50, 51, 52, 53, 54, 55, 56, 57] = aft l := rfl
  rw [e1] at hT
  have hln := digs_len l
  have hsub : IntKind.i64.wrap ((l.length : Int) - ((aft l).length : Int)) = ((digs l).length : Int) := by
    have : (l.length : Int) - ((aft l).length : Int) = ((digs l).length : Int) := by omega
    rw [this]
    rw [IntKind.wrap_i64]; omega
  have hcut := digs_cut l
  have hq0 : (0 : Int) ≤ ((digs l).length : Int) := by omega
  have hq1 : ((digs l).length : Int) ≤ (l.length : Int) := by omega
  have HT := hide hT
  have H := hide h
  clear hT e1 h
  go_enter Tryd.func33, Tryd.ntmps33
  go_wp2_with fail
  refine HT.out.mono ?_
  rintro e w1 ⟨rfl, hb1⟩
  have H1 := hide (H.out.below hb1)
  have c1 := H1.out.cell
  have HR1 := hide (Rd.of_below (Nat.le_of_lt H.out.lt) hb1)
  clear hb1 c0
  go_wp2_with fail
  go_region
  have H2 := hide (H1.out.below ((Below.refl _ w1).drew))
  have HR2 := hide (HR1.out.trans (Rd.of_below (Nat.le_of_lt H1.out.lt) ((Below.refl _ w1).drew)))
  have HA1 := hide (ask_yes b)
  have HA0 := hide (ask_no b)
  clear c1
  by_cases hn : 0 < (digs l).length ∧ (digs l).length ≤ 9
  · obtain ⟨hn0, hn9⟩ := hn
    have g0 : (0 : Int) < ((digs l).length : Int) := by omega
    have g9 : ((digs l).length : Int) ≤ 9 := by omega
    obtain ⟨a, t, hd⟩ : ∃ a t, digs l = a :: t := by
      cases h : digs l with
      | nil => rw [h] at hn0; cases hn0
      | cons a t => exact ⟨a, t, rfl⟩
    have hx : (⟨(digs l).toArray⟩ : ByteArray)[0]'(by show 0 < (digs l).toArray.size; simp; omega) = a := by
      show (digs l).toArray[0]'_ = a
      simp [hd]
    have Hd := hide hd
    clear hd
    go_wp2_with fail
    refine (HA1.out _).mono ?_
    rintro e w2 ⟨rfl, rfl⟩
    have hbad : ((digs l == [48]) = false ∧ ((a.toNat : Int) != 48) = false ∧ ¬ numOk (digs l)) ∨ ((digs l == [48]) = true ∧ numOk (digs l)) ∨ ((digs l == [48]) = false ∧ ((a.toNat : Int) != 48) = true ∧ numOk (digs l)) := by
      by_cases h1 : digs l = [48]
      · exact Or.inr (Or.inl ⟨by rw [h1]; rfl, ⟨hn0, hn9⟩, Or.inl h1⟩)
      · have h2 : (digs l == [48]) = false := by rw [beq_eq_false_iff_ne]; exact h1
        by_cases h3 : a = 48
        · refine Or.inl ⟨h2, by rw [h3]; rfl, fun h => ?_⟩
          rcases h.2 with h | h
          · exact h1 h
          · exact h (by rw [Hd.out, h3]; rfl)
        · refine Or.inr (Or.inr ⟨h2, ?_, ⟨hn0, hn9⟩, Or.inr ?_⟩)
          · rw [bne_iff_ne]
            intro h4
            exact h3 (UInt8.toNat_inj.1 (by have : (48 : UInt8).toNat = 48 := rfl; omega))
          · rw [Hd.out]
            intro h4
            exact h3 (by simpa using h4)
    rcases hbad with ⟨hb1, hb2, hb3⟩ | ⟨hb1, hb3⟩ | ⟨hb1, hb2, hb3⟩
    · obtain rfl : R = none := by rw [HR.out, rdNum, if_neg hb3]
      clear hb3
      go_wp2_with fail
      refine (HA0.out _).mono ?_
      rintro e w2 ⟨rfl, rfl⟩
      exact ⟨rfl, HR2.out, rfl⟩
    all_goals (
      obtain rfl : R = some (numV (digs l), aft l) := by rw [HR.out, rdNum, if_pos hb3]
      clear hb3
      have hAt := hide (fun (Y : World) => Tryd.strconv_Atoi ⟨(digs l).toArray⟩ (numV (digs l)) (by show (digs l).toArray.size ≤ 18; simp; omega) (atoi_all _ hn0 (fun x hx => digs_mem hx)) Y)
      have hf0 := H2.out.frozen
      have c2 := H2.out.cell
      go_wp2_with fail
      refine (HA1.out _).mono ?_
      rintro e w2 ⟨rfl, rfl⟩
      go_wp2_with fail
      refine (hAt.out _).mono ?_
      rintro e w3 ⟨rfl, t3, rfl⟩
      go_wp2_with fail
      refine (HA1.out _).mono ?_
      rintro e w4 ⟨rfl, rfl⟩
      go_wp2_with fail
      go_ret
      have q1 := H1.out.set (aft l)
      have q2 : IsR (w1.setCell ⟨b, 0, none⟩ (.string ⟨(aft l).toArray⟩)).drew b (aft l) := q1.below ((Below.refl _ _).drew)
      have q3 := Lib.bytesWorld_below (w1.setCell ⟨b, 0, none⟩ (.string ⟨(aft l).toArray⟩)).drew 5 t3
      exact ⟨((HR1.out.trans (rd_set _)).trans (Rd.of_below (Nat.le_of_lt q1.lt) ((Below.refl _ _).drew))).trans (Rd.of_below (Nat.le_of_lt q2.lt) q3), rfl, q2.below q3⟩)
  · obtain rfl : R = none := by rw [HR.out, rdNum, if_neg]; exact fun h => hn h.1
    by_cases h0 : 0 < (digs l).length
    · have g0 : (0 : Int) < ((digs l).length : Int) := by omega
      have g9 : ¬ ((digs l).length : Int) ≤ 9 := by omega
      clear hn
      go_wp2_with fail
      refine (HA0.out _).mono ?_
      rintro e w2 ⟨rfl, rfl⟩
      exact ⟨rfl, HR2.out, rfl⟩
    · have g0 : ¬ (0 : Int) < ((digs l).length : Int) := by omega
      clear hn
      go_wp2_with fail
      refine (HA0.out _).mono ?_
      rintro e w2 ⟨rfl, rfl⟩
      exact ⟨rfl, HR2.out, rfl⟩
end Go.Proofs.YtbkedppkdhfpoaaDoor

namespace Go.Proofs.YtbkedppkdhfpoaaDoor
open Go.RowKit

/-- The arguments behind the first, k more at most; rd reads one. -/
def rdMore (rd : List UInt8 → Option (T × List UInt8)) : Nat → List T → List UInt8 → Option (List T × List UInt8)
  | 0, ts, l => if Lib.hasPrefix l [44] then none else if Lib.hasPrefix l [41] then some (ts, Lib.trimPrefix l [41]) else none
  | k + 1, ts, l =>
    if Lib.hasPrefix l [44] then (rd (Lib.trimPrefix l [44])).bind fun x => rdMore rd k (ts ++ [x.1]) x.2
    else if Lib.hasPrefix l [41] then some (ts, Lib.trimPrefix l [41]) else none
/-- A term that is read, and what is left. -/
def rdT : Nat → List UInt8 → Option (T × List UInt8)
  | 0, _ => none
  | n + 1, l =>
    if Lib.hasPrefix l [88] then (rdNum (Lib.trimPrefix l [88])).bind fun x => if 0 < x.1 then some (⟨x.1, 0, []⟩, x.2) else none
    else if Lib.hasPrefix l [102] then
      (rdNum (Lib.trimPrefix l [102])).bind fun x =>
        if Lib.hasPrefix x.2 [40] then
          (rdT n (Lib.trimPrefix x.2 [40])).bind fun y => (rdMore (rdT n) 2 [y.1] y.2).bind fun z => some (⟨0, x.1, z.1⟩, z.2)
        else some (⟨0, x.1, []⟩, x.2)
    else none
theorem has_cons {l : List UInt8} {a : UInt8} (h : Lib.hasPrefix l [a] = true) : l = a :: Lib.trimPrefix l [a] := by
  cases l with
  | nil => simp [Lib.hasPrefix] at h
  | cons x r =>
    have e : x = a := by
      simp only [Lib.hasPrefix, List.isPrefixOf] at h
      simpa using (Eq.symm (by simpa using h) : x = a)
    subst e
    rw [Lib.trimPrefix, if_pos h]
    rfl
theorem take_one (a : UInt8) (r : List UInt8) : Lib.hasPrefix (a :: r) [a] = true ∧ Lib.trimPrefix (a :: r) [a] = r := by
  have h : Lib.hasPrefix (a :: r) [a] = true := by simp [Lib.hasPrefix, List.isPrefixOf]
  exact ⟨h, by rw [Lib.trimPrefix, if_pos h]; rfl⟩
theorem take_not {a x : UInt8} (h : x ≠ a) (r : List UInt8) : Lib.hasPrefix (x :: r) [a] = false := by
  simp [Lib.hasPrefix, List.isPrefixOf, Ne.symm h]
theorem rdNum_len {l : List UInt8} {n : Int} {r : List UInt8} (h : rdNum l = some (n, r)) : r.length < l.length := by
  rw [rdNum] at h
  split at h
  · rename_i hn
    obtain ⟨-, rfl⟩ := Prod.mk.inj (Option.some.inj h)
    have := digs_len l
    have := hn.1.1
    omega
  · cases h
theorem rdMore_len {rd : List UInt8 → Option (T × List UInt8)} (hrd : ∀ l t r, rd l = some (t, r) → r.length < l.length) : ∀ (k : Nat) (ts : List T) (l : List UInt8) (us : List T) (r : List UInt8), rdMore rd k ts l = some (us, r) → r.length < l.length := by
  intro k
  induction k with
  | zero =>
    intro ts l us r h
    rw [rdMore] at h
    split at h
    · cases h
    split at h
    · rename_i h2
      obtain ⟨-, rfl⟩ := Prod.mk.inj (Option.some.inj h)
      have e := congrArg List.length (has_cons h2)
      rw [List.length_cons] at e
      omega
    · cases h
  | succ k ih =>
    intro ts l us r h
    rw [rdMore] at h
    split at h
    · rename_i h2
      obtain ⟨⟨t, r1⟩, h3, h4⟩ := Option.bind_eq_some_iff.1 h
      have e := congrArg List.length (has_cons h2)
      rw [List.length_cons] at e
      have h5 := hrd _ _ _ h3
      have h6 := ih _ _ _ _ h4
      have h7 : r.length < r1.length := h6
      omega
    split at h
    · rename_i h2
      obtain ⟨-, rfl⟩ := Prod.mk.inj (Option.some.inj h)
      have e := congrArg List.length (has_cons h2)
      rw [List.length_cons] at e
      omega
    · cases h
theorem rdT_len : ∀ (n : Nat) (l : List UInt8) (t : T) (r : List UInt8), rdT n l = some (t, r) → r.length < l.length := by
  intro n
  induction n with
  | zero => intro l t r h; cases h
  | succ n ih =>
    intro l t r h
    rw [rdT] at h
    split at h
    · rename_i h1
      obtain ⟨⟨v, r1⟩, h2, h3⟩ := Option.bind_eq_some_iff.1 h
      have e := congrArg List.length (has_cons h1)
      rw [List.length_cons] at e
      have h4 := rdNum_len h2
      simp only at h3
      split at h3
      · obtain ⟨-, rfl⟩ := Prod.mk.inj (Option.some.inj h3)
        omega
      · cases h3
    split at h
    · rename_i h1
      obtain ⟨⟨f, r1⟩, h2, h3⟩ := Option.bind_eq_some_iff.1 h
      have e := congrArg List.length (has_cons h1)
      rw [List.length_cons] at e
      have h4 := rdNum_len h2
      simp only at h3
      split at h3
      · rename_i h5
        obtain ⟨⟨u, r2⟩, h6, h7⟩ := Option.bind_eq_some_iff.1 h3
        obtain ⟨⟨us, r3⟩, h8, h9⟩ := Option.bind_eq_some_iff.1 h7
        obtain ⟨-, rfl⟩ := Prod.mk.inj (Option.some.inj h9)
        have e2 := congrArg List.length (has_cons h5)
        rw [List.length_cons] at e2
        have q1 := ih _ _ _ h6
        have q2 := rdMore_len ih _ _ _ _ _ h8
        simp only at q1 q2 e2 ⊢
        omega
      · obtain ⟨-, rfl⟩ := Prod.mk.inj (Option.some.inj h3)
        omega
    · cases h
end Go.Proofs.YtbkedppkdhfpoaaDoor

namespace Go.Proofs.YtbkedppkdhfpoaaDoor
open Go.RowKit

/-- The arguments of a term that are read, and what is left. -/
def rdA (n : Nat) (l : List UInt8) : Option (List T × List UInt8) := (rdT n l).bind fun y => rdMore (rdT n) 2 [y.1] y.2
theorem number_or (b : Nat) (l : List UInt8) (hl : l.length ≤ 3000) (w : World) (h : IsR w b l) :
    Calls Tryd.prog 33 #[.pointer (some ⟨b, 0, none⟩)] w fun e w' => Rd b w w' ∧ ((∃ n r, rdNum l = some (n, r) ∧ e = .returned (.int .i64 n) ∧ IsR w' b r) ∨ (rdNum l = none ∧ e = .panicked [{ v := .iface 71 (.agg #[]), recovered := false }])) := by
  refine (number_any b l hl w h).mono ?_
  rintro e w' ⟨h1, h2⟩
  refine ⟨h1, ?_⟩
  cases hr : rdNum l with
  | none => rw [hr] at h2; exact Or.inr ⟨rfl, h2⟩
  | some x => rw [hr] at h2; exact Or.inl ⟨x.1, x.2, rfl, h2.1, h2.2⟩
/-- What reads arguments. -/
def ReadsA (n b : Nat) (l : List UInt8) (w : World) (e : Ending) (w' : World) : Prop :=
  Rd b w w' ∧ ((∃ ts r a cap, rdA n l = some (ts, r) ∧ e = .returned (.slice a ts.length cap) ∧ InP (fun k => w.heap.size ≤ k) w' ts a ∧ IsR w' b r) ∨ (rdA n l = none ∧ e = .panicked [{ v := .iface 71 (.agg #[]), recovered := false }]))
/-- What reads a term. -/
def ReadsT (n b : Nat) (l : List UInt8) (w : World) (e : Ending) (w' : World) : Prop :=
  Rd b w w' ∧ ((∃ t r a cap, rdT n l = some (t, r) ∧ e = .returned (.agg #[.int .i64 t.v, .int .i64 t.f, .slice a t.args.length cap]) ∧ InP (fun k => w.heap.size ≤ k) w' t.args a ∧ IsR w' b r) ∨ (rdT n l = none ∧ e = .panicked [{ v := .iface 71 (.agg #[]), recovered := false }]))
theorem Three.rd {w w' : World} {k b : Nat} {v0 v1 v2 : Value} (h : Three w k v0 v1 v2) (hb : Rd b w w') (hk : k ≠ b) : Three w' k v0 v1 v2 := h.same (hb.block k h.lt hk)
theorem trim_len {l : List UInt8} (p : List UInt8) : (Lib.trimPrefix l p).length ≤ l.length := by
  rw [Lib.trimPrefix]
  split
  · simp
  · exact Nat.le_refl _
theorem rd_new {w : World} {b : Nat} (hb : b < w.heap.size) (o : Obj) : Rd b w (w.alloc o) := Rd.of_below (Nat.le_of_lt hb) (below1 _ _)
theorem bel3 {B : Nat} {a w : World} (h : Below B a w) {b off : Nat} (hB : B ≤ b) (u0 u1 u2 : Value) : Below B a (set3 w b off u0 u1 u2) :=
  ((h.setCell (p := ⟨b, off, none⟩) hB u0).setCell (p := ⟨b, off + 1, none⟩) hB u1).setCell (p := ⟨b, off + 2, none⟩) hB u2
theorem siz3 {w : World} {b off : Nat} {u0 u1 u2 : Value} : (set3 w b off u0 u1 u2).heap.size = w.heap.size := by simp [set3, World.setCell]
theorem blk3 {w : World} {b off k : Nat} {u0 u1 u2 : Value} (h : k ≠ b) : (set3 w b off u0 u1 u2).heap[k]? = w.heap[k]? := by
  rw [Below.heap_setCell _ _ _ _ h, Below.heap_setCell _ _ _ _ h, Below.heap_setCell _ _ _ _ h]
theorem IsR.set3 {w : World} {b k : Nat} {l : List UInt8} (h : IsR w b l) (hk : b ≠ k) (u0 u1 u2 : Value) : IsR (set3 w k 0 u0 u1 u2) b l := by
  unfold IsR
  rw [blk3 hk]
  exact h
theorem trim_not {l p : List UInt8} (h : ¬ Lib.hasPrefix l p = true) : Lib.trimPrefix l p = l := by rw [Lib.trimPrefix, if_neg h]
theorem rd_set3 {w0 w : World} {b k : Nat} (h : Rd b w0 w) (hb : b < w0.heap.size) (hk : w0.heap.size ≤ k) (u0 u1 u2 : Value) : Rd b w0 (set3 w k 0 u0 u1 u2) :=
  ⟨bel3 h.below (by omega) _ _ _, by rw [siz3]; exact h.size, fun j hj hb => by rw [blk3 (by omega)]; exact h.block j hj hb⟩
attribute [local go_sem ↓] Go.wp_at_zero Go.wp_at_succ
set_option maxRecDepth 100000 in
set_option maxHeartbeats 2000000 in
theorem term_step (n b : Nat) (l : List UInt8) (hl : l.length ≤ 3000) (w : World) (h : IsR w b l)
    (hA : ∀ (l' : List UInt8) (w' : World), l'.length < l.length → IsR w' b l' → Calls Tryd.prog 34 #[.pointer (some ⟨b, 0, none⟩)] w' (ReadsA n b l' w')) :
    Calls Tryd.prog 23 #[.pointer (some ⟨b, 0, none⟩)] w (ReadsT (n + 1) b l w) := by
  obtain ⟨W1, hW1⟩ : ∃ W1, W1 = w.alloc (.cells #[.int .i64 0, .int .i64 0, .slice none 0 0] 38) := ⟨_, rfl⟩
  have hlt := h.lt
  have hz1 : W1.heap.size = w.heap.size + 1 := by rw [hW1]; simp
  have H1 := hide (show IsR W1 b l by rw [hW1]; exact h.below (below1 _ _))
  have HR1 := hide (show Rd b w W1 by rw [hW1]; exact rd_new hlt _)
  have H3 := hide (show Three W1 w.heap.size (.int .i64 0) (.int .i64 0) (.slice none 0 0) by rw [hW1]; exact Three.new _ rfl)
  have HT := hide (fun (p : List UInt8) (l : List UInt8) (Y : World) (h : IsR Y b l) => take_any b l p Y h)
  have HTx := hide (take_any b l [88] W1 H1.out)
  have HN := hide (fun (l : List UInt8) (hl : l.length ≤ 3000) (Y : World) (h : IsR Y b l) => number_or b l hl Y h)
  have HA1 := hide (ask_yes b)
  have HA0 := hide (ask_no b)
  have HA := hide hA
  have HW1 := hide hW1
  have Hz1 := hide hz1
  clear hW1 hA h hz1
  go_enter Tryd.func23, Tryd.ntmps23
  go_upto_region 1 with fail
  rw [← HW1.out]
  go_wp2_with fail
  refine HTx.out.mono ?_
  rintro e w2 ⟨rfl, h2, hr2⟩
  have H2 := hide h2
  have HR2 := hide (HR1.out.trans hr2)
  have H32 := hide (H3.out.rd hr2 (by omega))
  clear h2 hr2
  by_cases hx : Lib.hasPrefix l [88] = true
  · have Hlen := hide (congrArg List.length (has_cons hx))
    go_wp2_with fail
    refine (HN.out _ (Nat.le_trans (trim_len [88]) hl) _ H2.out).mono ?_
    rintro e w3 ⟨hr3, ⟨v, r, hnum, rfl, h3⟩ | ⟨hnum, rfl⟩⟩
    · have HR3 := hide (HR2.out.trans hr3)
      have H33 := hide (H32.out.rd hr3 (by omega))
      have Hx := hide hx
      have Hnum := hide hnum
      clear hr3 hnum
      obtain ⟨q0, q1, q2, f0, f1, f2⟩ := H33.out
      obtain ⟨d0, d1, d2, -, -, -⟩ := H33.out.set (.int .i64 v) (.int .i64 0) (.slice none 0 0)
      by_cases hv : 0 < v
      · go_wp2_with fail
        refine (HA1.out _).mono ?_
        rintro e w4 ⟨rfl, rfl⟩
        go_wp2_with fail
        refine bodyPost_ret (v := .agg #[.int .i64 v, .int .i64 0, .slice none 0 0]) (by simp [results, Tryd.results23, go_sem, d0, d1, d2]) rfl ⟨rd_set3 HR3.out hlt (Nat.le_refl _) _ _ _, Or.inl ⟨⟨v, 0, []⟩, r, none, 0, ?_, rfl, InP_nil, h3.set3 (by omega) _ _ _⟩⟩
        rw [rdT, if_pos Hx.out, Hnum.out]
        show (if 0 < v then _ else _) = _
        rw [if_pos hv]
      · have hvd : decide (0 < v) = false := decide_eq_false hv
        go_wp2_with fail
        refine (HA0.out _).mono ?_
        rintro e w4 ⟨rfl, rfl⟩
        refine ⟨rfl, HR3.out, Or.inr ⟨?_, rfl⟩⟩
        rw [rdT, if_pos Hx.out, Hnum.out]
        show (if 0 < v then _ else _) = _
        rw [if_neg (by omega)]
    · refine ⟨rfl, HR2.out.trans hr3, Or.inr ⟨?_, rfl⟩⟩
      rw [rdT, if_pos hx, hnum]
      rfl
  · have H2' := hide (show IsR w2 b l by have := H2.out; rwa [trim_not hx] at this)
    have HTf := hide (take_any b l [102] w2 H2'.out)
    have hx' : Lib.hasPrefix l [88] = false := by simpa using hx
    have Hx := hide hx
    clear hx
    go_wp2_with fail
    refine HTf.out.mono ?_
    rintro e w3 ⟨rfl, h3, hr3⟩
    have H33 := hide (H32.out.rd hr3 (by omega))
    have HR3 := hide (HR2.out.trans hr3)
    have HI3 := hide h3
    clear h3 hr3 HTf
    by_cases hf : Lib.hasPrefix l [102] = true
    · have Hlen := hide (congrArg List.length (has_cons hf))
      go_wp2_with fail
      refine (HA1.out _).mono ?_
      rintro e w4 ⟨rfl, rfl⟩
      go_wp2_with fail
      refine (HN.out _ (Nat.le_trans (trim_len [102]) hl) _ HI3.out).mono ?_
      rintro e w5 ⟨hr5, ⟨f, r, hnum, rfl, h5⟩ | ⟨hnum, rfl⟩⟩
      · have HR5 := hide (HR3.out.trans hr5)
        have H35 := hide (H33.out.rd hr5 (by omega))
        have HI5 := hide h5
        have Hnum := hide hnum
        clear hr5 h5 hnum
        obtain ⟨W6, hW6⟩ : ∃ W6, W6 = w5.alloc (.cells #[.int .i64 0, .int .i64 f, .slice none 0 0] 38) := ⟨_, rfl⟩
        have HI6 := hide (show IsR W6 b r by rw [hW6]; exact HI5.out.below (below1 _ _))
        have hlt5 := HI5.out.lt
        have hz6 : W6.heap.size = w5.heap.size + 1 := by rw [hW6]; simp
        have HR6 := hide (show Rd b w W6 by rw [hW6]; exact HR5.out.trans (rd_new hlt5 _))
        have hzz := H35.out.lt
        have H36 := hide (show Three W6 w.heap.size (.int .i64 0) (.int .i64 0) (.slice none 0 0) by rw [hW6]; exact H35.out.alloc _)
        have H46 := hide (show Three W6 w5.heap.size (.int .i64 0) (.int .i64 f) (.slice none 0 0) by rw [hW6]; exact Three.new _ rfl)
        have HTo := hide (take_any b r [40] W6 HI6.out)
        have hnl := rdNum_len Hnum.out
        have HW6 := hide hW6
        have Hz6 := hide hz6
        clear hW6 hz6
        go_wp2_with fail
        rw [← HW6.out]
        refine HTo.out.mono ?_
        rintro e w7 ⟨rfl, h7, hr7⟩
        have HI7 := hide h7
        have HR7 := hide (HR6.out.trans hr7)
        have H37 := hide (H36.out.rd hr7 (by omega))
        have H47 := hide (H46.out.rd hr7 (by omega))
        clear h7 hr7
        by_cases ho : Lib.hasPrefix r [40] = true
        · go_wp2_with fail
          refine (HA.out _ w7 (by have := trim_len (l := r) [40]; have := trim_len (l := l) [102]; omega) HI7.out).mono ?_
          rintro e w8 ⟨hr8, ⟨ts, r2, a, cap, hts, rfl, hin, h8⟩ | ⟨hts, rfl⟩⟩
          · have HI8 := hide h8
            have HR8 := hide (HR7.out.trans hr8)
            have H38 := hide (H37.out.rd hr8 (by omega))
            have H48 := hide (H47.out.rd hr8 (by omega))
            have Hin := hide hin
            have Hts := hide hts
            clear h8 hr8 hin hts
            obtain ⟨q0, q1, q2, f0, f1, f2⟩ := H38.out
            obtain ⟨p0, p1, p2, g0, g1, g2⟩ := H48.out
            have hz5 := H47.out.lt
            have hz3 := H37.out.lt
            have hne : ∀ k, k ≠ w5.heap.size → (w8.setCell ⟨w5.heap.size, 2, none⟩ (.slice a ts.length cap)).heap[k]? = w8.heap[k]? := fun k h => Below.heap_setCell _ _ _ _ h
            have H39 := H38.out.same (w' := w8.setCell ⟨w5.heap.size, 2, none⟩ (.slice a ts.length cap)) (hne _ (by omega))
            obtain ⟨d0, d1, d2, -, -, -⟩ := H39.set (.int .i64 0) (.int .i64 f) (.slice a ts.length cap)
            have HI9 : IsR (w8.setCell ⟨w5.heap.size, 2, none⟩ (.slice a ts.length cap)) b r2 := by
              unfold IsR
              rw [hne b (by omega)]
              exact HI8.out
            have HR9 : Rd b w (w8.setCell ⟨w5.heap.size, 2, none⟩ (.slice a ts.length cap)) := ⟨HR8.out.below.setCell (p := ⟨w5.heap.size, 2, none⟩) (Nat.le_of_lt (by show b < w5.heap.size; omega)) _, by simpa [World.setCell] using HR8.out.size, fun k hk hkb => by rw [hne k (by omega)]; exact HR8.out.block k hk hkb⟩
            have Hin9 : InP (fun k => w.heap.size ≤ k) (set3 (w8.setCell ⟨w5.heap.size, 2, none⟩ (.slice a ts.length cap)) w.heap.size 0 (.int .i64 0) (.int .i64 f) (.slice a ts.length cap)) ts a :=
              InP_imp (fun k (hk : w7.heap.size ≤ k) => by omega) (InP_same (fun k (hk : w7.heap.size ≤ k) _ => by rw [blk3 (show k ≠ w.heap.size by omega), hne k (by omega)]) Hin.out)
            have K9 := hide H39
            have J9 := hide HI9
            have L9 := hide HR9
            have M9 := hide Hin9
            clear H39 HI9 HR9 Hin9 hne
            go_wp2_with fail
            refine bodyPost_ret (v := .agg #[.int .i64 0, .int .i64 f, .slice a ts.length cap]) (by simp [results, Tryd.results23, go_sem, d0, d1, d2]) rfl ⟨rd_set3 L9.out hlt (Nat.le_refl _) _ _ _, Or.inl ⟨⟨0, f, ts⟩, r2, a, cap, ?_, rfl, M9.out, J9.out.set3 (by omega) _ _ _⟩⟩
            rw [rdT, if_neg Hx.out, if_pos hf, Hnum.out]
            show (if Lib.hasPrefix r [40] = true then _ else _) = _
            rw [if_pos ho]
            have hts := Hts.out
            rw [rdA] at hts
            obtain ⟨y, hy, hy2⟩ := Option.bind_eq_some_iff.1 hts
            rw [hy]
            show (rdMore (rdT n) 2 [y.1] y.2).bind _ = _
            rw [hy2]
            rfl
          · refine ⟨rfl, HR7.out.trans hr8, Or.inr ⟨?_, rfl⟩⟩
            rw [rdT, if_neg Hx.out, if_pos hf, Hnum.out]
            show (if Lib.hasPrefix r [40] = true then _ else _) = _
            rw [if_pos ho]
            rw [rdA] at hts
            cases hq : rdT n (Lib.trimPrefix r [40]) with
            | none => rfl
            | some y =>
              rw [hq] at hts
              have hts' : rdMore (rdT n) 2 [y.1] y.2 = none := hts
              show (rdMore (rdT n) 2 [y.1] y.2).bind _ = none
              rw [hts']
              rfl
        · have ho' : Lib.hasPrefix r [40] = false := by simpa using ho
          have Ho := hide ho
          clear ho
          obtain ⟨q0, q1, q2, f0, f1, f2⟩ := H37.out
          obtain ⟨p0, p1, p2, g0, g1, g2⟩ := H47.out
          obtain ⟨d0, d1, d2, -, -, -⟩ := H37.out.set (.int .i64 0) (.int .i64 f) (.slice none 0 0)
          have HI7' := hide (show IsR w7 b r by have := HI7.out; rwa [trim_not Ho.out] at this)
          go_wp2_with fail
          refine bodyPost_ret (v := .agg #[.int .i64 0, .int .i64 f, .slice none 0 0]) (by simp [results, Tryd.results23, go_sem, d0, d1, d2]) rfl ⟨rd_set3 HR7.out hlt (Nat.le_refl _) _ _ _, Or.inl ⟨⟨0, f, []⟩, r, none, 0, ?_, rfl, InP_nil, HI7'.out.set3 (by omega) _ _ _⟩⟩
          rw [rdT, if_neg Hx.out, if_pos hf, Hnum.out]
          show (if Lib.hasPrefix r [40] = true then _ else _) = _
          rw [if_neg Ho.out]
      · refine ⟨rfl, HR3.out.trans hr5, Or.inr ⟨?_, rfl⟩⟩
        rw [rdT, if_neg Hx.out, if_pos hf, hnum]
        rfl
    · have hf' : Lib.hasPrefix l [102] = false := by simpa using hf
      have Hf := hide hf
      clear hf
      go_wp2_with fail
      refine (HA0.out _).mono ?_
      rintro e w4 ⟨rfl, rfl⟩
      refine ⟨rfl, HR3.out, Or.inr ⟨?_, rfl⟩⟩
      rw [rdT, if_neg Hx.out, if_neg Hf.out]
end Go.Proofs.YtbkedppkdhfpoaaDoor

namespace Go.Proofs.YtbkedppkdhfpoaaDoor
open Go.RowKit

/-- How many a slice holds. -/
def lenOf : Value → Nat
  | .slice _ n _ => n
  | _ => 0
theorem Outs_one {base : Nat} {w : World} {t : T} {a : Option Addr} {cap n : Nat} (hn : n = w.heap.size) (hb : base ≤ w.heap.size) (h : InP (fun k => base ≤ k) w t.args a) :
    Outs (fun _ => False) base (w.alloc (.cells #[.int .i64 t.v, .int .i64 t.f, .slice a t.args.length cap] 38)) (.slice (some ⟨n, 0, none⟩) 1 1) [t] := by
  subst hn
  refine ⟨[.int .i64 t.v, .int .i64 t.f, .slice a t.args.length cap], ⟨rfl, Or.inr ⟨w.heap.size, 1, #[.int .i64 t.v, .int .i64 t.f, .slice a t.args.length cap], rfl, hb, heap_alloc_new w _, Nat.le_refl _, by unfold maxLen; omega, rfl, rfl⟩⟩, a, cap, [], rfl, ?_, rfl⟩
  refine InP_alloc _ (InP_imp (fun k hk => ?_) (InP_lt h))
  refine ⟨Or.inr hk.1, fun e => ?_⟩
  have e' : w.heap.size = k := Option.some.inj e
  have := hk.2
  omega
theorem infoT : (Tryd.prog.info? 38).map (fun i => (i.zero, i.size, i.bytes)) = some (some (.agg #[.int .i64 0, .int .i64 0, .slice none 0 0]), 3, 40) := by kernel_rfl
theorem Outs_rd {base b : Nat} {w w' : World} {v : Value} {ts : List T} (h : Outs (fun _ => False) base w v ts) (hr : Rd b w w') (hb : b < base) : Outs (fun _ => False) base w' v ts :=
  Outs_same h (fun k hk hlt => hr.block k hlt (by rcases hk with hk | hk; exact hk.elim; omega))
theorem Rd.grown {b : Nat} {w Y wD : World} {own : Option Nat} (h : Rd b w Y) (hgr : Y.grownBy wD own) (ho : ∀ j, own = some j → w.heap.size ≤ j) (hb : b < w.heap.size) : Rd b w wD := by
  have hs := h.size
  refine ⟨h.below.grown hgr (by omega) (fun j hj => by have := ho j hj; omega), Nat.le_trans h.size hgr.size, fun k hk hkb => ?_⟩
  rw [hgr.block k (by omega) (fun e => by have := ho k e.symm; omega)]
  exact h.block k hk hkb
theorem IsR.grown {b : Nat} {Y wD : World} {own : Option Nat} {l : List UInt8} (h : IsR Y b l) (hgr : Y.grownBy wD own) (ho : own ≠ some b) : IsR wD b l := by
  unfold IsR
  rw [hgr.block b h.lt (fun e => ho e.symm)]
  exact h
theorem rdMore_yes {rd : List UInt8 → Option (T × List UInt8)} {k : Nat} {ts : List T} {l : List UInt8} (h : Lib.hasPrefix l [44] = true) (hk : 0 < k) : rdMore rd k ts l = (rd (Lib.trimPrefix l [44])).bind fun x => rdMore rd (k - 1) (ts ++ [x.1]) x.2 := by
  cases k with
  | zero => cases hk
  | succ k => rw [rdMore, if_pos h]; rfl
theorem rdMore_full {rd : List UInt8 → Option (T × List UInt8)} {k : Nat} {ts : List T} {l : List UInt8} (h : Lib.hasPrefix l [44] = true) (hk : k = 0) : rdMore rd k ts l = none := by
  subst hk
  rw [rdMore, if_pos h]
theorem rdMore_no {rd : List UInt8 → Option (T × List UInt8)} {k : Nat} {ts : List T} {l : List UInt8} (h : ¬ Lib.hasPrefix l [44] = true) : rdMore rd k ts l = if Lib.hasPrefix l [41] then some (ts, Lib.trimPrefix l [41]) else none := by
  cases k with
  | zero => rw [rdMore, if_neg h]
  | succ k => rw [rdMore, if_neg h]
attribute [local go_sem ↓] Go.wp_at_zero Go.wp_at_succ
set_option maxRecDepth 100000 in
set_option maxHeartbeats 2000000 in
theorem arguments_step (n b : Nat) (l : List UInt8) (w : World) (h : IsR w b l)
    (hT : ∀ (l' : List UInt8) (w' : World), l'.length ≤ l.length → IsR w' b l' → Calls Tryd.prog 23 #[.pointer (some ⟨b, 0, none⟩)] w' (ReadsT n b l' w')) :
    Calls Tryd.prog 34 #[.pointer (some ⟨b, 0, none⟩)] w (ReadsA n b l w) := by
  have hlt := h.lt
  have HT := hide hT
  have H := hide h
  have HK := hide (fun (p : List UInt8) (l : List UInt8) (Y : World) (h : IsR Y b l) => take_any b l p Y h)
  have HA1 := hide (ask_yes b)
  have HA0 := hide (ask_no b)
  clear hT h
  go_enter Tryd.func34, Tryd.ntmps34
  go_wp2_with fail
  refine (HT.out l w (Nat.le_refl _) H.out).mono ?_
  rintro e w2 ⟨hr2, ⟨t, r, a, cap, ht, rfl, hin, h2⟩ | ⟨ht, rfl⟩⟩
  · obtain ⟨W3, hW3⟩ : ∃ W3, W3 = w2.alloc (.cells #[.int .i64 t.v, .int .i64 t.f, .slice a t.args.length cap] 38) := ⟨_, rfl⟩
    have hlt2 := h2.lt
    have HO3 := hide (show Outs (fun _ => False) w.heap.size W3 (.slice (some ⟨w2.heap.size, 0, none⟩) 1 1) [t] by rw [hW3]; exact Outs_one rfl hr2.size hin)
    have HI3 := hide (show IsR W3 b r by rw [hW3]; exact h2.below (below1 _ _))
    have HR3 := hide (show Rd b w W3 by rw [hW3]; exact hr2.trans (rd_new hlt2 _))
    have Hln := hide (rdT_len _ _ _ _ ht)
    have Hrd := hide (show rdA n l = rdMore (rdT n) 2 [t] r by rw [rdA, ht]; rfl)
    have HW3 := hide hW3
    clear hW3 hin h2 hr2 ht
    obtain ⟨ti, hi, hzz⟩ := Option.map_eq_some_iff.1 infoT
    simp only [Prod.mk.injEq] at hzz
    obtain ⟨hz0, hz1, hz2⟩ := hzz
    go_wp2_with fail
    rw [← HW3.out]
    go_loopw [3] (fun lv wr => ∃ (ts : List T) (l' : List UInt8), Hid (Outs (fun _ => False) w.heap.size wr lv ts) ∧ Hid (IsR wr b l') ∧ Hid (Rd b w wr) ∧ Hid (l'.length < l.length) ∧ ts.length ≤ 3 ∧ Hid (rdA n l = rdMore (rdT n) (3 - ts.length) ts l')) (fun lv _ => 3 - lenOf lv)
    case atStart => exact ⟨[t], r, HO3.out, HI3.out, HR3.out, Hln.out, by simp, Hrd.out⟩
    case round =>
      obtain ⟨ts, l', HO, HI, HR, HL, h3, HM⟩ := hrel
      obtain ⟨la, lc, rfl⟩ : ∃ la lc, u3 = .slice la ts.length lc := by
        obtain ⟨xs, hx, -⟩ := HO.out
        exact own_shape hx
      have HTc := hide (take_any b l' [44] wr HI.out)
      go_wp2_with fail
      refine HTc.out.mono ?_
      rintro e w4 ⟨rfl, h4, hr4⟩
      have HO4 := hide (Outs_rd HO.out hr4 hlt)
      have HI4 := hide h4
      have HR4 := hide (HR.out.trans hr4)
      clear h4 hr4
      by_cases hc : Lib.hasPrefix l' [44] = true
      · by_cases h3' : ts.length < 3
        · have g3 : (ts.length : Int) < 3 := by omega
          have HM' := hide (HM.out.trans (rdMore_yes hc (by omega)))
          go_wp2_with fail
          refine (HA1.out _).mono ?_
          rintro e w5 ⟨rfl, rfl⟩
          go_wp2_with fail
          refine (HT.out _ w5 (by have := trim_len (l := l') [44]; have := HL.out; omega) HI4.out).mono ?_
          rintro e w6 ⟨hr6, ⟨t6, r6, a6, cap6, ht6, rfl, hin6, h6⟩ | ⟨ht6, rfl⟩⟩
          · have HO6 := hide (Outs_rd HO4.out hr6 hlt)
            have HI6 := hide h6
            have HR6 := hide (HR4.out.trans hr6)
            have HL6 := hide (Nat.lt_trans (Nat.lt_of_lt_of_le (rdT_len _ _ _ _ ht6) (trim_len [44])) HL.out)
            have Hin6 := hide hin6
            have Ht6 := hide ht6
            have hz4 := HR4.out.size
            have hz6 := hr6.size
            clear h6 hr6 hin6 ht6
            obtain ⟨xs, hown, hkids⟩ := HO6.out
            have hol := own_lt hown
            obtain ⟨W7, hW7⟩ : ∃ W7, W7 = w6.alloc (.cells #[.int .i64 t6.v, .int .i64 t6.f, .slice a6 t6.args.length cap6] 38) := ⟨_, rfl⟩
            have hb7 : Below w6.heap.size w6 W7 := by rw [hW7]; exact below1 _ _
            have hz7 : W7.heap.size = w6.heap.size + 1 := by rw [hW7]; simp
            have Hown7 := hide (own_same (w' := W7) hown (fun g hg => hb7.block g (hol g hg).2))
            have Hk7 := hide (Kids_mono (w' := W7) (fun k hk hlt => ⟨hk, hb7.block k hlt⟩) hkids)
            have hol4 : ∀ g, (Value.slice la ts.length lc).ownBlock = some g → g < w5.heap.size := by
              obtain ⟨xs4, hown4, -⟩ := HO4.out
              exact fun g hg => (own_lt hown4 g hg).2
            have Hc7 := hide (show InP (fun k => (False ∨ w.heap.size ≤ k) ∧ (Value.slice la ts.length lc).ownBlock ≠ some k) W7 t6.args a6 from InP_below hb7 (InP_imp (fun k (hk : w5.heap.size ≤ k) => ⟨Or.inr (by omega), fun e => by have := hol4 k e; omega⟩) Hin6.out))
            have HI7 := hide (HI6.out.below hb7)
            have HR7 := hide (HR6.out.trans (Rd.of_below (Nat.le_of_lt HI6.out.lt) hb7))
            have Hol := hide hol
            have HW7 := hide hW7
            have Hz7 := hide hz7
            have Hn7 := hide (show ∀ j u, [Value.int .i64 t6.v, .int .i64 t6.f, .slice a6 t6.args.length cap6][j]? = some u → W7.cell? ((⟨w6.heap.size, 0, none⟩ : Addr).add j) = some u by rw [hW7]; exact World.news_of_block (heap_alloc_new w6 _))
            clear hW7 hb7 hz7 hown hkids hol hol4
            go_wp2_with (at_builtin; rw [← HW7.out]; go_must (refine wpList_append_lies _ rfl (.tmp 14) (.tmp 17) 36 rfl w.heap.size 38 ti (.agg #[.int .i64 0, .int .i64 0, .slice none 0 0]) 3 40 Tryd.underlying36 hi hz0 hz1 hz2 rfl (by decide) (.slice la ts.length lc) ts.length xs rfl Hown7.out ⟨w6.heap.size, 0, none⟩ 1 1 [.int .i64 t6.v, .int .i64 t6.f, .slice a6 t6.args.length cap6] rfl rfl Hn7.out (by simp [Value.oneCell']) (by decide) (by unfold maxLen; omega) (by omega) (by have := Hz7.out; omega) _ rfl ?_))
            intro g capg wD hownD hgrD hatD hltD
            have HOD := hide (Outs_step Hk7.out Hc7.out hownD hgrD hatD)
            have HID := hide (HI7.out.grown hgrD (fun e => by have := (Hol.out b e).1; omega))
            have HRD := hide (HR7.out.grown hgrD (fun j hj => (Hol.out j hj).1) hlt)
            clear hownD hgrD hatD hltD
            go_wp2_with fail
            go_roundw
            case rel => exact ⟨ts ++ [t6], r6, HOD.out, HID.out, HRD.out, HL6.out, by simp; omega, by rw [Hid, HM'.out, Ht6.out]; rw [List.length_append, List.length_singleton, ← Nat.sub_sub]; rfl⟩
            case measure => simp [lenOf]; omega
          · refine ⟨rfl, HR4.out.trans hr6, Or.inr ⟨?_, rfl⟩⟩
            rw [HM'.out, ht6]
            rfl
        · have g3 : decide ((ts.length : Int) < 3) = false := decide_eq_false (by omega)
          have HM' := hide (HM.out.trans (rdMore_full hc (by omega)))
          go_wp2_with fail
          refine (HA0.out _).mono ?_
          rintro e w5 ⟨rfl, rfl⟩
          exact ⟨rfl, HR4.out, Or.inr ⟨HM'.out, rfl⟩⟩
      · have hc' : Lib.hasPrefix l' [44] = false := by simpa using hc
        have HM' := hide (HM.out.trans (rdMore_no hc))
        have HI4' := hide (show IsR w4 b l' by have := HI4.out; rwa [trim_not hc] at this)
        clear hc
        have HTs := hide (take_any b l' [41] w4 HI4'.out)
        go_wp2_with fail
        refine HTs.out.mono ?_
        rintro e w5 ⟨rfl, h5, hr5⟩
        have HO5 := hide (Outs_rd HO4.out hr5 hlt)
        have HI5 := hide h5
        have HR5 := hide (HR4.out.trans hr5)
        clear h5 hr5
        by_cases hs : Lib.hasPrefix l' [41] = true
        · have HM2 := hide (HM'.out.trans (if_pos hs))
          go_wp2_with fail
          refine (HA1.out _).mono ?_
          rintro e w6 ⟨rfl, rfl⟩
          go_wp2_with fail
          go_ret
          obtain ⟨a9, cap9, he, hin9⟩ := Outs_end HO5.out
          refine ⟨HR5.out, Or.inl ⟨ts, _, la, lc, HM2.out, rfl, ?_, HI5.out⟩⟩
          cases he
          exact InP_imp (fun k hk => by rcases hk with hk | hk; exact hk.elim; exact hk) hin9
        · have hs' : Lib.hasPrefix l' [41] = false := by simpa using hs
          have HM2 := hide (HM'.out.trans (if_neg hs))
          clear hs
          go_wp2_with fail
          refine (HA0.out _).mono ?_
          rintro e w6 ⟨rfl, rfl⟩
          exact ⟨rfl, HR5.out, Or.inr ⟨HM2.out, rfl⟩⟩
  · refine ⟨rfl, hr2, Or.inr ⟨?_, rfl⟩⟩
    rw [rdA, ht]
    rfl
/-- A term is read as rdT says. -/
theorem rterm_any : ∀ (n b : Nat) (l : List UInt8) (w : World), l.length < n → l.length ≤ 3000 → IsR w b l →
    Calls Tryd.prog 23 #[.pointer (some ⟨b, 0, none⟩)] w (ReadsT n b l w) := by
  intro n
  induction n with
  | zero => intro b l w hn; exact absurd hn (Nat.not_lt_zero _)
  | succ n ih =>
    intro b l w hn hl h
    exact term_step n b l hl w h (fun l' w' hlt h' => arguments_step n b l' w' h' (fun l2 w2 hle h2 => ih b l2 w2 (by omega) (by omega) h2))
end Go.Proofs.YtbkedppkdhfpoaaDoor

namespace Go.Proofs.YtbkedppkdhfpoaaDoor
open Go.RowKit

theorem dec_snoc (l : List UInt8) (b : UInt8) (d : Nat) (hb : Lib.digitVal b = some d) : ∀ (acc m : Nat), Lib.decFrom acc l = some m → Lib.decFrom acc (l ++ [b]) = some (m * 10 + d) := by
  induction l with
  | nil =>
    intro acc m h
    cases h
    rw [List.nil_append, Lib.decFrom, hb]
    rfl
  | cons a t ih =>
    intro acc m h
    rw [Lib.decFrom] at h
    rw [List.cons_append, Lib.decFrom]
    cases ha : Lib.digitVal a with
    | none => rw [ha] at h; cases h
    | some x => rw [ha] at h; exact ih _ _ h
theorem digit_byte (d : Nat) (h : d < 10) : Lib.digitVal (UInt8.ofNat (48 + d)) = some d ∧ tens.contains (UInt8.ofNat (48 + d)) = true := by
  have : d = 0 ∨ d = 1 ∨ d = 2 ∨ d = 3 ∨ d = 4 ∨ d = 5 ∨ d = 6 ∨ d = 7 ∨ d = 8 ∨ d = 9 := by omega
  rcases this with rfl | rfl | rfl | rfl | rfl | rfl | rfl | rfl | rfl | rfl <;> exact ⟨rfl, rfl⟩
/-- What the digits of a number are. -/
theorem digits_all : ∀ (n u : Nat), u ≤ n → Lib.decFrom 0 (Lib.decDigits u) = some u ∧ (∀ x ∈ Lib.decDigits u, tens.contains x = true) ∧ (∃ a t, Lib.decDigits u = a :: t ∧ (0 < u → a ≠ 48)) ∧ (∀ k, u < 10 ^ (k + 1) → (Lib.decDigits u).length ≤ k + 1) := by
  intro n
  induction n with
  | zero =>
    intro u hu
    obtain rfl : u = 0 := by omega
    have e : Lib.decDigits 0 = [48] := by rw [Lib.decDigits, dif_pos (by decide)]; rfl
    rw [e]
    refine ⟨rfl, fun x hx => ?_, ⟨48, [], rfl, fun h => absurd h (by decide)⟩, fun k _ => ?_⟩
    · rw [List.mem_singleton.1 hx]; rfl
    · simp
  | succ n ih =>
    intro u hu
    by_cases h : u < 10
    · have e : Lib.decDigits u = [UInt8.ofNat (48 + u)] := by rw [Lib.decDigits, dif_pos h]
      have hd := digit_byte u h
      rw [e]
      refine ⟨?_, fun x hx => ?_, ⟨_, [], rfl, fun h0 => ?_⟩, fun k _ => ?_⟩
      · rw [Lib.decFrom, hd.1]
        show Lib.decFrom (0 * 10 + u) [] = _
        rw [Lib.decFrom]
        congr 1
        omega
      · rw [List.mem_singleton.1 hx]; exact hd.2
      · intro e48
        rw [e48] at hd
        have h48 : Lib.digitVal 48 = some 0 := rfl
        rw [h48] at hd
        have := Option.some.inj hd.1
        omega
      · simp
    · have e : Lib.decDigits u = Lib.decDigits (u / 10) ++ [UInt8.ofNat (48 + u % 10)] := by rw [Lib.decDigits, dif_neg h]
      obtain ⟨q1, q2, ⟨a, t, q3, q4⟩, q5⟩ := ih (u / 10) (by omega)
      have hd := digit_byte (u % 10) (Nat.mod_lt _ (by decide))
      rw [e]
      refine ⟨?_, fun x hx => ?_, ⟨a, t ++ [UInt8.ofNat (48 + u % 10)], by rw [q3]; rfl, fun _ => q4 (by omega)⟩, fun k hk => ?_⟩
      · rw [dec_snoc _ _ _ hd.1 _ _ q1]
        congr 1
        omega
      · rcases List.mem_append.1 hx with hx | hx
        · exact q2 x hx
        · rw [List.mem_singleton.1 hx]; exact hd.2
      · rw [List.length_append, List.length_singleton]
        cases k with
        | zero => exact absurd hk (by omega)
        | succ k =>
          have := q5 k (by rw [Nat.pow_succ] at hk; omega)
          omega
/-- What may stand behind a number. -/
def NoDig (r : List UInt8) : Prop := ∀ a t, r = a :: t → tens.contains a = false
theorem digs_back (d r : List UInt8) (hd : ∀ x ∈ d, tens.contains x = true) (hr : NoDig r) : digs (d ++ r) = d ∧ aft (d ++ r) = r := by
  induction d with
  | nil =>
    cases r with
    | nil => exact ⟨rfl, rfl⟩
    | cons a t =>
      have ha := hr a t rfl
      constructor
      · show (a :: t).takeWhile (tens.contains ·) = []
        rw [List.takeWhile_cons, ha]
        rfl
      · show (a :: t).dropWhile (tens.contains ·) = a :: t
        rw [List.dropWhile_cons, ha]
        rfl
  | cons a d ih =>
    have ha := hd a List.mem_cons_self
    have hi := ih (fun x hx => hd x (List.mem_cons_of_mem _ hx))
    constructor
    · show (a :: (d ++ r)).takeWhile (tens.contains ·) = a :: d
      rw [List.takeWhile_cons, ha, if_pos rfl]
      congr 1
      exact hi.1
    · show (a :: (d ++ r)).dropWhile (tens.contains ·) = r
      rw [List.dropWhile_cons, ha, if_pos rfl]
      exact hi.2
/-- A number that was written is read. -/
theorem num_back (n : Int) (h0 : 0 ≤ n) (h1 : n < 1000000000) (r : List UInt8) (hr : NoDig r) : rdNum (Lib.itoa n ++ r) = some (n, r) := by
  obtain ⟨u, rfl⟩ := Int.eq_ofNat_of_zero_le h0
  have e : Lib.itoa (u : Int) = Lib.decDigits u := by rw [Lib.itoa, if_neg (by omega)]; rfl
  obtain ⟨q1, q2, ⟨a, t, q3, q4⟩, q5⟩ := digits_all u u (Nat.le_refl _)
  have hl := q5 8 (by omega)
  obtain ⟨d1, d2⟩ := digs_back (Lib.decDigits u) r q2 hr
  have hne : 0 < (Lib.decDigits u).length := by rw [q3]; simp
  have hok : numOk (Lib.decDigits u) := by
    refine ⟨⟨hne, hl⟩, ?_⟩
    by_cases hu : 0 < u
    · right
      rw [q3]
      intro h
      exact q4 hu (Option.some.inj h)
    · left
      obtain rfl : u = 0 := by omega
      rw [Lib.decDigits, dif_pos (by decide)]
      rfl
  have hv : numV (Lib.decDigits u) = (u : Int) := by
    have h2 := atoi_all _ hne q2
    have ha := q2 a (by rw [q3]; exact List.mem_cons_self)
    have g1 : (a == 45) = false := by rw [beq_eq_false_iff_ne]; rintro rfl; exact absurd ha (by decide)
    have g2 : (a == 43) = false := by rw [beq_eq_false_iff_ne]; rintro rfl; exact absurd ha (by decide)
    have h3 : Lib.atoi (Lib.decDigits u) = some (u : Int) := by
      rw [q3] at q1 ⊢
      rw [Lib.atoi, g1, g2, if_neg (by decide), if_neg (by decide), Lib.decNat, if_neg (by simp), q1]
      rfl
    rw [h3] at h2
    exact (Option.some.inj h2).symm
  rw [e, rdNum, d1, d2, if_pos hok, hv]
end Go.Proofs.YtbkedppkdhfpoaaDoor

namespace Go.Proofs.YtbkedppkdhfpoaaDoor
open Go.RowKit

/-- What may stand behind a term. -/
def Fol (r : List UInt8) : Prop := NoDig r ∧ Lib.hasPrefix r [40] = false
theorem fol_cons {a : UInt8} (r : List UInt8) (h1 : tens.contains a = false) (h2 : a ≠ 40) : Fol (a :: r) :=
  ⟨fun x t e => by cases e; exact h1, take_not h2 r⟩
theorem more_back (rd : List UInt8 → Option (T × List UInt8)) (r : List UInt8) : ∀ (ts us : List T) (k : Nat), ts.length ≤ k → (∀ t ∈ ts, ∀ r, Fol r → rd (textT t ++ r) = some (t, r)) → rdMore rd k us (textT.textC ts ++ 41 :: r) = some (us ++ ts, r) := by
  intro ts
  induction ts with
  | nil =>
    intro us k _ _
    have h1 := take_not (a := 44) (x := 41) (by decide) r
    have h2 := take_one 41 r
    show rdMore rd k us (41 :: r) = _
    rw [List.append_nil]
    cases k with
    | zero => rw [rdMore, h1, if_neg (by decide), h2.1, if_pos rfl, h2.2]
    | succ k => rw [rdMore, h1, if_neg (by decide), h2.1, if_pos rfl, h2.2]
  | cons t ts ih =>
    intro us k hk hrd
    cases k with
    | zero => simp at hk
    | succ k =>
      have hf : Fol (textT.textC ts ++ 41 :: r) := by
        cases ts with
        | nil => exact fol_cons r (by decide) (by decide)
        | cons s ts => exact fol_cons _ (by decide) (by decide)
      have e : textT.textC (t :: ts) ++ 41 :: r = 44 :: (textT t ++ (textT.textC ts ++ 41 :: r)) := by
        rw [textT.textC]; simp
      have h2 := take_one 44 (textT t ++ (textT.textC ts ++ 41 :: r))
      rw [e, rdMore, h2.1, if_pos rfl, h2.2, hrd t List.mem_cons_self _ hf]
      show rdMore rd k (us ++ [t]) (textT.textC ts ++ 41 :: r) = _
      rw [ih (us ++ [t]) k (by simpa using hk) (fun s hs => hrd s (List.mem_cons_of_mem _ hs))]
      simp
/-- A term that was written is read. -/
theorem term_back {ar : List Int} (har : ar.length ≤ 12) (h3 : ∀ s, okP ar s → s.args.length ≤ 3) : ∀ (n : Nat) (t : T), t.sz ≤ n → okP ar t → ∀ r, Fol r → rdT n (textT t ++ r) = some (t, r) := by
  intro n
  induction n with
  | zero => intro t h; have := t.sz_pos; omega
  | succ n ih =>
    intro t hn ht r hr
    have hnum := ok_nums har ht
    by_cases hv : t.v ≠ 0
    · obtain ⟨hf, ha⟩ := ok_var ht hv
      have e : textT t ++ r = 88 :: (Lib.itoa t.v ++ r) := by
        rw [textT_eq, nameL, if_pos hv, ha]; simp
      have h2 := take_one 88 (Lib.itoa t.v ++ r)
      rw [e, rdT, h2.1, if_pos rfl, h2.2, num_back t.v hnum.1.1 (by omega) r hr.1]
      show (if 0 < t.v then _ else _) = _
      rw [if_pos (by omega)]
      cases t
      cases hf
      cases ha
      rfl
    · have hv0 : t.v = 0 := by omega
      cases ha : t.args with
      | nil =>
        have e : textT t ++ r = 102 :: (Lib.itoa t.f ++ r) := by
          rw [textT_eq, nameL, if_neg hv, ha]; simp
        have h1 := take_not (a := 88) (x := 102) (by decide) (Lib.itoa t.f ++ r)
        have h2 := take_one 102 (Lib.itoa t.f ++ r)
        rw [e, rdT, h1, if_neg (by decide), h2.1, if_pos rfl, h2.2, num_back t.f hnum.2.1 (by omega) r hr.1]
        show (if Lib.hasPrefix r [40] = true then _ else _) = _
        rw [hr.2, if_neg (by decide)]
        cases t
        cases hv0
        cases ha
        rfl
      | cons s ss =>
        have hsz := T.sz_eq t
        have hl3 := h3 t ht
        rw [ha] at hsz hl3
        rw [T.szL_cons] at hsz
        have e : textT t ++ r = 102 :: (Lib.itoa t.f ++ (40 :: (textT s ++ (textT.textC ss ++ 41 :: r)))) := by
          rw [textT_eq, nameL, if_neg hv, ha]; simp [textT.textL]
        have h1 := take_not (a := 88) (x := 102) (by decide) (Lib.itoa t.f ++ (40 :: (textT s ++ (textT.textC ss ++ 41 :: r))))
        have h2 := take_one 102 (Lib.itoa t.f ++ (40 :: (textT s ++ (textT.textC ss ++ 41 :: r))))
        have h4 := take_one 40 (textT s ++ (textT.textC ss ++ 41 :: r))
        have hf : Fol (textT.textC ss ++ 41 :: r) := by
          cases ss with
          | nil => exact fol_cons r (by decide) (by decide)
          | cons x ss => exact fol_cons _ (by decide) (by decide)
        have hs : okP ar s := okArg ht (by rw [ha]; exact List.mem_cons_self)
        rw [e, rdT, h1, if_neg (by decide), h2.1, if_pos rfl, h2.2, num_back t.f hnum.2.1 (by omega) _ (fun x y hxy => by cases hxy; decide)]
        simp only [Option.bind_some]
        rw [if_pos h4.1, h4.2, ih s (by omega) hs _ hf]
        show (rdMore (rdT n) 2 [s] (textT.textC ss ++ 41 :: r)).bind _ = _
        rw [more_back (rdT n) r ss [s] 2 (by simp at hl3; omega) (fun x hx r' hr' => ih x (by have := T.szL_mem hx; omega) (okArg ht (by rw [ha]; exact List.mem_cons_of_mem _ hx)) r' hr')]
        show some (T.mk 0 t.f ([s] ++ ss), r) = _
        cases t
        cases hv0
        cases ha
        rfl
end Go.Proofs.YtbkedppkdhfpoaaDoor

namespace Go.Proofs.YtbkedppkdhfpoaaDoor
open Go.RowKit

theorem byte_digit {b : UInt8} (h : tens.contains b = true) : ∃ d, d < 10 ∧ Lib.digitVal b = some d ∧ b = UInt8.ofNat (48 + d) := by
  simp only [tens, List.contains_cons, List.contains_nil, Bool.or_false, Bool.or_eq_true, beq_iff_eq] at h
  rcases h with rfl | rfl | rfl | rfl | rfl | rfl | rfl | rfl | rfl | rfl
  · exact ⟨0, by decide, rfl, rfl⟩
  · exact ⟨1, by decide, rfl, rfl⟩
  · exact ⟨2, by decide, rfl, rfl⟩
  · exact ⟨3, by decide, rfl, rfl⟩
  · exact ⟨4, by decide, rfl, rfl⟩
  · exact ⟨5, by decide, rfl, rfl⟩
  · exact ⟨6, by decide, rfl, rfl⟩
  · exact ⟨7, by decide, rfl, rfl⟩
  · exact ⟨8, by decide, rfl, rfl⟩
  · exact ⟨9, by decide, rfl, rfl⟩
theorem digits_back : ∀ (n : Nat) (d : List UInt8) (m : Nat), d.length ≤ n → d ≠ [] → (∀ x ∈ d, tens.contains x = true) → (d.length = 1 ∨ d[0]? ≠ some 48) → Lib.decFrom 0 d = some m → Lib.decDigits m = d := by
  intro n
  induction n with
  | zero => intro d m h h0; exact absurd (List.eq_nil_of_length_eq_zero (by omega)) h0
  | succ n ih =>
    intro d m hn h0 hd h1 hm
    rcases List.eq_nil_or_concat d with rfl | ⟨l, b, rfl⟩
    · exact absurd rfl h0
    rw [List.concat_eq_append] at hn hd h1 hm ⊢
    obtain ⟨v, hv, hv1, hv2⟩ := byte_digit (hd b (by simp))
    by_cases hl : l = []
    · subst hl
      rw [List.nil_append, Lib.decFrom, hv1] at hm
      have hm' : Lib.decFrom (0 * 10 + v) [] = some m := hm
      rw [Lib.decFrom] at hm'
      have := Option.some.inj hm'
      obtain rfl : m = v := by omega
      rw [Lib.decDigits, dif_pos hv, ← hv2]
      rfl
    · have hdl : ∀ x ∈ l, tens.contains x = true := fun x hx => hd x (List.mem_append_left _ hx)
      obtain ⟨m', hm'⟩ := dec_all l hdl 0
      have e := dec_snoc l b v hv1 0 m' hm'
      rw [hm] at e
      have em := Option.some.inj e
      obtain ⟨a, t, rfl⟩ : ∃ a t, l = a :: t := by
        cases l with
        | nil => exact absurd rfl hl
        | cons a t => exact ⟨a, t, rfl⟩
      have ha : a ≠ 48 := by
        rcases h1 with h1 | h1
        · simp at h1
        · intro e; exact h1 (by rw [e]; rfl)
      have hi := ih (a :: t) m' (by simp at hn ⊢; omega) hl hdl (Or.inr (fun e => ha (Option.some.inj e))) hm'
      have hpos : m' ≠ 0 := by
        rintro rfl
        rw [Lib.decDigits, dif_pos (by decide)] at hi
        have hh := (List.cons.inj hi).1
        exact ha hh.symm
      rw [Lib.decDigits, dif_neg (by omega), show m / 10 = m' by omega, show m % 10 = v by omega, hi, ← hv2]
/-- A number that is read writes the text itself. -/
theorem num_forth {l r : List UInt8} {v : Int} (h : rdNum l = some (v, r)) : l = Lib.itoa v ++ r ∧ 0 ≤ v ∧ NoDig r := by
  rw [rdNum] at h
  split at h
  · rename_i hn
    obtain ⟨e1, e2⟩ := Prod.mk.inj (Option.some.inj h)
    have hall : ∀ x ∈ digs l, tens.contains x = true := fun x hx => digs_mem hx
    have hne : digs l ≠ [] := by intro e; have := hn.1.1; rw [e] at this; cases this
    obtain ⟨m, hm⟩ := dec_all (digs l) hall 0
    have hb := digits_back _ (digs l) m (Nat.le_refl _) hne hall (by
      rcases hn.2 with h | h
      · left; rw [h]; rfl
      · exact Or.inr h) hm
    have hnb := num_back (m : Int) (by omega)
    have hv : v = (m : Int) := by
      rw [← e1]
      have h2 := atoi_all _ hn.1.1 hall
      obtain ⟨a, t, hat⟩ : ∃ a t, digs l = a :: t := by
        cases hd : digs l with
        | nil => exact absurd hd hne
        | cons a t => exact ⟨a, t, rfl⟩
      have ha := hall a (by rw [hat]; exact List.mem_cons_self)
      have g1 : (a == 45) = false := by rw [beq_eq_false_iff_ne]; rintro rfl; exact absurd ha (by decide)
      have g2 : (a == 43) = false := by rw [beq_eq_false_iff_ne]; rintro rfl; exact absurd ha (by decide)
      have h3 : Lib.atoi (digs l) = some (m : Int) := by
        rw [hat] at hm ⊢
        rw [Lib.atoi, g1, g2, if_neg (by decide), if_neg (by decide), Lib.decNat, if_neg (by simp), hm]
        rfl
      rw [h3] at h2
      exact (Option.some.inj h2).symm
    have ei : Lib.itoa v = digs l := by rw [hv, Lib.itoa, if_neg (by omega)]; exact hb
    refine ⟨by rw [ei, ← e2, digs_aft], by omega, fun a t e => ?_⟩
    rw [← e2] at e
    have := List.head?_dropWhile_not (tens.contains ·) l
    rw [show l.dropWhile (tens.contains ·) = aft l from rfl, e] at this
    simpa using this
  · cases h
end Go.Proofs.YtbkedppkdhfpoaaDoor

namespace Go.Proofs.YtbkedppkdhfpoaaDoor
open Go.RowKit

theorem more_forth (rd : List UInt8 → Option (T × List UInt8)) (hrd : ∀ l t r, rd l = some (t, r) → l = textT t ++ r) : ∀ (k : Nat) (us : List T) (l : List UInt8) (ts : List T) (r : List UInt8), rdMore rd k us l = some (ts, r) → ∃ vs, ts = us ++ vs ∧ vs.length ≤ k ∧ l = textT.textC vs ++ 41 :: r := by
  intro k
  induction k with
  | zero =>
    intro us l ts r h
    rw [rdMore] at h
    split at h
    · cases h
    split at h
    · rename_i h2
      obtain ⟨rfl, rfl⟩ := Prod.mk.inj (Option.some.inj h)
      exact ⟨[], by simp, Nat.le_refl _, has_cons h2⟩
    · cases h
  | succ k ih =>
    intro us l ts r h
    rw [rdMore] at h
    split at h
    · rename_i h2
      obtain ⟨⟨t, r1⟩, h3, h4⟩ := Option.bind_eq_some_iff.1 h
      obtain ⟨vs, e1, e2, e3⟩ := ih _ _ _ _ h4
      have e4 := hrd _ _ _ h3
      have e3' : r1 = textT.textC vs ++ 41 :: r := e3
      refine ⟨t :: vs, by rw [e1]; simp, by simp; omega, ?_⟩
      rw [has_cons h2, e4, e3', textT.textC]
      simp
    split at h
    · rename_i h2
      obtain ⟨rfl, rfl⟩ := Prod.mk.inj (Option.some.inj h)
      exact ⟨[], by simp, Nat.zero_le _, has_cons h2⟩
    · cases h
/-- A term that is read writes the text itself. -/
theorem term_forth : ∀ (n : Nat) (l : List UInt8) (t : T) (r : List UInt8), rdT n l = some (t, r) → l = textT t ++ r := by
  intro n
  induction n with
  | zero => intro l t r h; cases h
  | succ n ih =>
    intro l t r h
    rw [rdT] at h
    split at h
    · rename_i h1
      obtain ⟨⟨v, r1⟩, h2, h3⟩ := Option.bind_eq_some_iff.1 h
      simp only at h3
      split at h3
      · rename_i hv
        obtain ⟨rfl, rfl⟩ := Prod.mk.inj (Option.some.inj h3)
        have e := (num_forth h2).1
        rw [has_cons h1, e, textT_eq, nameL, if_pos (by show v ≠ 0; omega)]
        simp
      · cases h3
    split at h
    · rename_i h1
      obtain ⟨⟨f, r1⟩, h2, h3⟩ := Option.bind_eq_some_iff.1 h
      have e := (num_forth h2).1
      simp only at h3
      split at h3
      · rename_i h5
        obtain ⟨⟨u, r2⟩, h6, h7⟩ := Option.bind_eq_some_iff.1 h3
        obtain ⟨⟨us, r3⟩, h8, h9⟩ := Option.bind_eq_some_iff.1 h7
        obtain ⟨rfl, rfl⟩ := Prod.mk.inj (Option.some.inj h9)
        have e6 := ih _ _ _ h6
        obtain ⟨vs, e7, -, e8⟩ := more_forth (rdT n) ih _ _ _ _ _ h8
        have e7' : us = u :: vs := e7
        have e8' : r2 = textT.textC vs ++ 41 :: r3 := e8
        have et : textT ⟨0, f, u :: vs⟩ = 102 :: (Lib.itoa f ++ 40 :: (textT u ++ textT.textC vs ++ [41])) := by
          rw [textT_eq, nameL, if_neg (by simp)]
          simp [textT.textL]
        show l = textT ⟨0, f, us⟩ ++ r3
        rw [e7', et, has_cons h1, e, has_cons h5, e6, e8']
        simp
      · obtain ⟨rfl, rfl⟩ := Prod.mk.inj (Option.some.inj h3)
        rw [has_cons h1, e, textT_eq, nameL, if_neg (by simp)]
        simp
    · cases h
end Go.Proofs.YtbkedppkdhfpoaaDoor

namespace Go.Proofs.YtbkedppkdhfpoaaDoor
open Go.RowKit

/-- A literal that is read, and what is left. -/
def rdLit (n : Nat) (l : List UInt8) : Option (Lit × List UInt8) := (rdT n l).bind fun x =>
  if Lib.hasPrefix x.2 [32, 61, 32] then (rdT n (Lib.trimPrefix x.2 [32, 61, 32])).bind fun y => some ((true, x.1, y.1), y.2)
  else if Lib.hasPrefix x.2 [32, 33, 61, 32] then (rdT n (Lib.trimPrefix x.2 [32, 33, 61, 32])).bind fun y => some ((false, x.1, y.1), y.2)
  else none
/-- The literals behind the first; k is fuel. -/
def rdMoreL (n : Nat) : Nat → List Lit → List UInt8 → Option (List Lit × List UInt8)
  | 0, _, _ => none
  | k + 1, c, l => if Lib.hasPrefix l [32, 124, 32] then (rdLit n (Lib.trimPrefix l [32, 124, 32])).bind fun x => rdMoreL n k (c ++ [x.1]) x.2 else some (c, l)
/-- A clause that is read, and what is left. -/
def rdCl (n : Nat) (l : List UInt8) : Option (List Lit × List UInt8) :=
  if Lib.hasPrefix l [36, 102, 97, 108, 115, 101] then some ([], Lib.trimPrefix l [36, 102, 97, 108, 115, 101])
  else (rdLit n l).bind fun x => rdMoreL n n [x.1] x.2
theorem has_app {l p : List UInt8} (h : Lib.hasPrefix l p = true) : l = p ++ Lib.trimPrefix l p := by
  rw [Lib.trimPrefix, if_pos h]
  obtain ⟨t, rfl⟩ := List.isPrefixOf_iff_prefix.1 h
  rw [List.drop_left' rfl]
theorem take_app (p r : List UInt8) : Lib.hasPrefix (p ++ r) p = true ∧ Lib.trimPrefix (p ++ r) p = r := by
  have h : Lib.hasPrefix (p ++ r) p = true := List.isPrefixOf_iff_prefix.2 (List.prefix_append p r)
  exact ⟨h, by rw [Lib.trimPrefix, if_pos h, List.drop_left' rfl]⟩
/-- A literal that is read writes the text itself. -/
theorem lit_forth (n : Nat) (l : List UInt8) (x : Lit) (r : List UInt8) (h : rdLit n l = some (x, r)) : l = litL x ++ r := by
  obtain ⟨⟨t, r1⟩, h1, h2⟩ := Option.bind_eq_some_iff.1 h
  have e1 := term_forth _ _ _ _ h1
  simp only at h2
  split at h2
  · rename_i h3
    obtain ⟨⟨u, r2⟩, h4, h5⟩ := Option.bind_eq_some_iff.1 h2
    obtain ⟨rfl, rfl⟩ := Prod.mk.inj (Option.some.inj h5)
    have e2 := term_forth _ _ _ _ h4
    rw [e1, has_app h3, e2]
    simp [litL, signL]
  split at h2
  · rename_i h3
    obtain ⟨⟨u, r2⟩, h4, h5⟩ := Option.bind_eq_some_iff.1 h2
    obtain ⟨rfl, rfl⟩ := Prod.mk.inj (Option.some.inj h5)
    have e2 := term_forth _ _ _ _ h4
    rw [e1, has_app h3, e2]
    simp [litL, signL]
  · cases h2
/-- A literal that was written is read. -/
theorem lit_back {ar : List Int} (har : ar.length ≤ 12) (h3 : ∀ s, okP ar s → s.args.length ≤ 3) (n : Nat) (x : Lit) (h1 : x.2.1.sz ≤ n) (h2 : x.2.2.sz ≤ n) (o1 : okP ar x.2.1) (o2 : okP ar x.2.2) (r : List UInt8) (hr : Fol r) : rdLit n (litL x ++ r) = some (x, r) := by
  obtain ⟨yes, s, t⟩ := x
  cases yes with
  | true =>
    have e : litL (true, s, t) ++ r = textT s ++ ([32, 61, 32] ++ (textT t ++ r)) := by simp [litL, signL]
    have hf : Fol ([32, 61, 32] ++ (textT t ++ r)) := fol_cons _ (by decide) (by decide)
    have hk := take_app [32, 61, 32] (textT t ++ r)
    rw [e, rdLit, term_back har h3 n s h1 o1 _ hf]
    simp only [Option.bind_some]
    rw [if_pos hk.1, hk.2, term_back har h3 n t h2 o2 _ hr]
    rfl
  | false =>
    have e : litL (false, s, t) ++ r = textT s ++ ([32, 33, 61, 32] ++ (textT t ++ r)) := by simp [litL, signL]
    have hf : Fol ([32, 33, 61, 32] ++ (textT t ++ r)) := fol_cons _ (by decide) (by decide)
    have hk := take_app [32, 33, 61, 32] (textT t ++ r)
    have hn : ¬ Lib.hasPrefix ([32, 33, 61, 32] ++ (textT t ++ r)) [32, 61, 32] = true := by simp [Lib.hasPrefix, List.isPrefixOf]
    rw [e, rdLit, term_back har h3 n s h1 o1 _ hf]
    simp only [Option.bind_some]
    rw [if_neg hn, if_pos hk.1, hk.2, term_back har h3 n t h2 o2 _ hr]
    rfl
end Go.Proofs.YtbkedppkdhfpoaaDoor
