/- The order of terms, by the document's table: the same. No word of the program's memory here. -/
import Derived.Test.YthlcghimjfgedaaGt
namespace Go.Proofs.Ythlcghimjfgedaa

/-- A variable that is right has no arguments and no function. -/
theorem ok_var {ar : List Int} {t : T} (h : okP ar t) (hv : t.v ≠ 0) : t.f = 0 ∧ t.args = [] := by
  have h1 := (okP_iff.1 h).1
  rw [partErr_var hv, varErr] at h1
  split at h1
  · cases h1
  · split at h1
    · cases h1
    · rename_i h2
      constructor
      · omega
      · exact List.length_eq_zero_iff.1 (by omega)
theorem gt_var {s t : T} (hs : s.v = 0) (ht : t.v ≠ 0) : gt s t = standsT t.v s := by
  rw [gt_eq, if_neg (by simp [hs]), if_pos ht]
theorem gt_ofvar {s t : T} (hs : s.v ≠ 0) : gt s t = false := by rw [gt_eq, if_pos hs]

/-- Greater than a variable, or that variable: it stands there. -/
theorem gt_stands {ar : List Int} {a t : T} (ha : okP ar a) (ht : okP ar t) (hv : t.v ≠ 0) : (gt a t || sameT a t) = standsT t.v a := by
  obtain ⟨f1, f2⟩ := ok_var ht hv
  by_cases h : a.v = 0
  · have h1 : sameT a t = false := by
      rw [sameT_eq]
      have : ¬ a.v = t.v := by omega
      simp [this]
    rw [gt_var h hv, h1, Bool.or_false]
  · obtain ⟨g1, g2⟩ := ok_var ha h
    rw [gt_ofvar h, Bool.false_or, sameT_eq, standsT_eq, f1, f2, g1, g2]
    have h1 : sameT.sameL [] [] = true := rfl
    have h2 : standsT.standsL t.v [] = false := rfl
    rw [h1, h2, Bool.or_false]
    by_cases h3 : a.v = t.v <;> simp [h3]
theorem standsL_any (v : Int) (ts : List T) : standsT.standsL v ts = ts.any (standsT v) := by
  induction ts with
  | nil => rfl
  | cons t ts ih => rw [standsL_cons, List.any_cons, ih]

/-- What the document's table says of two parts, by what it says of lesser ones. -/
def refBody (s t : T) : Bool :=
  (decide (s.v = 0) && s.args.any (fun a => gt a t || sameT a t)) ||
    ((decide (s.v = 0) && decide (t.v = 0) && decide (t.f ≤ s.f) && t.args.all (fun c => gt s c)) && (decide (t.f < s.f) || (decide (s.f = t.f) && firstN gt s.args t.args)))

theorem gt_ref {ar : List Int} {s t : T} (hs : okP ar s) (ht : okP ar t) : gt s t = refBody s t := by
  rw [refBody]
  by_cases h1 : s.v = 0
  · by_cases h2 : t.v = 0
    · rw [gt_eq, if_neg (by simp [h1]), if_neg (by simp [h2]), decide_eq_true h1, decide_eq_true h2, Bool.true_and, Bool.true_and, Bool.true_and]
      have e1 : s.args.any (fun a => sameT a t || gt a t) = s.args.any (fun a => gt a t || sameT a t) := any_congr' (fun a _ => Bool.or_comm _ _)
      have e2 : t.args.any (fun c => !gt s c) = !t.args.all (fun c => gt s c) := by
        rw [List.all_eq_not_any_not, Bool.not_not]
      rw [e1, e2]
      cases s.args.any (fun a => gt a t || sameT a t) with
      | true => simp
      | false =>
        by_cases h3 : s.f < t.f
        · have h4 : ¬ t.f ≤ s.f := by omega
          simp [h3, h4]
        · have h4 : t.f ≤ s.f := by omega
          cases t.args.all (fun c => gt s c) with
          | false => simp [h3]
          | true =>
            by_cases h5 : t.f < s.f
            · simp [h3, h4, h5]
            · have h6 : s.f = t.f := by omega
              simp [h6]
    · rw [gt_var h1 h2, decide_eq_true h1, decide_eq_false h2, Bool.true_and, Bool.true_and, Bool.false_and, Bool.false_and, Bool.false_and, Bool.or_false, standsT_eq, standsL_any]
      have h3 : (s.v == t.v) = false := by
        rw [h1]; simp; omega
      rw [h3, Bool.false_or]
      exact any_congr' (fun a ha => (gt_stands (okL_mem.1 (okP_iff.1 hs).2 a ha) ht h2).symm)
  · rw [gt_ofvar h1, decide_eq_false h1]; simp

end Go.Proofs.Ythlcghimjfgedaa
