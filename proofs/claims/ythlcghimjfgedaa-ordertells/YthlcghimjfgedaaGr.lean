/- The program's order of two parts, each two asked once. -/
import Derived.Test.YthlcghimjfgedaaAsk2
import Derived.BigQuiet
import Derived.Test.YthlcghimjfgedaaRefAt
namespace Go.Proofs.Ythlcghimjfgedaa
open Go.RowKit

/-- What one asking makes of the table. -/
theorem memo_step {b : TB} (hok : b.Ok) {n i j : Nat} {s t : T} {W w4 wf : World} (hi : i < b.R) (hj : j < b.C) (hs : b.PS[i]? = some s) (ht : b.PT[j]? = some t) (hn : s.sz + t.sz = n + 1) (hg : GS b n (W.setCell ⟨b.rb i, j, none⟩ (.int .i8 2)) w4)
    (hwf : wf = if gt s t then w4.setCell ⟨b.rb i, j, none⟩ (.int .i8 1) else w4) : Step b (n + 1) W wf := by
  intro M h1 h2
  have hne : ∀ i' j' s' t', b.PS[i']? = some s' → b.PT[j']? = some t' → s'.sz + t'.sz ≤ n → ¬ (i' = i ∧ j' = j) := fun i' j' s' t' hs' ht' hz he => by
    obtain ⟨rfl, rfl⟩ := he
    rw [hs] at hs'; rw [ht] at ht'
    obtain rfl : s = s' := by simpa using hs'
    obtain rfl : t = t' := by simpa using ht'
    omega
  have hc1 : Corr b (fun i' j' => if i' = i ∧ j' = j then 2 else M i' j') n := fun i' j' s' t' hs' ht' hz => by
    simp only [if_neg (hne i' j' s' t' hs' ht' hz)]
    exact h2 i' j' s' t' hs' ht' (by omega)
  obtain ⟨M2, g1, g2, g3⟩ := hg.st _ (h1.set hok hi hj 2) hc1
  have hij : M2 i j = 2 := by
    have := g3 i j s t hs ht (by omega)
    simpa using this
  have hfin : ∀ (M3 : Nat → Nat → Int), (∀ i' j', ¬ (i' = i ∧ j' = j) → M3 i' j' = M2 i' j') → M3 i j = (if gt s t then 1 else 2) → Corr b M3 (n + 1) ∧ ∀ i' j' s' t', b.PS[i']? = some s' → b.PT[j']? = some t' → n + 1 < s'.sz + t'.sz → M3 i' j' = M i' j' := by
    intro M3 hM hv
    constructor
    · intro i' j' s' t' hs' ht' hz
      by_cases he : i' = i ∧ j' = j
      · obtain ⟨rfl, rfl⟩ := he
        rw [hs] at hs'; rw [ht] at ht'
        obtain rfl : s = s' := by simpa using hs'
        obtain rfl : t = t' := by simpa using ht'
        exact Or.inr hv
      · rw [hM i' j' he]
        rcases Nat.lt_or_ge n (s'.sz + t'.sz) with h3 | h3
        · have h4 := g3 i' j' s' t' hs' ht' h3
          simp only [if_neg he] at h4
          rw [h4]; exact h2 i' j' s' t' hs' ht' hz
        · exact g2 i' j' s' t' hs' ht' h3
    · intro i' j' s' t' hs' ht' hz
      have he : ¬ (i' = i ∧ j' = j) := fun he => by
        obtain ⟨rfl, rfl⟩ := he
        rw [hs] at hs'; rw [ht] at ht'
        obtain rfl : s = s' := by simpa using hs'
        obtain rfl : t = t' := by simpa using ht'
        omega
      have h4 := g3 i' j' s' t' hs' ht' (by omega)
      simp only [if_neg he] at h4
      rw [hM i' j' he, h4]
  rcases Bool.eq_false_or_eq_true (gt s t) with hgt | hgt
  · rw [hgt] at hwf
    simp only [if_true] at hwf
    subst hwf
    obtain ⟨f1, f2⟩ := hfin (fun i' j' => if i' = i ∧ j' = j then 1 else M2 i' j') (fun i' j' he => by simp only [if_neg he]) (by simp [hgt])
    exact ⟨_, g1.set hok hi hj 1, f1, f2⟩
  · rw [hgt] at hwf
    simp only [Bool.false_eq_true, if_false] at hwf
    subst hwf
    obtain ⟨f1, f2⟩ := hfin M2 (fun _ _ _ => rfl) (by rw [hij, hgt]; rfl)
    exact ⟨_, g1, f1, f2⟩

set_option maxRecDepth 100000 in
set_option maxHeartbeats 2000000 in
theorem grUp (b : TB) (hok : b.Ok) : ∀ n, GrUp b n := by
  intro n
  induction n with
  | zero => intro s i t j sa sc spa spc ta tc tpa tpc w hn; have := s.sz_pos; omega
  | succ n ih =>
    intro s i t j sa sc spa spc ta tc tpa tpc w hn hs ht htab
    rcases Nat.lt_or_ge n (s.sz + t.sz) with hlt | hlt
    · have hn1 : s.sz + t.sz = n + 1 := by omega
      rw [hn1] at htab ⊢
      have hi : i < b.R := by
        rw [hok.hR]
        rcases Nat.lt_or_ge i b.PS.length with h | h
        · exact h
        · have := hs.num; rw [List.getElem?_eq_none h] at this; cases this
      have hj : j < b.C := by
        rw [hok.hC]
        rcases Nat.lt_or_ge j b.PT.length with h | h
        · exact h
        · have := ht.num; rw [List.getElem?_eq_none h] at this; cases this
      obtain ⟨M, hM, hC⟩ := htab
      have hr1 := hok.r1
      have hc1 := hok.c1
      have cK := hM.rows i hi
      have cE := hM.ent i j hi hj
      have fE := hM.fr i j hi
      have lK := hM.ltK
      have lR := hM.lt i hi
      have hiI : (i : Int) < b.R := by omega
      have hjI : (j : Int) < b.C := by omega
      have hi0 : (0 : Int) ≤ i := by omega
      have hj0 : (0 : Int) ≤ j := by omega
      by_cases h0 : M i j = 0
      · rw [h0] at cE
        go_enter Try.func99, Try.ntmps99
        go_wp2_with fail
        go_quiet (fail)
        go_wp2_with fail
        obtain ⟨W, hW⟩ : ∃ W, W = ((w.alloc (.cells #[.int .i64 s.v, .int .i64 s.f, .slice sa s.args.length sc, .int .i64 (i : Int), .slice spa s.args.length spc] 135)).alloc (.cells #[.int .i64 t.v, .int .i64 t.f, .slice ta t.args.length tc, .int .i64 (j : Int), .slice tpa t.args.length tpc] 135)).drewN nq := ⟨_, rfl⟩
        have hbW : Below w.heap.size w W := by rw [hW]; exact below_drewN (below2 _ _ _) _
        rw [← hW]
        have HW : Hid (Tab b W M) := hM.below hbW
        have hcorr : Corr b (fun i' j' => if i' = i ∧ j' = j then 2 else M i' j') n := fun i' j' s' t' hs' ht' hz => by
          have hne : ¬ (i' = i ∧ j' = j) := fun he => by
            obtain ⟨rfl, rfl⟩ := he
            have e1 := hs.num
            have e2 := ht.num
            rw [hs'] at e1; rw [ht'] at e2
            have e3 : s' = s := by simpa using e1
            have e4 : t' = t := by simpa using e2
            rw [e3, e4] at hz; omega
          simp only [if_neg hne]
          exact hC i' j' s' t' hs' ht' (by omega)
        have hkW : KT b w (W.setCell ⟨b.rb i, j, none⟩ (.int .i8 2)) := (KT.of_below hbW).set hi _ _
        refine (ask_any b n ih s i t j sa sc spa spc ta tc tpa tpc (W.setCell ⟨b.rb i, j, none⟩ (.int .i8 2)) (by omega) (hs.kt hkW) (ht.kt hkW) ⟨_, HW.out.set hok hi hj 2, hcorr⟩).mono ?_
        rintro e w4 ⟨rfl, hg4⟩
        obtain ⟨M2, g1, g2, g3⟩ := hg4.st _ (HW.out.set hok hi hj 2) hcorr
        have hij : M2 i j = 2 := by
          have := g3 i j s t hs.num ht.num (by omega)
          simpa using this
        have c4 := g1.ent i j hi hj
        rw [hij] at c4
        have f4 := g1.fr i j hi
        have Hgs := hide (fun (wf : World) (hwf : wf = if gt s t then w4.setCell ⟨b.rb i, j, none⟩ (.int .i8 1) else w4) (hkf : KT b w4 wf) => (show GS b (n + 1) w wf from
          ⟨(hkW.trans hg4.kt).trans hkf, (Step.of_below hbW).trans (memo_step hok hi hj hs.num ht.num hn1 hg4 hwf)⟩))
        clear hcorr hkW hg4 g1 g2 g3 HW hW hM hC hbW cK cE fE
        rcases Bool.eq_false_or_eq_true (gt s t) with hgt | hgt
        · rw [hgt]
          have Hgt := hide hgt
          clear hgt
          go_wp2_with fail
          go_ret
          exact ⟨ret_bool Hgt.out.symm, Hgs.out _ (by rw [Hgt.out]; rfl) ((KT.refl _ _).set hi _ _)⟩
        · rw [hgt]
          have Hgt := hide hgt
          clear hgt
          go_wp2_with fail
          go_ret
          exact ⟨ret_bool Hgt.out.symm, Hgs.out _ (by rw [Hgt.out]; rfl) (KT.refl _ _)⟩
      · have hv : M i j = (if gt s t then 1 else 2) := (hC i j s t hs.num ht.num (by omega)).resolve_left h0
        rw [hv] at cE
        have Hb := hide (fun nq => GS.of_below (b := b) (n := n + 1) (below_drewN (below2 w (.cells #[.int .i64 s.v, .int .i64 s.f, .slice sa s.args.length sc, .int .i64 (i : Int), .slice spa s.args.length spc] 135) (.cells #[.int .i64 t.v, .int .i64 t.f, .slice ta t.args.length tc, .int .i64 (j : Int), .slice tpa t.args.length tpc] 135)) nq))
        clear hM hC hv h0
        rcases Bool.eq_false_or_eq_true (gt s t) with hgt | hgt
        · rw [hgt] at cE ⊢
          simp only [if_true] at cE
          clear hgt
          go_enter Try.func99, Try.ntmps99
          go_wp2_with fail
          go_quiet (fail)
          go_wp2_with fail
          go_ret
          exact ⟨rfl, Hb.out _⟩
        · rw [hgt] at cE ⊢
          simp only [Bool.false_eq_true, if_false] at cE
          clear hgt
          go_enter Try.func99, Try.ntmps99
          go_wp2_with fail
          go_quiet (fail)
          go_wp2_with fail
          go_ret
          exact ⟨rfl, Hb.out _⟩
    · refine (ih s i t j sa sc spa spc ta tc tpa tpc w hlt hs ht htab).mono ?_
      rintro e w' ⟨h1, h2⟩
      exact ⟨h1, h2⟩

end Go.Proofs.Ythlcghimjfgedaa
