/- The program's Match: what it answers. The program's Unify. Parts and the heads that stand for them. Joining two parts: it ends; what is joined is the same; nothing is joined that need not be. Measuring a part: it ends, and tells how great what it has become is. -/
import Derived.Deep.AppendLies
import Derived.Test.YtbkedppkdhfpoabGreatJoined7
namespace Go.Proofs.YtbkedppkdhfpoabGreat
open Go.RowKit Go.Maps
set_option maxRecDepth 100000 in
set_option maxHeartbeats 400000 in
theorem subCheck_any (ar : List Int) (ga : Option Addr) (gcap : Nat) (t : T) (a : Option Addr) (cap : Nat) (u : T) (a2 : Option Addr) (cap2 : Nat) (w : World) (hg : Ints w ar ga) (hin : InL w t.args a) (hin2 : InL w u.args a2) :
    Calls Tryz.prog 258 #[.agg #[.slice ga ar.length gcap], .agg #[.int .i64 t.v, .int .i64 t.f, .slice a t.args.length cap], .agg #[.int .i64 u.v, .int .i64 u.f, .slice a2 u.args.length cap2]] w fun e w' =>
      e = .returned (.int .i64 (allErr ar [t, u])) ∧ Below w.heap.size w w' := by
  have H1 := hide (fun o1 o2 o3 => Check_any ar ga gcap t a cap (((w.alloc o1).alloc o2).alloc o3) (Ints_alloc o3 (Ints_alloc o2 (Ints_alloc o1 hg))) (InP_alloc o3 (InP_alloc o2 (InP_alloc o1 hin))))
  have Hp := hide (allErr_pair ar t u)
  go_enter Tryz.func258, Tryz.ntmps258
  go_wp2_with fail
  refine (H1.out _ _ _).mono ?_
  rintro e w1 ⟨rfl, hb1⟩
  have hz1 : w.heap.size + 3 ≤ w1.heap.size := by have := hb1.size; simp at this; omega
  have hbw : Below w.heap.size w w1 := (((below1 _ _).alloc (by simp) _).alloc (by simp; omega) _).trans (hb1.mono (by simp; omega))
  have cg : w1.cell? ⟨w.heap.size, 0, none⟩ = some (.slice ga ar.length gcap) := by
    rw [hb1.cell (p := ⟨w.heap.size, 0, none⟩) (by simp; omega), cell_alloc_lt (by simp; omega), cell_alloc_lt (by simp), cell_new _ rfl]; rfl
  have h3u : Three w1 (w.heap.size + 1 + 1) (.int .i64 u.v) (.int .i64 u.f) (.slice a2 u.args.length cap2) := (Three.new _ (by simp)).below hb1
  obtain ⟨d0, d1, d2, _, _, _⟩ := h3u
  have H2 := hide (Check_any ar ga gcap u a2 cap2 w1 (Ints_below hbw hg) (InP_below hbw hin2))
  clear hb1
  by_cases h : allErr ar [t] = 0
  · have He : Hid (allErr ar [t, u] = allErr ar [u]) := by show _ = _; rw [Hp.out, if_pos h]
    rw [h]
    clear h
    go_wp2_with fail
    refine H2.out.mono ?_
    rintro e w2 ⟨rfl, hb2⟩
    go_wp2_with fail
    go_ret
    exact ⟨ret_int He.out.symm, hbw.trans (hb2.mono (by omega))⟩
  · have hb : (allErr ar [t] != 0) = true := by simpa using h
    have He : Hid (allErr ar [t, u] = allErr ar [t]) := by show _ = _; rw [Hp.out, if_neg h]
    clear h
    go_wp2_with fail
    go_ret
    exact ⟨ret_int He.out.symm, hbw⟩
end Go.Proofs.YtbkedppkdhfpoabGreat

namespace Go.Proofs.YtbkedppkdhfpoabGreat
open Go.RowKit Go.Maps
theorem AX.begun (w1 : World) : AX (fun k => w1.heap.size + 1 + 1 ≤ k) (w1.heap.size + 1 + 1) (w1.heap.size + 1) w1.heap.size ((w1.alloc (.map #[] 0)).alloc (.cells #[.slice none 0 0, .map (some w1.heap.size)] 298)) (.slice none 0 0) ([], []) := by
  have hz : (w1.alloc (.map #[] 0)).heap.size = w1.heap.size + 1 := World.size_alloc _ _
  refine ⟨cell_new 0 hz.symm, cell_new 1 hz.symm, ⟨[], ⟨rfl, Or.inl ⟨rfl, rfl⟩⟩, rfl⟩, ?_, fun k => ?_, by omega, by omega, by omega⟩
  · exact ((MapAt.made w1).below (below1 _ _)).congr (fun k => rfl)
  · rw [← hz]; simp
def UniOut (w w' : World) (r : List (Int × T) × Bool × Int) (e : Ending) : Prop :=
  ∃ la lc, e = .returned (.tuple #[.slice la r.1.length lc, .bool r.2.1, .int .i64 r.2.2]) ∧ Binds (fun k => w.heap.size ≤ k) w' r.1 la ∧ Below w.heap.size w w'
theorem UniOut.no {w w' : World} {x : Bool} {e : Int} (hb : Below w.heap.size w w') : UniOut w w' ([], x, e) (.returned (.tuple #[.slice none 0 0, .bool x, .int .i64 e])) := ⟨none, 0, rfl, trivial, hb⟩
set_option maxRecDepth 100000 in
set_option maxHeartbeats 1000000 in
theorem Unify_any (ar : List Int) (ga : Option Addr) (gcap : Nat) (s : T) (sa : Option Addr) (sc : Nat) (t : T) (ta : Option Addr) (tc : Nat) (w : World) (hg : Ints w ar ga) (hin : InL w s.args sa) (hin2 : InL w t.args ta) (N : Nat) (r : List (Int × T) × Bool × Int) (hr : unifyF N s t = some r) (hok : allErr ar [s, t] = 0) :
    Calls Tryz.prog 225 #[.agg #[.slice ga ar.length gcap], .agg #[.int .i64 s.v, .int .i64 s.f, .slice sa s.args.length sc], .agg #[.int .i64 t.v, .int .i64 t.f, .slice ta t.args.length tc]] w fun e w' => UniOut w w' r e := by
  obtain ⟨k1, k2, k3, k4⟩ := ok_two hok
  have hmm := @run_makeMap Tryz.prog
  have H1 := hide (fun o1 o2 o3 => subCheck_any ar ga gcap s sa sc t ta tc (((w.alloc o1).alloc o2).alloc o3) (Ints_alloc o3 (Ints_alloc o2 (Ints_alloc o1 hg))) (InP_alloc o3 (InP_alloc o2 (InP_alloc o1 hin))) (InP_alloc o3 (InP_alloc o2 (InP_alloc o1 hin2))))
  rw [hok] at H1
  have Hin := hide hin
  have Hin2 := hide hin2
  have K := hide (And.intro k1 (And.intro k2 (And.intro k3 k4)))
  have Hr := hide (unifyF_some hr)
  clear hg hin hin2 hr hok k1 k2 k3 k4
  go_enter Tryz.func225, Tryz.ntmps225
  go_wp2_with fail
  refine (H1.out _ _ _).mono ?_
  rintro e w1 ⟨rfl, hb1⟩
  have hz1 : w.heap.size + 3 ≤ w1.heap.size := by have := hb1.size; simp at this; omega
  have hbw : Below w.heap.size w w1 := (((below1 _ _).alloc (by simp) _).alloc (by simp; omega) _).trans (hb1.mono (by simp; omega))
  have h3s : Three w1 (w.heap.size + 1) (.int .i64 s.v) (.int .i64 s.f) (.slice sa s.args.length sc) := ((Three.new _ (by simp)).alloc _).below hb1
  have h3t : Three w1 (w.heap.size + 1 + 1) (.int .i64 t.v) (.int .i64 t.f) (.slice ta t.args.length tc) := (Three.new _ (by simp)).below hb1
  have hA0 := AX.begun w1
  obtain ⟨WU, hWU⟩ : ∃ WU, WU = (w1.alloc (.map #[] 0)).alloc (.cells #[.slice none 0 0, .map (some w1.heap.size)] 298) := ⟨_, rfl⟩
  rw [← hWU] at hA0
  have hzU : WU.heap.size = w1.heap.size + 1 + 1 := by rw [hWU, World.size_alloc, World.size_alloc]
  have hbU : Below w1.heap.size w1 WU := by rw [hWU]; exact below2 _ _ _
  obtain ⟨c0, c1, c2, _, _, _⟩ := (h3s.alloc (.map #[] 0)).alloc (.cells #[.slice none 0 0, .map (some w1.heap.size)] 298)
  have hinS : InP (fun k => k < w1.heap.size) WU s.args sa := InP_imp (fun k h => by have h : True ∧ k < w.heap.size := h; omega) (InP_below (hbw.trans (hbU.mono (by omega))) (InP_lt Hin.out))
  have hinT : InP (fun k => k < w1.heap.size) WU t.args ta := InP_imp (fun k h => by have h : True ∧ k < w.heap.size := h; omega) (InP_below (hbw.trans (hbU.mono (by omega))) (InP_lt Hin2.out))
  have H2 := hide (add_any ar (w1.heap.size + 1 + 1) w1.heap.size (w1.heap.size + 1) w1.heap.size (by omega) (Nat.le_refl _) (s.sz + 1) s sa sc ([], []) (.slice none 0 0) (fun k => w1.heap.size + 1 + 1 ≤ k) WU (by omega) K.out.2.1 (by have := K.out.1; simp; omega) (by have := K.out.1; simp; omega) (by omega) (fun k h => h) (fun k h => by omega) hA0 hinS)
  have H3T := hide (h3t.below hbU)
  have HinT := hide hinT
  have HA0 := hide hA0
  have HbU := hide hbU
  have Hbw := hide hbw
  have HzU := hide hzU
  have HWU := hide hWU
  clear h3s h3t hA0 hbU hbw hzU hinS hinT hb1
  go_wp2_with fail
  rw [← HWU.out]
  refine H2.out.mono ?_
  rintro e wA ⟨lA, rfl, hAX, hAF⟩
  clear H2 H1 hmm c0 c1 c2
  have hbA : Below w1.heap.size WU wA := hAF.below (by have := HzU.out; omega) (by omega) (Nat.le_refl _) (fun g hg => by cases hg)
  have hsA := (add_size _).1 s ([], []) (Nat.le_refl _)
  have hkA := (add_keys (ar := ar) _).1 s ([], []) (Nat.le_refl _) K.out.2.1 ⟨List.nodup_nil, fun x hx => by cases hx⟩
  obtain ⟨c0, c1, c2, _, _, _⟩ := H3T.out.same (hbA.block _ (by omega))
  have hzA := hAF.size
  obtain ⟨iA, hiA⟩ : ∃ i, i = (addT s ([], [])).1 := ⟨_, rfl⟩
  obtain ⟨SA, hSA⟩ : ∃ S, S = (addT s ([], [])).2 := ⟨_, rfl⟩
  have Hr2 := Hr.out
  rw [← hiA] at Hr2 ⊢
  rw [← hSA] at hsA hkA hAX Hr2
  have hsA : SA.1.length ≤ 0 + s.sz ∧ SA.2.length ≤ 0 + s.sz := hsA
  have HkA := hide hkA
  have H2 := hide (add_any ar (w1.heap.size + 1 + 1) w1.heap.size (w1.heap.size + 1) w1.heap.size (by omega) (Nat.le_refl _) (t.sz + 1) t ta tc SA lA (fun k => w1.heap.size + 1 + 1 ≤ k) wA (by omega) K.out.2.2.2 (by have := K.out; omega) (by have := K.out; omega) (by have := HzU.out; omega) (fun k h => h) (fun k h => by have := HzU.out; omega) hAX (InP_same (fun k hk _ => hbA.block k hk) HinT.out))
  have HAX := hide hAX
  have HbA := hide hbA
  have Hr3 := hide Hr2
  clear hAX hAF hbA hkA hiA hSA Hr2 Hr
  go_wp2_with fail
  refine H2.out.mono ?_
  rintro e wB ⟨lB, rfl, hBX, hBF⟩
  clear H2 c0 c1 c2
  have hbB : Below w1.heap.size wA wB := hBF.below (by have := HzU.out; omega) (by omega) (Nat.le_refl _) (fun g hg => by have := (HAX.out.outs.row g hg).1; omega)
  have hsB := (add_size _).1 t SA (Nat.le_refl _)
  have hkB := (add_keys (ar := ar) _).1 t SA (Nat.le_refl _) K.out.2.2.2 HkA.out
  have hzB := hBF.size
  obtain ⟨iB, hiB⟩ : ∃ i, i = (addT t SA).1 := ⟨_, rfl⟩
  obtain ⟨SB, hSB⟩ : ∃ S, S = (addT t SA).2 := ⟨_, rfl⟩
  have Hr2 := Hr3.out
  rw [← hiB] at Hr2 ⊢
  rw [← hSB] at hsB hkB hBX Hr2
  obtain ⟨ok, P2, hj, hrest⟩ := Hr2
  have hlen : SB.1.length ≤ 1000 ∧ SB.2.length ≤ 1000 := by have := K.out; omega
  have hPB : 0 < SB.1.length := by obtain ⟨_, x, _, _, h, _⟩ := joinF_some hj; have := headF_lt h; omega
  obtain ⟨b, c, _, hbb, hU⟩ := OutsU_end (base := w1.heap.size + 1 + 1) hBX.outs hBX.list hBX.ub hBX.fru hPB (by omega)
  have HJ := hide (show Calls Tryz.prog 260 _ wB fun e w' => e = .returned (.bool ok) ∧ UAt (fun k => w1.heap.size + 1 + 1 ≤ k ∧ k ≠ b) w' (w1.heap.size + 1) b c P2 ∧ wB.grownBy w' (some b) from join_any _ _ b c N SB.1 iA iB (ok, P2) wB hU hj)
  have Hbb := hide hbb
  have HBX := hide hBX
  have HkB := hide hkB
  have Hrest := hide hrest
  have HB3 := hide (Hbw.out.trans ((HbU.out.trans (HbA.out.trans hbB)).mono (by omega)))
  clear hBX hBF hbB hkB hiB hSB Hr3 hj hrest hU hbb hPB hsA hsB HkA HAX
  go_wp2_with fail
  refine HJ.out.mono ?_
  rintro e wC ⟨rfl, hUC, hgC⟩
  have HBC := hide (HB3.out.grown hgC (by have := HzU.out; omega) (fun k hk => by cases hk; have := Hbb.out; omega))
  have hzC := hgC.size
  have HUC := hide hUC
  have HgC := hide hgC
  clear HJ hUC hgC
  cases ok with
  | false =>
    have Hr4 : Hid (r = ([], false, 0)) := by
      rcases Hrest.out with ⟨_, h⟩ | ⟨h, _⟩
      · exact h
      · cases h
    clear Hrest
    go_wp2_with fail
    go_ret3
    rw [Hr4.out]
    exact UniOut.no HBC.out
  | true =>
    obtain ⟨m, P3, hm, hrest⟩ : ∃ m P3, measF N P2 iA = some (m, P3) ∧ _ := by
      rcases Hrest.out with ⟨h, _⟩ | ⟨_, h⟩
      · cases h
      · exact h
    have HM := hide (show Calls Tryz.prog 261 _ wC fun e w' => e = .returned (.int .i64 m) ∧ UAt (fun k => w1.heap.size + 1 + 1 ≤ k ∧ k ≠ b) w' (w1.heap.size + 1) b c P3 ∧ Upon b wC w' from meas_any _ _ b c N P2 iA (m, P3) wC HUC.out hm)
    have Hrest2 := hide hrest
    clear hm hrest Hrest
    go_wp2_with fail
    refine HM.out.mono ?_
    rintro e wD ⟨rfl, hUD, hupD⟩
    have HBD := hide (HBC.out.trans (hupD.below (by have := Hbb.out; omega)))
    have hzD : wD.heap.size = wC.heap.size := hupD.size
    have HUD := hide hUD
    have HupD := hide hupD
    have HzD := hide hzD
    clear HM hUD hupD hzD
    by_cases e1 : m = -1
    · have Hr4 : Hid (r = ([], false, 0)) := by
        rcases Hrest2.out with ⟨_, h⟩ | ⟨h, _⟩ | ⟨h, _⟩
        · exact h
        · exact absurd e1 h
        · exact absurd e1 h
      subst e1
      clear Hrest2
      go_wp2_with fail
      go_ret3
      rw [Hr4.out]
      exact UniOut.no HBD.out
    · have f1 : (m == -1) = false := by simpa using e1
      by_cases e2 : 120 < m
      · have Hr4 : Hid (r = ([], false, 2)) := by
          rcases Hrest2.out with ⟨h, _⟩ | ⟨_, _, h⟩ | ⟨_, h, _⟩
          · exact absurd h e1
          · exact h
          · exact absurd e2 (by omega)
        clear e1 Hrest2
        go_wp2_with fail
        go_ret3
        rw [Hr4.out]
        exact UniOut.no HBD.out
      · obtain ⟨bs, hbs, hrr⟩ : ∃ bs, outF P3 N (fun v => (lookN SB.2 v).getD 0) ((SB.2.map Prod.fst).mergeSort (fun x y => decide (x ≤ y))) = some bs ∧ r = (bs, true, 0) := by
          rcases Hrest2.out with ⟨h, _⟩ | ⟨_, h, _⟩ | ⟨_, _, h⟩
          · exact absurd h e1
          · exact absurd h e2
          · exact h
        have hul : w1.heap.size + 1 < wB.heap.size := by have := HzU.out; omega
        have hmc : wD.cell? ⟨w1.heap.size + 1, 1, none⟩ = some (.map (some w1.heap.size)) := by
          rw [HupD.out.cell (by have := Hbb.out; omega), World.cell?_of_block (w := wB) (a := ⟨w1.heap.size + 1, 1, none⟩) (HgC.out.block (w1.heap.size + 1) hul (fun e => by have h9 := Hbb.out; have h8 : w1.heap.size + 1 = b := (by simpa using e); omega))]
          exact HBX.out.map
        have hMD : MapAt wD w1.heap.size SB.2.length (fun v => (lookN SB.2 v).map (fun n : Nat => Value.int .i64 (n : Int))) := HBX.out.mp.same (by
          rw [HupD.out.block _ (by have := Hbb.out; omega), HgC.out.block _ (by omega) (fun e => by have := Hbb.out; cases e; omega)])
        have H4 := hide (bindU_any _ _ b c P3 N w1.heap.size SB.2.length _ (SB.2.map Prod.fst) (fun v => (lookN SB.2 v).getD 0) bs wD HUD.out hmc hMD (by omega) HkB.out.1 (fun x => by rw [lookN_isSome]; cases lookN SB.2 x <;> rfl) (fun x hx => by
          have h1 := HkB.out.2 x hx
          rw [lookN_isSome] at hx
          refine ⟨?_, h1.1, by omega⟩
          cases hl : lookN SB.2 x with
          | none => rw [hl] at hx; cases hx
          | some n => rfl) (by rw [List.length_map]; omega) hbs)
        have Hrr := hide hrr
        clear e1 hbs hrr hmc hMD Hrest2 HBX
        go_wp2_with fail
        refine H4.out.mono ?_
        rintro e wE ⟨a3, cap3, rfl, hin3, hb3⟩
        have Hb3 := hide (HBD.out.trans (hb3.mono HBD.out.size))
        have Hin3 := hide (Binds_imp (q := fun k => w.heap.size ≤ k) (fun k hk => Nat.le_trans HBD.out.size hk) hin3)
        clear hb3 hin3
        go_wp2_with fail
        go_ret3
        rw [Hrr.out]
        exact ⟨a3, cap3, rfl, Hin3.out, Hb3.out⟩
end Go.Proofs.YtbkedppkdhfpoabGreat

namespace Go.Proofs.YtbkedppkdhfpoabGreat
def isHd (P : List Pt) (k : Nat) : Bool := match P[k]? with
  | none => false
  | some p => p.like == k
def heads (P : List Pt) : Nat := (List.range P.length).countP (isHd P)
theorem countP_one {p q : Nat → Bool} {y : Nat} : ∀ {n : Nat}, y < n → (∀ k, k < n → k ≠ y → p k = q k) → p y = true → q y = false → (List.range n).countP q + 1 = (List.range n).countP p := by
  intro n
  induction n with
  | zero => intro h; omega
  | succ n ih =>
    intro h he hp hq
    rw [List.range_succ, List.countP_append, List.countP_append, List.countP_singleton, List.countP_singleton]
    by_cases e : y = n
    · subst e
      rw [hp, hq]
      have : (List.range y).countP q = (List.range y).countP p := List.countP_congr fun k hk => by
        have := List.mem_range.1 hk
        rw [he k (by omega) (by omega)]
      simp [this]
    · have := ih (by omega) (fun k hk hne => he k (by omega) hne) hp hq
      rw [he n (by omega) (by omega)]
      omega
structure WFp (P : List Pt) : Prop where
  args : ∀ (k : Nat) (p : Pt), P[k]? = some p → ∀ a, a ∈ p.args → a < k
  like : ∀ (k : Nat) (p : Pt), P[k]? = some p → p.like < P.length
  vle : ∀ (k : Nat) (p q : Pt), P[k]? = some p → P[p.like]? = some q → q.v ≤ p.v
  nn : ∀ (k : Nat) (p : Pt), P[k]? = some p → 0 ≤ p.v
  var : ∀ (k : Nat) (p : Pt), P[k]? = some p → p.v ≠ 0 → p.args = [] ∧ p.f = 0
  uniq : ∀ (j k : Nat) (p q : Pt), P[j]? = some p → P[k]? = some q → p.v = q.v → p.v ≠ 0 → j = k
  dep : ∃ d : Nat → Nat, (∀ (k : Nat) (p : Pt), P[k]? = some p → (p.like = k → d k = 0) ∧ (p.like ≠ k → d p.like < d k)) ∧ ∀ k, k < P.length → d k + heads P ≤ P.length
theorem headF_mono {P : List Pt} {r : Nat} : ∀ {n m k : Nat}, headF P n k = some r → n ≤ m → headF P m k = some r := by
  intro n
  induction n with
  | zero => intro m k h; cases h
  | succ n ih =>
    intro m k h hm
    obtain ⟨_, p, _, hp⟩ := headF_some h
    obtain ⟨m, rfl⟩ : ∃ j, m = j + 1 := ⟨m - 1, by omega⟩
    rw [headF_succ hp] at h ⊢
    by_cases e : p.like = k
    · rw [if_pos e] at h ⊢; exact h
    · rw [if_neg e] at h ⊢; exact ih h (by omega)
theorem headF_det {P : List Pt} {r s n m k : Nat} (h : headF P n k = some r) (h' : headF P m k = some s) : r = s := by
  have h1 := headF_mono h (Nat.le_max_left n m)
  have h2 := headF_mono h' (Nat.le_max_right n m)
  rw [h1] at h2; exact Option.some.inj h2
theorem headF_self {P : List Pt} {r : Nat} : ∀ {n k : Nat}, headF P n k = some r → ∃ p, P[r]? = some p ∧ p.like = r := by
  intro n
  induction n with
  | zero => intro k h; cases h
  | succ n ih =>
    intro k h
    obtain ⟨_, p, _, hp⟩ := headF_some h
    rw [headF_succ hp] at h
    by_cases e : p.like = k
    · rw [if_pos e] at h; cases h; exact ⟨p, hp, e⟩
    · rw [if_neg e] at h; exact ih h
theorem hd_some {P : List Pt} (h : WFp P) {k : Nat} (hk : k < P.length) : ∃ r, headF P (P.length + 1) k = some r := by
  obtain ⟨d, hd, hb⟩ := h.dep
  have key : ∀ n k, k < P.length → d k ≤ n → ∃ r, headF P (n + 1) k = some r := by
    intro n
    induction n with
    | zero =>
      intro k hk hdk
      have hp := List.getElem?_eq_getElem hk
      refine ⟨k, ?_⟩
      rw [headF_succ hp, if_pos]
      by_cases e : P[k].like = k
      · exact e
      · have := (hd k _ hp).2 e; omega
    | succ n ih =>
      intro k hk hdk
      have hp := List.getElem?_eq_getElem hk
      rw [headF_succ hp]
      by_cases e : P[k].like = k
      · exact ⟨k, by rw [if_pos e]⟩
      · rw [if_neg e]
        exact ih _ (h.like k _ hp) (by have := (hd k _ hp).2 e; omega)
  exact key P.length k hk (by have := hb k hk; omega)
def hd (P : List Pt) (k : Nat) : Nat := (headF P (P.length + 1) k).getD 0
theorem hd_eq {P : List Pt} (h : WFp P) {k : Nat} (hk : k < P.length) : headF P (P.length + 1) k = some (hd P k) := by
  obtain ⟨r, hr⟩ := hd_some h hk
  rw [hd, hr]; rfl
theorem hd_of {P : List Pt} {k n r : Nat} (h : WFp P) (hr : headF P n k = some r) : hd P k = r := by
  obtain ⟨_, p, _, hp⟩ := headF_some hr
  have hk := (List.getElem?_eq_some_iff.1 hp).1
  exact headF_det (hd_eq h hk) hr
theorem hd_lt {P : List Pt} (h : WFp P) {k : Nat} (hk : k < P.length) : hd P k < P.length := headF_lt (hd_eq h hk)
theorem hd_self {P : List Pt} (h : WFp P) {k : Nat} (hk : k < P.length) : ∃ p, P[hd P k]? = some p ∧ p.like = hd P k := headF_self (hd_eq h hk)
theorem hd_head {P : List Pt} (h : WFp P) {k : Nat} {p : Pt} (hp : P[k]? = some p) (e : p.like = k) : hd P k = k := hd_of (n := 1) h (by rw [headF_succ hp, if_pos e])
theorem hd_like {P : List Pt} (h : WFp P) {k : Nat} {p : Pt} (hp : P[k]? = some p) : hd P p.like = hd P k := by
  have hk := (List.getElem?_eq_some_iff.1 hp).1
  by_cases e : p.like = k
  · rw [e]
  · have h1 := hd_eq h (h.like k p hp)
    refine (hd_of (n := P.length + 1 + 1) h ?_).symm
    rw [headF_succ hp, if_neg e, h1]
theorem hd_hd {P : List Pt} (h : WFp P) {k : Nat} (hk : k < P.length) : hd P (hd P k) = hd P k := by
  obtain ⟨p, hp, e⟩ := hd_self h hk
  exact hd_head h hp e
theorem hd_ind {P : List Pt} (h : WFp P) (M : Nat → Prop) (h1 : ∀ (k : Nat) (p : Pt), P[k]? = some p → p.like = k → M k) (h2 : ∀ (k : Nat) (p : Pt), P[k]? = some p → p.like ≠ k → M p.like → M k) : ∀ k, k < P.length → M k := by
  obtain ⟨d, hd, _⟩ := h.dep
  have key : ∀ n k, k < P.length → d k ≤ n → M k := by
    intro n
    induction n with
    | zero =>
      intro k hk hdk
      have hp := List.getElem?_eq_getElem hk
      by_cases e : P[k].like = k
      · exact h1 k _ hp e
      · have := (hd k _ hp).2 e; omega
    | succ n ih =>
      intro k hk hdk
      have hp := List.getElem?_eq_getElem hk
      by_cases e : P[k].like = k
      · exact h1 k _ hp e
      · exact h2 k _ hp e (ih _ (h.like k _ hp) (by have := (hd k _ hp).2 e; omega))
  exact fun k hk => key _ k hk (Nat.le_refl _)
theorem hd_vle {P : List Pt} (h : WFp P) : ∀ (k : Nat), k < P.length → ∀ (p q : Pt), P[k]? = some p → P[hd P k]? = some q → q.v ≤ p.v := by
  refine hd_ind h _ (fun k p hp e p' q hp' hq => ?_) (fun k p hp e ih p' q hp' hq => ?_)
  · rw [hd_head h hp e] at hq
    rw [hp'] at hq; cases hq; omega
  · rw [hp] at hp'; cases hp'
    have hl := h.like k p hp
    have hr := List.getElem?_eq_getElem hl
    have h3 := h.vle k p _ hp hr
    have h4 := ih _ q hr (by rw [hd_like h hp]; exact hq)
    omega
def stJ (p : Pt) : Pt := { p with like := 0 }
def SameJ (P P' : List Pt) : Prop := P.map stJ = P'.map stJ
theorem SameJ.len {P P' : List Pt} (h : SameJ P P') : P'.length = P.length := by
  have := congrArg List.length h; simpa using this.symm
theorem SameJ.at {P P' : List Pt} (h : SameJ P P') {k : Nat} {p : Pt} (hp : P[k]? = some p) : ∃ p', P'[k]? = some p' ∧ p'.v = p.v ∧ p'.f = p.f ∧ p'.args = p.args ∧ p'.size = p.size := by
  have h1 : (P.map stJ)[k]? = (P'.map stJ)[k]? := by rw [h]
  rw [List.getElem?_map, List.getElem?_map, hp] at h1
  cases hp' : P'[k]? with
  | none => rw [hp'] at h1; cases h1
  | some p' =>
    rw [hp'] at h1
    simp only [Option.map_some, Option.some.injEq, stJ, Pt.mk.injEq] at h1
    exact ⟨p', rfl, h1.1.symm, h1.2.1.symm, h1.2.2.1.symm, h1.2.2.2.2.symm⟩
theorem SameJ.refl (P : List Pt) : SameJ P P := rfl
theorem SameJ.trans {P P' P'' : List Pt} (h : SameJ P P') (h' : SameJ P' P'') : SameJ P P'' := Eq.trans h h'
theorem SameJ.symm {P P' : List Pt} (h : SameJ P P') : SameJ P' P := Eq.symm h
theorem SameJ.set {P : List Pt} {y : Nat} {q : Pt} (hq : P[y]? = some q) (x : Nat) : SameJ P (P.set y { q with like := x }) := by
  refine List.ext_getElem? fun k => ?_
  rw [List.getElem?_map, List.getElem?_map]
  by_cases e : k = y
  · subst e
    have hk := (List.getElem?_eq_some_iff.1 hq).1
    rw [List.getElem?_set_self hk, hq]; rfl
  · rw [List.getElem?_set_ne (fun h => e h.symm)]
section
variable {P : List Pt} {x y : Nat} {p q : Pt}
theorem link_head (hx : P[x]? = some p) (hy : P[y]? = some q) (ex : p.like = x) (ey : q.like = y) (ne : x ≠ y) : ∀ {n k r : Nat}, headF P n k = some r → headF (P.set y { q with like := x }) (n + 1) k = some (if r = y then x else r) := by
  have hyl := (List.getElem?_eq_some_iff.1 hy).1
  have h0 : ∀ n, headF (P.set y { q with like := x }) (n + 1) x = some x := fun n => by
    have : (P.set y { q with like := x })[x]? = some p := by rw [List.getElem?_set_ne (fun h => ne h.symm)]; exact hx
    rw [headF_succ this, if_pos ex]
  intro n
  induction n with
  | zero => intro k r h; cases h
  | succ n ih =>
    intro k r h
    obtain ⟨_, p', _, hp⟩ := headF_some h
    rw [headF_succ hp] at h
    by_cases e : k = y
    · subst e
      rw [hy] at hp; cases hp
      rw [if_pos ey] at h; cases h
      have h1 : (P.set k { q with like := x })[k]? = some { q with like := x } := List.getElem?_set_self hyl
      rw [headF_succ h1, if_neg (show ¬ x = k from ne), if_pos rfl]
      exact h0 n
    · have h1 : (P.set y { q with like := x })[k]? = some p' := by rw [List.getElem?_set_ne (fun h => e h.symm)]; exact hp
      rw [headF_succ h1]
      by_cases e2 : p'.like = k
      · rw [if_pos e2] at h ⊢; cases h; rw [if_neg e]
      · rw [if_neg e2] at h ⊢; exact ih h
theorem link_heads (hy : P[y]? = some q) (ey : q.like = y) (ne : x ≠ y) : heads (P.set y { q with like := x }) + 1 = heads P := by
  have hyl := (List.getElem?_eq_some_iff.1 hy).1
  rw [heads, heads, List.length_set]
  refine countP_one hyl (fun k hk hne => ?_) ?_ ?_
  · rw [isHd, isHd, List.getElem?_set_ne (fun h => hne h.symm)]
  · rw [isHd, hy]; simpa using ey
  · rw [isHd, List.getElem?_set_self hyl]; simpa using ne
theorem link_wf (h : WFp P) (hx : P[x]? = some p) (hy : P[y]? = some q) (ex : p.like = x) (ey : q.like = y) (ne : x ≠ y) (hv : p.v ≤ q.v) : WFp (P.set y { q with like := x }) := by
  have hs := SameJ.set hy x
  have hxl := (List.getElem?_eq_some_iff.1 hx).1
  have hyl := (List.getElem?_eq_some_iff.1 hy).1
  have hat : ∀ (k : Nat) (r : Pt), (P.set y { q with like := x })[k]? = some r → (k = y ∧ r = { q with like := x }) ∨ (k ≠ y ∧ P[k]? = some r) := fun k r hr => by
    by_cases e : k = y
    · subst e; rw [List.getElem?_set_self hyl] at hr; cases hr; exact Or.inl ⟨rfl, rfl⟩
    · rw [List.getElem?_set_ne (fun h => e h.symm)] at hr; exact Or.inr ⟨e, hr⟩
  refine ⟨fun k r hr a ha => ?_, fun k r hr => ?_, fun k r s hr hss => ?_, fun k r hr => ?_, fun k r hr => ?_, fun j k r s hr hss e1 e2 => ?_, ?_⟩
  · obtain ⟨r', h1, _, _, h2, _⟩ := hs.symm.at hr
    exact h.args k r' h1 a (by rw [h2]; exact ha)
  · rw [List.length_set]
    rcases hat k r hr with ⟨rfl, rfl⟩ | ⟨_, hr⟩
    · exact hxl
    · exact h.like k r hr
  · rcases hat k r hr with ⟨rfl, rfl⟩ | ⟨e, hr⟩
    · rw [List.getElem?_set_ne (fun h => ne h.symm), hx] at hss; cases hss; exact hv
    · obtain ⟨s', h1, h2, _⟩ := hs.symm.at hss
      rw [← h2]; exact h.vle k r s' hr h1
  · obtain ⟨r', h1, h2, _⟩ := hs.symm.at hr
    rw [← h2]; exact h.nn k r' h1
  · obtain ⟨r', h1, h2, h3, h4, _⟩ := hs.symm.at hr
    rw [← h2, ← h3, ← h4]; exact h.var k r' h1
  · obtain ⟨r', h1, h2, _⟩ := hs.symm.at hr
    obtain ⟨s', h3, h4, _⟩ := hs.symm.at hss
    exact h.uniq j k r' s' h1 h3 (by rw [h2, h4]; exact e1) (by rw [h2]; exact e2)
  · obtain ⟨d, hd1, hd2⟩ := h.dep
    refine ⟨fun k => if hd P k = y then d k + 1 else d k, fun k r hr => ?_, fun k hk => ?_⟩
    · rcases hat k r hr with ⟨rfl, rfl⟩ | ⟨e, hr⟩
      · refine ⟨fun e => absurd e ne, fun _ => ?_⟩
        show (if hd P x = k then d x + 1 else d x) < (if hd P k = k then d k + 1 else d k)
        rw [hd_head h hx ex, if_neg ne, hd_head h hy ey, if_pos rfl, (hd1 x p hx).1 ex]; omega
      · refine ⟨fun e2 => ?_, fun e2 => ?_⟩
        · show (if hd P k = y then d k + 1 else d k) = 0
          rw [hd_head h hr e2, if_neg e]; exact (hd1 k r hr).1 e2
        · show (if hd P r.like = y then d r.like + 1 else d r.like) < (if hd P k = y then d k + 1 else d k)
          rw [hd_like h hr]
          have := (hd1 k r hr).2 e2
          split <;> omega
    · rw [List.length_set] at hk ⊢
      have h1 := link_heads hy ey ne
      have h2 := hd2 k hk
      show (if hd P k = y then d k + 1 else d k) + _ ≤ _
      split <;> omega
theorem link_hd (h : WFp P) (hx : P[x]? = some p) (hy : P[y]? = some q) (ex : p.like = x) (ey : q.like = y) (ne : x ≠ y) (hv : p.v ≤ q.v) {k : Nat} (hk : k < P.length) : hd (P.set y { q with like := x }) k = if hd P k = y then x else hd P k :=
  hd_of (link_wf h hx hy ex ey ne hv) (link_head hx hy ex ey ne (hd_eq h hk))
end
end Go.Proofs.YtbkedppkdhfpoabGreat

namespace Go.Proofs.YtbkedppkdhfpoabGreat
def Good (P : List Pt) (k : Nat) : Prop := ∀ (p q : Pt), P[k]? = some p → P[p.like]? = some q → p.v ≠ 0 ∨ (q.v = 0 ∧ p.f = q.f ∧ p.args.length = q.args.length ∧ ∀ (i a b : Nat), p.args[i]? = some a → q.args[i]? = some b → hd P a = hd P b)
structure JO (P P' : List Pt) (ok : Bool) : Prop where
  sj : SameJ P P'
  wf : WFp P'
  hs : heads P' ≤ heads P
  mono : ∀ (i j : Nat), i < P.length → j < P.length → hd P i = hd P j → hd P' i = hd P' j
  links : ok = true → ∀ (k : Nat) (p p' : Pt), P[k]? = some p → P'[k]? = some p' → p'.like = p.like ∨ Good P' k
theorem JO.refl {P : List Pt} (h : WFp P) (ok : Bool) : JO P P ok := ⟨rfl, h, Nat.le_refl _, fun _ _ _ _ e => e, fun _ k p p' h1 h2 => by rw [h1] at h2; cases h2; exact Or.inl rfl⟩
theorem JO.good {P P' : List Pt} {ok : Bool} (h : JO P P' ok) (hw : WFp P) {k : Nat} {p p' : Pt} (h1 : P[k]? = some p) (h2 : P'[k]? = some p') (e : p'.like = p.like) (hg : Good P k) : Good P' k := by
  intro r s hr hss
  rw [h2] at hr; cases hr
  rw [e] at hss
  obtain ⟨s', h3, h4, h5, h6, _⟩ := h.sj.symm.at hss
  obtain ⟨p2, h7, h8, h9, h10, _⟩ := h.sj.symm.at h2
  rw [h1] at h7; cases h7
  rcases hg p s' h1 h3 with hg | ⟨g1, g2, g3, g4⟩
  · exact Or.inl (by rw [← h8]; exact hg)
  · refine Or.inr ⟨by rw [← h4]; exact g1, by rw [← h9, ← h5]; exact g2, by rw [← h10, ← h6]; exact g3, fun i a b ha hb => ?_⟩
    rw [← h10] at ha
    rw [← h6] at hb
    have hk := (List.getElem?_eq_some_iff.1 h1).1
    have hl := (List.getElem?_eq_some_iff.1 h3).1
    have la := hw.args k p h1 a (List.mem_of_getElem? ha)
    have lb := hw.args _ s' h3 b (List.mem_of_getElem? hb)
    exact h.mono a b (by omega) (by omega) (g4 i a b ha hb)
theorem JO.trans {P P' P'' : List Pt} {ok ok' : Bool} (h : JO P P' ok) (h' : JO P' P'' ok') (he : ok' = true → ok = true) : JO P P'' ok' := by
  refine ⟨h.sj.trans h'.sj, h'.wf, Nat.le_trans h'.hs h.hs, fun i j hi hj e => h'.mono i j (by rw [h.sj.len]; exact hi) (by rw [h.sj.len]; exact hj) (h.mono i j hi hj e), fun hk k p p'' h1 h2 => ?_⟩
  obtain ⟨p', h3, _⟩ := h.sj.at h1
  rcases h'.links hk k p' p'' h3 h2 with e | g
  · rcases h.links (he hk) k p p' h1 h3 with e2 | g
    · exact Or.inl (e.trans e2)
    · exact Or.inr (h'.good h.wf h3 h2 e g)
  · exact Or.inr g
def IsDen (θ : Int → T) (P : List Pt) (D : Nat → T) : Prop := ∀ (k : Nat) (p : Pt), P[k]? = some p → D k = if p.v = 0 then ⟨0, p.f, p.args.map D⟩ else θ p.v
theorem IsDen.same {θ : Int → T} {P P' : List Pt} {D : Nat → T} (h : IsDen θ P D) (hs : SameJ P P') : IsDen θ P' D := by
  intro k p hp
  obtain ⟨p', h1, h2, h3, h4, _⟩ := hs.symm.at hp
  rw [h k p' h1, h2, h3, h4]
def Resp (P : List Pt) (D : Nat → T) : Prop := ∀ (k : Nat) (p : Pt), P[k]? = some p → D k = D p.like
theorem Resp.hd {P : List Pt} {D : Nat → T} (h : WFp P) (hr : Resp P D) : ∀ k, k < P.length → D k = D (hd P k) := by
  refine hd_ind h _ (fun k p hp e => by rw [hd_head h hp e]) (fun k p hp e ih => ?_)
  rw [hr k p hp, ih, hd_like h hp]
def JR (n : Nat) (P : List Pt) (i j : Nat) : Prop :=
  ∃ ok P', joinF n P i j = some (ok, P') ∧ JO P P' ok ∧ (ok = true → hd P' i = hd P' j) ∧ ∀ θ D, IsDen θ P D → Resp P D → D i = D j → ok = true ∧ Resp P' D
theorem eqR_ok {n : Nat} (ih : ∀ P i j, WFp P → i < P.length → j < P.length → heads P < n → JR n P i j) : ∀ (l m : List Nat) (P : List Pt), l.length = m.length → WFp P → heads P < n → (∀ a, a ∈ l → a < P.length) → (∀ a, a ∈ m → a < P.length) →
    ∃ ok P', eqR (joinF n) l m P = some (ok, P') ∧ JO P P' ok ∧ (ok = true → ∀ (i a b : Nat), l[i]? = some a → m[i]? = some b → hd P' a = hd P' b) ∧ ∀ θ D, IsDen θ P D → Resp P D → l.map D = m.map D → ok = true ∧ Resp P' D := by
  intro l
  induction l with
  | nil =>
    intro m P hl hw hh _ _
    cases m with
    | cons b m => simp at hl
    | nil => exact ⟨true, P, rfl, JO.refl hw _, fun _ i a b ha => by simp at ha, fun θ D _ hr _ => ⟨rfl, hr⟩⟩
  | cons a l ihl =>
    intro m P hl hw hh h1 h2
    cases m with
    | nil => simp at hl
    | cons b m =>
      obtain ⟨ok, P1, hj, hjo, hj1, hj2⟩ := ih P a b hw (h1 a List.mem_cons_self) (h2 b List.mem_cons_self) hh
      cases ok with
      | false =>
        refine ⟨false, P1, by rw [eqR, hj]; rfl, hjo, (fun h => by cases h), fun θ D hd hr he => ?_⟩
        simp only [List.map_cons, List.cons.injEq] at he
        cases (hj2 θ D hd hr he.1).1
      | true =>
        have hlen := hjo.sj.len
        obtain ⟨ok, P2, he, heo, he1, he2⟩ := ihl m P1 (by simpa using hl) hjo.wf (Nat.lt_of_le_of_lt hjo.hs hh) (fun x hx => by rw [hlen]; exact h1 x (List.mem_cons_of_mem _ hx)) (fun x hx => by rw [hlen]; exact h2 x (List.mem_cons_of_mem _ hx))
        refine ⟨ok, P2, by rw [eqR, hj]; exact he, hjo.trans heo (fun _ => rfl), fun hok i x y hx hy => ?_, fun θ D hd hr hm => ?_⟩
        · cases i with
          | zero =>
            simp only [List.getElem?_cons_zero, Option.some.injEq] at hx hy
            subst hx hy
            exact heo.mono _ _ (by rw [hlen]; exact h1 _ List.mem_cons_self) (by rw [hlen]; exact h2 _ List.mem_cons_self) (hj1 rfl)
          | succ i => exact he1 hok i x y (by simpa using hx) (by simpa using hy)
        · simp only [List.map_cons, List.cons.injEq] at hm
          exact he2 θ D (hd.same hjo.sj) (hj2 θ D hd hr hm.1).2 hm.2
theorem joinB_ok {n : Nat} (ih : ∀ P i j, WFp P → i < P.length → j < P.length → heads P < n → JR n P i j) {P : List Pt} {x y : Nat} {p q : Pt} (h : WFp P) (hx : P[x]? = some p) (hy : P[y]? = some q) (ex : p.like = x) (ey : q.like = y) (ne : x ≠ y) (hv : p.v ≤ q.v) (hh : heads P < n + 1) :
    ∃ ok P', joinB (joinF n) P x y p q = some (ok, P') ∧ JO P P' ok ∧ (ok = true → hd P' x = hd P' y) ∧ ∀ θ D, IsDen θ P D → Resp P D → D x = D y → ok = true ∧ Resp P' D := by
  have hxl := (List.getElem?_eq_some_iff.1 hx).1
  have hyl := (List.getElem?_eq_some_iff.1 hy).1
  have hsj := SameJ.set hy x
  have hwf := link_wf h hx hy ex ey ne hv
  have hhd := fun {k} (hk : k < P.length) => link_hd h hx hy ex ey ne hv hk
  have hhs := link_heads hy ey ne
  have hxy : hd (P.set y { q with like := x }) x = hd (P.set y { q with like := x }) y := by
    rw [hhd hxl, hhd hyl, hd_head h hx ex, hd_head h hy ey, if_neg ne, if_pos rfl]
  have hmono : ∀ (i j : Nat), i < P.length → j < P.length → hd P i = hd P j → hd (P.set y { q with like := x }) i = hd (P.set y { q with like := x }) j := fun i j hi hj e => by rw [hhd hi, hhd hj, e]
  have hlike : ∀ (k : Nat) (r r' : Pt), P[k]? = some r → (P.set y { q with like := x })[k]? = some r' → r'.like = r.like ∨ k = y := fun k r r' h1 h2 => by
    by_cases e : k = y
    · exact Or.inr e
    · rw [List.getElem?_set_ne (fun h => e h.symm), h1] at h2; cases h2; exact Or.inl rfl
  have hyq : (P.set y { q with like := x })[y]? = some { q with like := x } := List.getElem?_set_self hyl
  have hresp : ∀ D, Resp P D → D x = D y → Resp (P.set y { q with like := x }) D := fun D hr e k r hk => by
    by_cases e2 : k = y
    · subst e2; rw [hyq] at hk; cases hk; exact e.symm
    · rw [List.getElem?_set_ne (fun h => e2 h.symm)] at hk; exact hr k r hk
  rw [joinB]
  by_cases hq0 : q.v = 0
  · have hp0 : p.v = 0 := by have := h.nn x p hx; omega
    rw [if_pos hq0]
    have hnoG : ∀ ok : Bool, ok = false → JO P (P.set y { q with like := x }) ok := fun ok e => ⟨hsj, hwf, by omega, hmono, fun e2 => by rw [e] at e2; cases e2⟩
    by_cases hf : p.f = q.f
    · rw [if_pos hf, eqL]
      by_cases hl : p.args.length = q.args.length
      · rw [if_pos hl]
        obtain ⟨ok, P2, he, heo, he1, he2⟩ := eqR_ok ih p.args q.args _ hl hwf (by omega) (fun a ha => by rw [List.length_set]; have := h.args x p hx a ha; omega) (fun a ha => by rw [List.length_set]; have := h.args y q hy a ha; omega)
        refine ⟨ok, P2, he, ⟨hsj.trans heo.sj, heo.wf, by have := heo.hs; omega, fun i j hi hj e => heo.mono i j (by rw [List.length_set]; exact hi) (by rw [List.length_set]; exact hj) (hmono i j hi hj e), fun hok k r r2 h1 h2 => ?_⟩, fun _ => heo.mono x y (by rw [List.length_set]; exact hxl) (by rw [List.length_set]; exact hyl) hxy, fun θ D hd hr e => ?_⟩
        · obtain ⟨r1, h3, _⟩ := hsj.at h1
          rcases heo.links hok k r1 r2 h3 h2 with e | g
          · rcases hlike k r r1 h1 h3 with e2 | e2
            · exact Or.inl (e.trans e2)
            · subst e2
              rw [hyq] at h3; cases h3
              refine Or.inr ?_
              intro a b ha hb
              rw [h2] at ha; cases ha
              rw [e] at hb
              obtain ⟨b', g1, g2, g3, g4, _⟩ := (hsj.trans heo.sj).symm.at hb
              obtain ⟨a', g5, g6, g7, g8, _⟩ := (hsj.trans heo.sj).symm.at h2
              rw [hy] at g5; cases g5
              have hb3 : P[x]? = some b' := g1
              rw [hx] at hb3; cases hb3
              refine Or.inr ⟨by rw [← g2]; exact hp0, by rw [← g7, ← g3]; exact hf.symm, by rw [← g8, ← g4]; exact hl.symm, fun i u v hu hv => ?_⟩
              exact (he1 hok i v u (by rw [g4]; exact hv) (by rw [g8]; exact hu)).symm
          · exact Or.inr g
        · refine he2 θ D (hd.same hsj) (hresp D hr e) ?_
          rw [hd x p hx, hd y q hy, if_pos hp0, if_pos hq0] at e
          simp only [T.mk.injEq] at e
          exact e.2.2
      · rw [if_neg hl]
        refine ⟨false, _, rfl, hnoG _ rfl, (fun h => by cases h), fun θ D hd hr e => ?_⟩
        rw [hd x p hx, hd y q hy, if_pos hp0, if_pos hq0] at e
        simp only [T.mk.injEq] at e
        have := congrArg List.length e.2.2
        simp at this
        exact absurd this hl
    · rw [if_neg hf]
      refine ⟨false, _, rfl, hnoG _ rfl, (fun h => by cases h), fun θ D hd hr e => ?_⟩
      rw [hd x p hx, hd y q hy, if_pos hp0, if_pos hq0] at e
      simp only [T.mk.injEq] at e
      exact absurd e.2.1 hf
  · rw [if_neg hq0]
    refine ⟨true, _, rfl, ⟨hsj, hwf, by omega, hmono, fun _ k r r' h1 h2 => ?_⟩, fun _ => hxy, fun θ D hd hr e => ⟨rfl, hresp D hr e⟩⟩
    rcases hlike k r r' h1 h2 with e | e
    · exact Or.inl e
    · subst e
      refine Or.inr fun a b ha hb => Or.inl ?_
      rw [hyq] at ha; cases ha; exact hq0
theorem join_ok : ∀ (n : Nat) (P : List Pt) (i j : Nat), WFp P → i < P.length → j < P.length → heads P < n → JR n P i j := by
  intro n
  induction n with
  | zero => intro P i j _ _ _ h; omega
  | succ n ih =>
    intro P i j h hi hj hh
    have e1 := hd_eq h hi
    have e2 := hd_eq h hj
    obtain ⟨p, hp, ep⟩ := hd_self h hi
    obtain ⟨q, hq, eq⟩ := hd_self h hj
    have hdi := hd_hd h hi
    have hdj := hd_hd h hj
    have li := hd_lt h hi
    have lj := hd_lt h hj
    unfold JR
    by_cases e : hd P i = hd P j
    · refine ⟨true, P, by rw [joinF, e1, e2]; simp only [if_pos e], JO.refl h _, fun _ => e, fun θ D _ hr _ => ⟨rfl, hr⟩⟩
    · have hj1 : joinF (n + 1) P i j = if q.v < p.v then joinB (joinF n) P (hd P j) (hd P i) q p else joinB (joinF n) P (hd P i) (hd P j) p q := by
        rw [joinF, e1, e2]
        simp only [if_neg e, hp, hq]
      by_cases hv : q.v < p.v
      · obtain ⟨ok, P', h1, h2, h3, h4⟩ := joinB_ok ih h hq hp eq ep (fun e' => e e'.symm) (Int.le_of_lt hv) hh
        refine ⟨ok, P', by rw [hj1, if_pos hv]; exact h1, h2, fun hok => ?_, fun θ D hd hr he => h4 θ D hd hr ?_⟩
        · rw [h2.mono i _ hi li hdi.symm, h2.mono j _ hj lj hdj.symm]; exact (h3 hok).symm
        · rw [← Resp.hd h hr i hi, ← Resp.hd h hr j hj]; exact he.symm
      · obtain ⟨ok, P', h1, h2, h3, h4⟩ := joinB_ok ih h hp hq ep eq e (by omega) hh
        refine ⟨ok, P', by rw [hj1, if_neg hv]; exact h1, h2, fun hok => ?_, fun θ D hd hr he => h4 θ D hd hr ?_⟩
        · rw [h2.mono i _ hi li hdi.symm, h2.mono j _ hj lj hdj.symm]; exact h3 hok
        · rw [← Resp.hd h hr i hi, ← Resp.hd h hr j hj]; exact he
end Go.Proofs.YtbkedppkdhfpoabGreat

namespace Go.Proofs.YtbkedppkdhfpoabGreat
def stM (p : Pt) : Pt := { p with size := 0 }
def SameM (P P' : List Pt) : Prop := P.map stM = P'.map stM
theorem SameM.len {P P' : List Pt} (h : SameM P P') : P'.length = P.length := by
  have := congrArg List.length h; simpa using this.symm
theorem SameM.at {P P' : List Pt} (h : SameM P P') {k : Nat} {p : Pt} (hp : P[k]? = some p) : ∃ p', P'[k]? = some p' ∧ p'.v = p.v ∧ p'.f = p.f ∧ p'.args = p.args ∧ p'.like = p.like := by
  have h1 : (P.map stM)[k]? = (P'.map stM)[k]? := by rw [h]
  rw [List.getElem?_map, List.getElem?_map, hp] at h1
  cases hp' : P'[k]? with
  | none => rw [hp'] at h1; cases h1
  | some p' =>
    rw [hp'] at h1
    simp only [Option.map_some, Option.some.injEq, stM, Pt.mk.injEq] at h1
    exact ⟨p', rfl, h1.1.symm, h1.2.1.symm, h1.2.2.1.symm, h1.2.2.2.1.symm⟩
theorem SameM.refl (P : List Pt) : SameM P P := rfl
theorem SameM.trans {P P' P'' : List Pt} (h : SameM P P') (h' : SameM P' P'') : SameM P P'' := Eq.trans h h'
theorem SameM.symm {P P' : List Pt} (h : SameM P P') : SameM P' P := Eq.symm h
theorem SameM.set {P : List Pt} {y : Nat} {q : Pt} (hq : P[y]? = some q) (x : Int) : SameM P (P.set y { q with size := x }) := by
  refine List.ext_getElem? fun k => ?_
  rw [List.getElem?_map, List.getElem?_map]
  by_cases e : k = y
  · subst e
    have hk := (List.getElem?_eq_some_iff.1 hq).1
    rw [List.getElem?_set_self hk, hq]; rfl
  · rw [List.getElem?_set_ne (fun h => e h.symm)]
theorem SameM.none {P P' : List Pt} (h : SameM P P') {k : Nat} (hp : P[k]? = none) : P'[k]? = none := by
  rw [List.getElem?_eq_none_iff] at hp ⊢; rw [h.len]; exact hp
theorem SameM.headE {P P' : List Pt} (h : SameM P P') : ∀ n k, headF P' n k = headF P n k := by
  intro n
  induction n with
  | zero => intro k; rfl
  | succ n ih =>
    intro k
    cases hp : P[k]? with
    | none => rw [headF, headF, hp, h.none hp]
    | some p =>
      obtain ⟨p', h1, _, _, _, h2⟩ := h.at hp
      rw [headF_succ hp, headF_succ h1, h2, ih]
theorem madeL_congr {f g : Nat → Option T} (h : ∀ a, f a = g a) : ∀ l, madeL f l = madeL g l := by
  intro l
  induction l with
  | nil => rfl
  | cons a l ih => rw [madeL, madeL, h, ih]
theorem SameM.madeE {P P' : List Pt} (h : SameM P P') : ∀ n k, madeF P' n k = madeF P n k := by
  intro n
  induction n with
  | zero => intro k; rfl
  | succ n ih =>
    intro k
    rw [madeF, madeF, h.len, h.headE]
    cases headF P (P.length + 1) k with
    | none => rfl
    | some r =>
      cases hp : P[r]? with
      | none => simp only [h.none hp, hp]
      | some p =>
        obtain ⟨p', h1, h3, h4, h5, _⟩ := h.at hp
        simp only [h1, hp, h3, h4, h5, madeL_congr ih]
theorem SameM.headsE {P P' : List Pt} (h : SameM P P') : heads P' = heads P := by
  rw [heads, heads, h.len]
  refine List.countP_congr fun k _ => ?_
  rw [isHd, isHd]
  cases hp : P[k]? with
  | none => rw [h.none hp]
  | some p =>
    obtain ⟨p', h1, _, _, _, h2⟩ := h.at hp
    rw [h1]; simp only [h2]
theorem SameM.wf {P P' : List Pt} (h : SameM P P') (hw : WFp P) : WFp P' := by
  refine ⟨fun k r hr a ha => ?_, fun k r hr => ?_, fun k r s hr hss => ?_, fun k r hr => ?_, fun k r hr => ?_, fun j k r s hr hss e1 e2 => ?_, ?_⟩
  · obtain ⟨r', h1, _, _, h2, _⟩ := h.symm.at hr
    exact hw.args k r' h1 a (by rw [h2]; exact ha)
  · obtain ⟨r', h1, _, _, _, h2⟩ := h.symm.at hr
    rw [h.len, ← h2]; exact hw.like k r' h1
  · obtain ⟨r', h1, h2, _, _, h3⟩ := h.symm.at hr
    obtain ⟨s', h4, h5, _⟩ := h.symm.at hss
    rw [← h2, ← h5]; exact hw.vle k r' s' h1 (by rw [h3]; exact h4)
  · obtain ⟨r', h1, h2, _⟩ := h.symm.at hr
    rw [← h2]; exact hw.nn k r' h1
  · obtain ⟨r', h1, h2, h3, h4, _⟩ := h.symm.at hr
    rw [← h2, ← h3, ← h4]; exact hw.var k r' h1
  · obtain ⟨r', h1, h2, _⟩ := h.symm.at hr
    obtain ⟨s', h3, h4, _⟩ := h.symm.at hss
    exact hw.uniq j k r' s' h1 h3 (by rw [h2, h4]; exact e1) (by rw [h2]; exact e2)
  · obtain ⟨d, h1, h2⟩ := hw.dep
    refine ⟨d, fun k r hr => ?_, fun k hk => by rw [h.headsE, h.len]; exact h2 k (by rw [← h.len]; exact hk)⟩
    obtain ⟨r', h3, _, _, _, h4⟩ := h.symm.at hr
    rw [← h4]; exact h1 k r' h3
theorem SameM.hdE {P P' : List Pt} (h : SameM P P') (k : Nat) : hd P' k = hd P k := by
  rw [hd, hd, h.len, h.headE]
theorem madeL_mono {f g : Nat → Option T} (h : ∀ a t, f a = some t → g a = some t) : ∀ {l ts}, madeL f l = some ts → madeL g l = some ts := by
  intro l
  induction l with
  | nil => intro ts h; exact h
  | cons a l ih =>
    intro ts hm
    rw [madeL] at hm
    split at hm
    · cases hm
    · rename_i t ht
      split at hm
      · cases hm
      · rename_i ts' hts
        rw [madeL, h a t ht]
        simp only [ih hts]
        exact hm
theorem madeF_mono {P : List Pt} : ∀ {n m k : Nat} {t : T}, madeF P n k = some t → n ≤ m → madeF P m k = some t := by
  intro n
  induction n with
  | zero => intro m k t h; cases h
  | succ n ih =>
    intro m k t hm hle
    obtain ⟨n', h, p, ts, e, h1, h2, h3, rfl⟩ := madeF_some hm
    cases e
    obtain ⟨m, rfl⟩ : ∃ j, m = j + 1 := ⟨m - 1, by omega⟩
    rw [madeF, h1]
    simp only [h2, madeL_mono (fun a t ha => ih (m := m) ha (by omega)) h3]
theorem madeF_det {P : List Pt} {n m k : Nat} {t u : T} (h : madeF P n k = some t) (h' : madeF P m k = some u) : t = u := by
  have h1 := madeF_mono h (Nat.le_max_left n m)
  have h2 := madeF_mono h' (Nat.le_max_right n m)
  rw [h1] at h2; exact Option.some.inj h2
theorem made_hd {P : List Pt} (h : WFp P) {j k : Nat} (hj : j < P.length) (hk : k < P.length) (e : hd P j = hd P k) : ∀ n, madeF P n j = madeF P n k := by
  intro n
  cases n with
  | zero => rfl
  | succ n => rw [madeF, madeF, hd_eq h hj, hd_eq h hk, e]
theorem madeF_of {P : List Pt} (h : WFp P) {k n : Nat} {p : Pt} {ts : List T} (hp : P[k]? = some p) (e : p.like = k) (hts : madeL (madeF P n) p.args = some ts) : madeF P (n + 1) k = some ⟨p.v, p.f, ts⟩ := by
  have hk := (List.getElem?_eq_some_iff.1 hp).1
  rw [madeF, hd_eq h hk, hd_head h hp e]
  simp only [hp, hts]
theorem madeL_snoc {f : Nat → Option T} {a : Nat} {t : T} (ha : f a = some t) : ∀ {l ts}, madeL f l = some ts → madeL f (l ++ [a]) = some (ts ++ [t]) := by
  intro l
  induction l with
  | nil => intro ts h; cases h; rw [List.nil_append, madeL, ha]; rfl
  | cons b l ih =>
    intro ts hm
    rw [madeL] at hm
    split at hm
    · cases hm
    · rename_i u hu
      split at hm
      · cases hm
      · rename_i us hus
        cases hm
        rw [List.cons_append, madeL, hu]
        simp only [ih hus]; rfl
def isZ (P : List Pt) (k : Nat) : Bool := match P[k]? with
  | none => false
  | some p => p.size == 0
def zeros (P : List Pt) : Nat := (List.range P.length).countP (isZ P)
def SizeInv (P : List Pt) : Prop := ∀ (k : Nat) (p : Pt), P[k]? = some p → p.size = 0 ∨ p.size = -1 ∨ (1 ≤ p.size ∧ p.size ≤ 121 ∧ ∃ n t, madeF P n k = some t ∧ p.size = min (t.sz : Int) 121)
def Rank (P : List Pt) (ρ : Nat → Nat) : Prop := (∀ (k : Nat) (p : Pt), P[k]? = some p → ρ k = ρ p.like) ∧ ∀ (k : Nat) (p : Pt) (a : Nat), P[k]? = some p → a ∈ p.args → ρ a < ρ k
theorem Rank.same {P P' : List Pt} {ρ : Nat → Nat} (h : Rank P ρ) (hs : SameM P P') : Rank P' ρ := by
  refine ⟨fun k p hp => ?_, fun k p a hp ha => ?_⟩
  · obtain ⟨p', h1, _, _, _, h2⟩ := hs.symm.at hp
    rw [h.1 k p' h1, h2]
  · obtain ⟨p', h1, _, _, h2, _⟩ := hs.symm.at hp
    exact h.2 k p' a h1 (by rw [h2]; exact ha)
theorem Rank.hd {P : List Pt} {ρ : Nat → Nat} (h : WFp P) (hr : Rank P ρ) : ∀ k, k < P.length → ρ k = ρ (hd P k) := by
  refine hd_ind h _ (fun k p hp e => by rw [hd_head h hp e]) (fun k p hp e ih => ?_)
  rw [hr.1 k p hp, ih, hd_like h hp]
def Done (P : List Pt) (k : Nat) (m : Int) : Prop := m = -1 ∨ (1 ≤ m ∧ m ≤ 121 ∧ ∃ n t, madeF P n k = some t ∧ m = min (t.sz : Int) 121)
def MR (n : Nat) (P : List Pt) (k : Nat) : Prop :=
  ∃ m P', measF n P k = some (m, P') ∧ SameM P P' ∧ SizeInv P' ∧ zeros P' ≤ zeros P ∧ Done P k m ∧ (∀ (j : Nat) (p p' : Pt), P[j]? = some p → P'[j]? = some p' → p.size ≠ 0 → p'.size = p.size) ∧
    ∀ ρ, Rank P ρ → (∀ (j : Nat) (p : Pt), P[j]? = some p → p.size = -1 → ρ k < ρ j) → m ≠ -1 ∧ ∀ (j : Nat) (p' : Pt), P'[j]? = some p' → p'.size = -1 → ∃ p, P[j]? = some p ∧ p.size = -1
theorem zeros_set {P : List Pt} {h : Nat} {p : Pt} {x : Int} (hp : P[h]? = some p) (h0 : p.size ≠ 0) (hx : x ≠ 0) : zeros (P.set h { p with size := x }) = zeros P := by
  have hl := (List.getElem?_eq_some_iff.1 hp).1
  rw [zeros, zeros, List.length_set]
  refine List.countP_congr fun k _ => ?_
  rw [isZ, isZ]
  by_cases e : k = h
  · subst e
    rw [List.getElem?_set_self hl, hp]; simp [h0, hx]
  · rw [List.getElem?_set_ne (fun h => e h.symm)]
theorem zeros_less {P : List Pt} {h : Nat} {p : Pt} {x : Int} (hp : P[h]? = some p) (h0 : p.size = 0) (hx : x ≠ 0) : zeros (P.set h { p with size := x }) + 1 = zeros P := by
  have hl := (List.getElem?_eq_some_iff.1 hp).1
  rw [zeros, zeros, List.length_set]
  refine countP_one hl (fun k hk hne => ?_) ?_ ?_
  · rw [isZ, isZ, List.getElem?_set_ne (fun h => hne h.symm)]
  · rw [isZ, hp]; simpa using h0
  · rw [isZ, List.getElem?_set_self hl]; simpa using hx
theorem szL_append (a b : List T) : T.sz.szL (a ++ b) = T.sz.szL a + T.sz.szL b := by
  induction a with
  | nil => rw [List.nil_append, T.szL_nil]; omega
  | cons t a ih => rw [List.cons_append, T.szL_cons, T.szL_cons, ih]; omega
theorem measL_ok {n : Nat} (ih : ∀ P k, WFp P → k < P.length → SizeInv P → zeros P < n → MR n P k) (h : Nat) : ∀ (l pre : List Nat) (ts : List T) (s : Int) (P : List Pt) (ph : Pt) (N0 : Nat), P[h]? = some ph → ph.size = -1 → ph.like = h → ph.args = pre ++ l → madeL (madeF P N0) pre = some ts →
    s = min (1 + (T.sz.szL ts : Int)) 121 → WFp P → SizeInv P → zeros P < n →
    ∃ m P', measL (measF n) h l s P = some (m, P') ∧ SameM P P' ∧ SizeInv P' ∧ zeros P' ≤ zeros P ∧ Done P h m ∧ (∀ (j : Nat) (p p' : Pt), j ≠ h → P[j]? = some p → P'[j]? = some p' → p.size ≠ 0 → p'.size = p.size) ∧
      ∀ ρ, Rank P ρ → (∀ (j : Nat) (p : Pt), P[j]? = some p → p.size = -1 → ρ h ≤ ρ j) → m ≠ -1 ∧ ∀ (j : Nat) (p' : Pt), P'[j]? = some p' → p'.size = -1 → j ≠ h ∧ ∃ p, P[j]? = some p ∧ p.size = -1 := by
  intro l
  induction l with
  | nil =>
    intro pre ts s P ph N0 hh hs hlk hargs hm hse hw hi hz
    rw [List.append_nil] at hargs
    rw [← hargs] at hm
    have hmade := madeF_of hw hh hlk hm
    have hl := (List.getElem?_eq_some_iff.1 hh).1
    have hsz : ((⟨ph.v, ph.f, ts⟩ : T).sz : Int) = 1 + T.sz.szL ts := by rw [T.sz_eq]; simp
    have hs1 : 1 ≤ s ∧ s ≤ 121 := by omega
    have hsm := SameM.set hh s
    refine ⟨s, _, by rw [measL, hh], hsm, fun k p hp => ?_, by rw [zeros_set hh (by omega) (by omega)]; exact Nat.le_refl _, Or.inr ⟨hs1.1, hs1.2, N0 + 1, _, hmade, by rw [hsz]; exact hse⟩, fun j p p' hj h1 h2 _ => ?_, fun ρ _ _ => ⟨by omega, fun j p' h1 h2 => ?_⟩⟩
    · by_cases e : k = h
      · subst e
        rw [List.getElem?_set_self hl] at hp; cases hp
        exact Or.inr (Or.inr ⟨hs1.1, hs1.2, N0 + 1, _, by rw [hsm.madeE]; exact hmade, by rw [hsz]; exact hse⟩)
      · rw [List.getElem?_set_ne (fun h => e h.symm)] at hp
        rcases hi k p hp with h1 | h1 | ⟨h1, h2, n', t, h3, h4⟩
        · exact Or.inl h1
        · exact Or.inr (Or.inl h1)
        · exact Or.inr (Or.inr ⟨h1, h2, n', t, by rw [hsm.madeE]; exact h3, h4⟩)
    · rw [List.getElem?_set_ne (fun h => hj h.symm), h1] at h2; cases h2; rfl
    · by_cases e : j = h
      · subst e
        rw [List.getElem?_set_self hl] at h1; cases h1
        exact absurd h2 (show ¬ s = -1 by omega)
      · rw [List.getElem?_set_ne (fun h => e h.symm)] at h1
        exact ⟨e, p', h1, h2⟩
  | cons a l ihl =>
    intro pre ts s P ph N0 hh hs hlk hargs hm hse hw hi hz
    have hl := (List.getElem?_eq_some_iff.1 hh).1
    have hah : a ∈ ph.args := by rw [hargs]; simp
    have hal : a < P.length := by have := hw.args h ph hh a hah; omega
    obtain ⟨m, P1, g1, g2, g3, g4, g5, g6, g7⟩ := ih P a hw hal hi hz
    rcases g5 with g5 | ⟨k1, k2, n1, t, k3, k4⟩
    · subst g5
      refine ⟨-1, P1, by rw [measL, g1]; rfl, g2, g3, g4, Or.inl rfl, fun j p p' _ => g6 j p p', fun ρ hρ hin => ?_⟩
      exact absurd rfl (g7 ρ hρ (fun j p h1 h2 => Nat.lt_of_lt_of_le (hρ.2 h ph a hh hah) (hin j p h1 h2))).1
    · obtain ⟨ph1, q1, q2, q3, q4, q5⟩ := g2.at hh
      have q6 := g6 h ph ph1 hh q1 (by omega)
      have hm1 : madeL (madeF P1 (max N0 n1)) (pre ++ [a]) = some (ts ++ [t]) :=
        madeL_snoc (by rw [g2.madeE]; exact madeF_mono k3 (Nat.le_max_right _ _)) (madeL_mono (fun b u hb => by rw [g2.madeE]; exact madeF_mono hb (Nat.le_max_left _ _)) hm)
      have hse1 : min (s + m) 121 = min (1 + (T.sz.szL (ts ++ [t]) : Int)) 121 := by
        rw [szL_append, T.szL_cons, T.szL_nil]
        omega
      obtain ⟨m2, P2, r1, r2, r3, r4, r5, r6, r7⟩ := ihl (pre ++ [a]) (ts ++ [t]) (min (s + m) 121) P1 ph1 (max N0 n1) q1 (q6.trans hs) (q5.trans hlk) (by rw [q4, hargs]; simp) hm1 hse1 (g2.wf hw) g3 (Nat.lt_of_le_of_lt g4 hz)
      refine ⟨m2, P2, ?_, g2.trans r2, r3, Nat.le_trans r4 g4, ?_, fun j p p2 hj h1 h2 h3 => ?_, fun ρ hρ hin => ?_⟩
      · rw [measL, g1]
        simp only [if_neg (show ¬ m = -1 by omega), if_pos (show 0 ≤ m ∧ m ≤ 121 by omega)]
        exact r1
      · rcases r5 with r5 | ⟨u1, u2, n2, t2, u3, u4⟩
        · exact Or.inl r5
        · exact Or.inr ⟨u1, u2, n2, t2, by rw [← g2.madeE]; exact u3, u4⟩
      · obtain ⟨p1, v1, _⟩ := g2.at h1
        have v2 := g6 j p p1 h1 v1 h3
        rw [r6 j p1 p2 hj v1 h2 (by rw [v2]; exact h3), v2]
      · obtain ⟨_, x2⟩ := g7 ρ hρ (fun j p h1 h2 => Nat.lt_of_lt_of_le (hρ.2 h ph a hh hah) (hin j p h1 h2))
        obtain ⟨y1, y2⟩ := r7 ρ (hρ.same g2) (fun j p1 h1 h2 => by
          obtain ⟨p, z1, z2⟩ := x2 j p1 h1 h2
          exact hin j p z1 z2)
        refine ⟨y1, fun j p2 h1 h2 => ?_⟩
        obtain ⟨z1, p1, z2, z3⟩ := y2 j p2 h1 h2
        exact ⟨z1, x2 j p1 z2 z3⟩
theorem meas_ok : ∀ (n : Nat) (P : List Pt) (k : Nat), WFp P → k < P.length → SizeInv P → zeros P < n → MR n P k := by
  intro n
  induction n with
  | zero => intro P k _ _ _ h; omega
  | succ n ih =>
    intro P k hw hk hi hz
    obtain ⟨p, hp, ep⟩ := hd_self hw hk
    have e1 := hd_eq hw hk
    have hl := hd_lt hw hk
    have hmk : ∀ N, madeF P N k = madeF P N (hd P k) := made_hd hw hk hl (hd_hd hw hk).symm
    unfold MR
    by_cases h0 : p.size = 0
    · have hsm := SameM.set hp (-1)
      have hp1 : (P.set (hd P k) { p with size := -1 })[hd P k]? = some { p with size := -1 } := List.getElem?_set_self hl
      obtain ⟨m, P', g1, g2, g3, g4, g5, g6, g7⟩ := measL_ok ih (hd P k) p.args [] [] 1 (P.set (hd P k) { p with size := -1 }) { p with size := -1 } 0 hp1 rfl ep rfl rfl (by rw [T.szL_nil]; omega) (hsm.wf hw) (fun j r hr => by
          by_cases e : j = hd P k
          · subst e; rw [hp1] at hr; cases hr; exact Or.inr (Or.inl rfl)
          · rw [List.getElem?_set_ne (fun h => e h.symm)] at hr
            rcases hi j r hr with h1 | h1 | ⟨h1, h2, n', t, h3, h4⟩
            · exact Or.inl h1
            · exact Or.inr (Or.inl h1)
            · exact Or.inr (Or.inr ⟨h1, h2, n', t, by rw [hsm.madeE]; exact h3, h4⟩)) (by have := zeros_less (x := -1) hp h0 (by omega); omega)
      have hz1 := zeros_less (x := -1) hp h0 (by omega)
      refine ⟨m, P', ?_, hsm.trans g2, g3, by omega, ?_, fun j r r' h1 h2 h3 => ?_, fun ρ hρ hin => ?_⟩
      · rw [measF, e1]
        simp only [hp, if_pos h0]
        exact g1
      · rcases g5 with g5 | ⟨u1, u2, n2, t2, u3, u4⟩
        · exact Or.inl g5
        · exact Or.inr ⟨u1, u2, n2, t2, by rw [hmk, ← hsm.madeE]; exact u3, u4⟩
      · have hj : j ≠ hd P k := fun e => by subst e; rw [hp] at h1; cases h1; exact h3 h0
        exact g6 j r r' hj (by rw [List.getElem?_set_ne (fun h => hj h.symm)]; exact h1) h2 h3
      · have hρk := Rank.hd hw hρ k hk
        obtain ⟨y1, y2⟩ := g7 ρ (hρ.same hsm) (fun j r h1 h2 => by
          by_cases e : j = hd P k
          · rw [e]; exact Nat.le_refl _
          · rw [List.getElem?_set_ne (fun h => e h.symm)] at h1
            have := hin j r h1 h2
            omega)
        refine ⟨y1, fun j r' h1 h2 => ?_⟩
        obtain ⟨z1, r, z2, z3⟩ := y2 j r' h1 h2
        rw [List.getElem?_set_ne (fun h => z1 h.symm)] at z2
        exact ⟨r, z2, z3⟩
    · refine ⟨p.size, P, by rw [measF, e1]; simp only [hp, if_neg h0], rfl, hi, Nat.le_refl _, ?_, fun j r r' h1 h2 _ => by rw [h1] at h2; cases h2; rfl, fun ρ hρ hin => ⟨fun e => ?_, fun j r h1 h2 => ⟨r, h1, h2⟩⟩⟩
      · rcases hi _ p hp with h1 | h1 | ⟨h1, h2, n', t, h3, h4⟩
        · exact absurd h1 h0
        · exact Or.inl h1
        · exact Or.inr ⟨h1, h2, n', t, by rw [hmk]; exact h3, h4⟩
      · have h1 := hin _ p hp e
        have h2 := Rank.hd hw hρ k hk
        omega
end Go.Proofs.YtbkedppkdhfpoabGreat
