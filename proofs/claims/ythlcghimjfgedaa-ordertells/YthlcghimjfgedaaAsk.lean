/- What the program's order asks of two parts, by way of its table: the closures and the first arguments. -/
import Derived.Test.YthlcghimjfgedaaMemo
import Derived.Test.YthlcghimjfgedaaNumbered
namespace Go.Proofs.Ythlcghimjfgedaa
open Go.RowKit

/-- A part: right, numbered, and all of it lies there. -/
structure PA (b : TB) (L : List T) (w : World) (s : T) (i : Nat) (sa spa : Option Addr) : Prop where
  ok : okP b.ar s
  num : L[i]? = some s
  sub : Subs L (i + 1) s.args
  inn : InP b.q w s.args sa
  pl : PL b.q b.q w s.args (i + 1) spa
  sz : s.sz ≤ 1000
theorem PA.kt {b : TB} {L : List T} {w w' : World} {s : T} {i : Nat} {sa spa : Option Addr} (h : PA b L w s i sa spa) (hk : KT b w w') : PA b L w' s i sa spa := ⟨h.ok, h.num, h.sub, InP_kt hk h.inn, PL_kt hk h.pl, h.sz⟩
theorem PA.inl {b : TB} {L : List T} {w : World} {s : T} {i : Nat} {sa spa : Option Addr} (h : PA b L w s i sa spa) : InL w s.args sa := InP_imp (fun _ _ => trivial) h.inn

/-- What greater is to answer, up to a size. -/
def GrUp (b : TB) (n : Nat) : Prop := ∀ (s : T) (i : Nat) (t : T) (j : Nat) (sa : Option Addr) (sc : Nat) (spa : Option Addr) (spc : Nat) (ta : Option Addr) (tc : Nat) (tpa : Option Addr) (tpc : Nat) (w : World), s.sz + t.sz ≤ n → PA b b.PS w s i sa spa → PA b b.PT w t j ta tpa → TabOK b (s.sz + t.sz) w →
    Calls Try.prog 99 #[.slice (some ⟨b.K, 0, none⟩) b.R b.R, .agg #[.int .i64 s.v, .int .i64 s.f, .slice sa s.args.length sc, .int .i64 (i : Int), .slice spa s.args.length spc], .agg #[.int .i64 t.v, .int .i64 t.f, .slice ta t.args.length tc, .int .i64 (j : Int), .slice tpa t.args.length tpc]] w fun e w' =>
      e = .returned (.bool (gt s t)) ∧ GS b (s.sz + t.sz) w w'

theorem below_gs {b : TB} {n : Nat} {w w' : World} (h : Below w.heap.size w w') : GS b n w w' := GS.of_below h

set_option maxRecDepth 100000 in
set_option maxHeartbeats 1000000 in
theorem ask1_any (b : TB) (n : Nat) (hgr : GrUp b n) (a : T) (m : Nat) (t : T) (j : Nat) (aa : Option Addr) (ac : Nat) (apa : Option Addr) (apc : Nat) (ta : Option Addr) (tc : Nat) (tpa : Option Addr) (tpc : Nat) (x y : Nat) (w : World) (hn : a.sz + t.sz ≤ n) (ha : PA b b.PS w a m aa apa) (ht : PA b b.PT w t j ta tpa)
    (hx : w.cell? ⟨x, 0, none⟩ = some (.slice (some ⟨b.K, 0, none⟩) b.R b.R)) (hy : Five w y 0 (.int .i64 t.v) (.int .i64 t.f) (.slice ta t.args.length tc) (.int .i64 (j : Int)) (.slice tpa t.args.length tpc)) (htab : TabOK b n w) :
    Calls Try.prog 129 #[.agg #[.int .i64 a.v, .int .i64 a.f, .slice aa a.args.length ac, .int .i64 (m : Int), .slice apa a.args.length apc], .pointer (some ⟨y, 0, none⟩), .pointer (some ⟨x, 0, none⟩)] w fun e w' =>
      e = .returned (.bool (sameT a t || gt a t)) ∧ GS b n w w' := by
  have hxl := lt_of_cell hx
  have hyl := hy.lt
  have Hy := hide hy
  obtain ⟨y0, y1, y2, y3, y4⟩ := hy
  have HS := hide (fun o1 => treeSame_any a.sz a t aa ac ta tc (w.alloc o1) (Nat.le_refl _) ha.sz (InP_alloc o1 ha.inl) (InP_alloc o1 ht.inl))
  have hzw : w.heap.size < (w.alloc (.cells #[.int .i64 a.v, .int .i64 a.f, .slice aa a.args.length ac, .int .i64 (m : Int), .slice apa a.args.length apc] 135)).heap.size := by simp
  have Hgr := hide hgr
  clear hgr
  go_enter Try.func129, Try.ntmps129
  go_wp2_with fail
  refine (HS.out _).mono ?_
  rintro e w1 ⟨rfl, hb1⟩
  have hbw : Below w.heap.size w w1 := (below1 w _).trans (hb1.mono (by simp))
  have hz1 := hb1.size
  simp at hz1
  obtain ⟨z0, z1, z2, z3, z4⟩ := (Five.of_heap (heap_alloc_new w (.cells #[.int .i64 a.v, .int .i64 a.f, .slice aa a.args.length ac, .int .i64 (m : Int), .slice apa a.args.length apc] 135))).same (hb1.block w.heap.size hzw)
  obtain ⟨u0, u1, u2, u3', u4'⟩ := Hy.out.same (hbw.block y hyl)
  have hx1 : w1.cell? ⟨x, 0, none⟩ = some (.slice (some ⟨b.K, 0, none⟩) b.R b.R) := by rw [hbw.cell (p := ⟨x, 0, none⟩) hxl]; exact hx
  have HG := hide (Hgr.out a m t j aa ac apa apc ta tc tpa tpc w1 hn (ha.kt (KT.of_below hbw)) (ht.kt (KT.of_below hbw)) ((htab.mono hn).gs (GS.of_below hbw)))
  have Hbw := hide hbw
  clear HS hb1 hbw y0 y1 y2 y3 y4 Hgr hzw
  rcases Bool.eq_false_or_eq_true (sameT a t) with hs | hs
  · rw [hs]
    have Hs := hide hs
    clear hs
    go_wp2_with fail
    go_ret
    exact ⟨ret_bool (by rw [Hs.out, Bool.true_or]), GS.of_below Hbw.out⟩
  · rw [hs]
    have Hs := hide hs
    clear hs
    go_wp2_with fail
    refine HG.out.mono ?_
    rintro e w2 ⟨rfl, hg2⟩
    have Hg2 := hide ((GS.of_below Hbw.out).trans (hg2.mono hn))
    clear hg2
    go_wp2_with fail
    go_ret
    exact ⟨ret_bool (by rw [Hs.out, Bool.false_or]), Hg2.out⟩

set_option maxRecDepth 100000 in
set_option maxHeartbeats 1000000 in
theorem ask2_any (b : TB) (n : Nat) (hgr : GrUp b n) (a : T) (m : Nat) (s : T) (i : Nat) (aa : Option Addr) (ac : Nat) (apa : Option Addr) (apc : Nat) (sa : Option Addr) (sc : Nat) (spa : Option Addr) (spc : Nat) (x y : Nat) (w : World) (hn : s.sz + a.sz ≤ n) (ha : PA b b.PT w a m aa apa) (hs : PA b b.PS w s i sa spa)
    (hx : w.cell? ⟨x, 0, none⟩ = some (.slice (some ⟨b.K, 0, none⟩) b.R b.R)) (hy : Five w y 0 (.int .i64 s.v) (.int .i64 s.f) (.slice sa s.args.length sc) (.int .i64 (i : Int)) (.slice spa s.args.length spc)) (htab : TabOK b n w) :
    Calls Try.prog 130 #[.agg #[.int .i64 a.v, .int .i64 a.f, .slice aa a.args.length ac, .int .i64 (m : Int), .slice apa a.args.length apc], .pointer (some ⟨x, 0, none⟩), .pointer (some ⟨y, 0, none⟩)] w fun e w' =>
      e = .returned (.bool (!gt s a)) ∧ GS b n w w' := by
  have hxl := lt_of_cell hx
  have hyl := hy.lt
  obtain ⟨y0, y1, y2, y3, y4⟩ := hy
  have HG := hide (fun o1 => hgr s i a m sa sc spa spc aa ac apa apc (w.alloc o1) hn (hs.kt (KT.of_below (below1 w o1))) (ha.kt (KT.of_below (below1 w o1))) ((htab.mono hn).gs (GS.of_below (below1 w o1))))
  clear hgr
  go_enter Try.func130, Try.ntmps130
  go_wp2_with fail
  refine (HG.out _).mono ?_
  rintro e w2 ⟨rfl, hg2⟩
  have Hg2 := hide ((GS.of_below (below1 w _)).trans (hg2.mono hn))
  clear hg2
  go_wp2_with fail
  go_ret
  exact ⟨rfl, Hg2.out⟩

theorem firstN_step {g : T → T → Bool} : ∀ {k : Nat} {xs ys : List T} {a c : T}, xs[k]? = some a → ys[k]? = some c → (∀ i x y, i < k → xs[i]? = some x → ys[i]? = some y → sameT x y = true) → sameT a c = false → firstN g xs ys = g a c := by
  intro k
  induction k with
  | zero =>
    intro xs ys a c hx hy _ hs
    cases xs with
    | nil => simp at hx
    | cons x xs =>
      cases ys with
      | nil => simp at hy
      | cons y ys =>
        simp at hx hy
        subst hx hy
        show (if sameT x y then firstN g xs ys else g x y) = g x y
        rw [hs]; rfl
  | succ k ih =>
    intro xs ys a c hx hy hall hs
    cases xs with
    | nil => simp at hx
    | cons x xs =>
      cases ys with
      | nil => simp at hy
      | cons y ys =>
        show (if sameT x y then firstN g xs ys else g x y) = g a c
        rw [if_pos (hall 0 x y (by omega) rfl rfl)]
        exact ih (by simpa using hx) (by simpa using hy) (fun i x' y' hi hx' hy' => hall (i + 1) x' y' (by omega) (by simpa using hx') (by simpa using hy')) hs
theorem firstN_all {g : T → T → Bool} : ∀ {xs ys : List T}, (∀ (i : Nat) (x y : T), xs[i]? = some x → ys[i]? = some y → sameT x y = true) → firstN g xs ys = false := by
  intro xs
  induction xs with
  | nil => intro ys _; rfl
  | cons x xs ih =>
    intro ys h
    cases ys with
    | nil => rfl
    | cons y ys =>
      show (if sameT x y then firstN g xs ys else g x y) = false
      rw [if_pos (h 0 x y rfl rfl)]
      exact ih (fun i x' y' hx hy => h (i + 1) x' y' (by simpa using hx) (by simpa using hy))

theorem PA.arg {b : TB} {L : List T} {w : World} {s a : T} {i k : Nat} {sa spa : Option Addr} (h : PA b L w s i sa spa) (hk : s.args[k]? = some a) : a.sz < s.sz ∧ ∃ bb off, spa = some ⟨bb, off, none⟩ ∧ b.q bb ∧
    ∃ m aa ac apa apc, Five w bb (off + k * 5) (.int .i64 a.v) (.int .i64 a.f) (.slice aa a.args.length ac) (.int .i64 ((m : Nat) : Int)) (.slice apa a.args.length apc) ∧ PA b L w a m aa apa := by
  have hlt : k < s.args.length := by
    rcases Nat.lt_or_ge k s.args.length with h | h
    · exact h
    · rw [List.getElem?_eq_none h] at hk; cases hk
  obtain ⟨bb, off, rfl⟩ := PL_some h.pl (by omega)
  obtain ⟨ta, tc, pa, pc, hq, k0, k1, k2, k3, k4, hi, hp⟩ := PL_at h.pl hk
  obtain ⟨s1, s2, _⟩ := h.sub.at hk
  have hm := List.mem_of_getElem? hk
  have hsz := arg_sz hm
  have := h.sz
  exact ⟨hsz, bb, off, rfl, hq, _, ta, tc, pa, pc, ⟨k0, k1, k2, k3, k4⟩, ⟨okL_mem.1 (okP_iff.1 h.ok).2 a hm, s1, s2, hi, hp, by omega⟩⟩

end Go.Proofs.Ythlcghimjfgedaa
