/- Texts: the document's own reader: a term, by what reads the terms in it. Texts: the document's own reader: terms whole; ReadTerm. Texts: the document's own reader: what stands at a place. The document's own check of clauses. Texts: terms and clauses are written as the document says: the law. -/
import Derived.BigQuiet
import Derived.Deep.AppendLies
import Derived.Deep.RegionHeld3
import Derived.Test.YtbkedppkdhfpoaaGreatDoorJoined7
namespace Go.Proofs.YtbkedppkdhfpoaaGreatDoor
open Go.RowKit

/-- What the document's reader of a term answers. -/
def AtT (n : Nat) (l : List UInt8) (p : Nat) (w : World) (e : Ending) (w' : World) : Prop :=
  Below w.heap.size w w' ∧ ((∃ (t : T) (q : Nat) (a : Option Addr) (cap : Nat), rdT n (l.drop p) = some (t, l.drop q) ∧ p < q ∧ q ≤ l.length ∧ e = .returned (.tuple #[.agg #[.int .i64 t.v, .int .i64 t.f, .slice a t.args.length cap], .int .i64 q]) ∧ InP (fun k => w.heap.size ≤ k) w' t.args a) ∨
    (rdT n (l.drop p) = none ∧ e = .returned (.tuple #[.agg #[.int .i64 0, .int .i64 0, .slice none 0 0], .int .i64 (-1)])))
theorem drop_at {l : List UInt8} {p : Nat} (h : p < l.length) : l.drop p = l[p] :: l.drop (p + 1) := by rw [List.drop_eq_getElem_cons h]
theorem has_at {l : List UInt8} {p : Nat} {a : UInt8} (h : p < l.length) (e : l[p] = a) : Lib.hasPrefix (l.drop p) [a] = true ∧ Lib.trimPrefix (l.drop p) [a] = l.drop (p + 1) := by
  rw [drop_at h, e]
  exact take_one a _
theorem has_not {l : List UInt8} {p : Nat} {a : UInt8} (h : ∀ h : p < l.length, l[p] ≠ a) : ¬ Lib.hasPrefix (l.drop p) [a] = true := by
  by_cases hp : p < l.length
  · rw [drop_at hp, take_not (h hp)]
    decide
  · rw [List.drop_eq_nil_of_le (by omega)]
    simp [Lib.hasPrefix, List.isPrefixOf]
/-- The arguments that are still to be read, those ahead of them read. -/
def moreA (n : Nat) (l : List UInt8) (ts : List T) (q : Nat) : Option (List T × List UInt8) := if ts = [] then rdA n (l.drop (q + 1)) else rdMore (rdT n) (3 - ts.length) ts (l.drop q)
theorem moreA_none {n : Nat} {l : List UInt8} {ts : List T} {q : Nat} (hts : ts.length ≤ 3) (hq : ts ≠ [] → ∃ h : q < l.length, l[q] = 44) (h : rdT n (l.drop (q + 1)) = none) : moreA n l ts q = none := by
  rw [moreA]
  split
  · rw [rdA, h]; rfl
  · rename_i h0
    obtain ⟨h1, h2⟩ := hq h0
    obtain ⟨h3, h4⟩ := has_at h1 h2
    by_cases h5 : ts.length = 3
    · exact rdMore_full h3 (by omega)
    · rw [rdMore_yes h3 (by omega), h4, h]
      rfl
theorem moreA_full {n : Nat} {l : List UInt8} {ts : List T} {q : Nat} (hts : ts.length = 3) (hq : ts ≠ [] → ∃ h : q < l.length, l[q] = 44) : moreA n l ts q = none := by
  have h0 : ts ≠ [] := by
    intro e
    rw [e] at hts
    cases hts
  obtain ⟨h1, h2⟩ := hq h0
  rw [moreA, if_neg h0]
  exact rdMore_full (has_at h1 h2).1 (by omega)
theorem moreA_step {n : Nat} {l : List UInt8} {ts : List T} {q q2 : Nat} {x : T} (hts : ts.length < 3) (hq : ts ≠ [] → ∃ h : q < l.length, l[q] = 44) (h : rdT n (l.drop (q + 1)) = some (x, l.drop q2)) : moreA n l ts q = rdMore (rdT n) (3 - (ts ++ [x]).length) (ts ++ [x]) (l.drop q2) := by
  rw [moreA, List.length_append, List.length_singleton]
  split
  · rename_i h0
    subst h0
    rw [rdA, h]
    rfl
  · rename_i h0
    obtain ⟨h1, h2⟩ := hq h0
    obtain ⟨h3, h4⟩ := has_at h1 h2
    rw [rdMore_yes h3 (by omega), h4, h, Nat.sub_sub]
    rfl
theorem moreA_end {n k : Nat} {l : List UInt8} {ts : List T} {q : Nat} (h : q < l.length) (e : l[q] = 41) : rdMore (rdT n) k ts (l.drop q) = some (ts, l.drop (q + 1)) := by
  obtain ⟨h3, h4⟩ := has_at h e
  rw [rdMore_no (has_not (fun _ => by rw [e]; decide)), if_pos h3, h4]
theorem moreA_bad {n k : Nat} {l : List UInt8} {ts : List T} {q : Nat} (h1 : ∀ h : q < l.length, l[q] ≠ 44) (h2 : ∀ h : q < l.length, l[q] ≠ 41) : rdMore (rdT n) k ts (l.drop q) = none := by
  rw [rdMore_no (has_not h1), if_neg (has_not h2)]
theorem Outs_blk {base : Nat} {w w' : World} {v : Value} {ts : List T} (h : Outs (fun _ => False) base w v ts) (hs : ∀ k, base ≤ k → k < w.heap.size → w'.heap[k]? = w.heap[k]?) : Outs (fun _ => False) base w' v ts :=
  Outs_same h (fun k hk hlt => hs k (by rcases hk with hk | hk; exact hk.elim; exact hk) hlt)
theorem ba_at {l : List UInt8} {q : Nat} (h : q < l.length) : (⟨l.toArray⟩ : ByteArray)[q]'(by show q < l.toArray.size; simp; omega) = l[q] := by
  show l.toArray[q]'_ = l[q]
  simp
theorem byte_ne {c : UInt8} {k : Nat} (hk : k < 256) (h : c ≠ UInt8.ofNat k) : ((c.toNat : Int) != (k : Int)) = true := by
  rw [bne_iff_ne]
  intro e
  exact h (UInt8.toNat_inj.1 (by rw [UInt8.toNat_ofNat']; omega))
theorem Three.put2 {w : World} {b : Nat} {v0 v1 v2 : Value} (h : Three w b v0 v1 v2) (u : Value) : Three (w.setCell ⟨b, 2, none⟩ u) b v0 v1 u := by
  obtain ⟨c0, c1, c2, f0, f1, f2⟩ := h
  refine ⟨?_, ?_, World.cell?_setCell_same _ _ _ c2, ?_, ?_, ?_⟩
  · rw [World.cell?_setCell_other _ _ _ _ (by simp)]; exact c0
  · rw [World.cell?_setCell_other _ _ _ _ (by simp)]; exact c1
  · rw [World.frozen?_setCell]; exact f0
  · rw [World.frozen?_setCell]; exact f1
  · rw [World.frozen?_setCell]; exact f2
attribute [local go_sem ↓] Go.wp_at_zero Go.wp_at_succ
set_option maxRecDepth 100000 in
set_option maxHeartbeats 4000000 in
theorem termAt_step (n : Nat) (l : List UInt8) (hl : l.length ≤ 3000) (p : Nat) (hp : p ≤ l.length) (w : World)
    (hT : ∀ (q : Nat) (w' : World), p < q → q ≤ l.length → Calls Tryz.prog 36 #[.string ⟨l.toArray⟩, .int .i64 q] w' (AtT n l q w')) :
    Calls Tryz.prog 36 #[.string ⟨l.toArray⟩, .int .i64 p] w (AtT (n + 1) l p w) := by
  obtain ⟨W1, hW1⟩ : ∃ W1, W1 = w.alloc (.cells #[.int .i64 0, .int .i64 0, .slice none 0 0] 27) := ⟨_, rfl⟩
  have hbW : Below w.heap.size w W1 := by rw [hW1]; exact below1 _ _
  have hz1 : W1.heap.size = w.heap.size + 1 := by rw [hW1]; simp
  have H3 := hide (show Three W1 w.heap.size (.int .i64 0) (.int .i64 0) (.slice none 0 0) by rw [hW1]; exact Three.new _ rfl)
  have HT := hide hT
  have HbW := hide hbW
  have Hz1 := hide hz1
  have HW1 := hide hW1
  clear hT hbW hz1 hW1
  go_enter Tryz.func36, Tryz.ntmps36
  go_upto_region 1 with fail
  rw [← HW1.out]
  by_cases hlt : p < l.length
  · have hI : ¬ ((l.length : Int) ≤ p) := by omega
    have hI' : (p : Int) < l.length := by omega
    have hp0 : (0 : Int) ≤ p := by omega
    obtain ⟨c, hc⟩ : ∃ c, c = l[p] := ⟨_, rfl⟩
    have hx := ba_at hlt
    rw [← hc] at hx
    have Hc := hide hc.symm
    have hN := numberAt_any l (p + 1) (by omega) hl W1
    have e1 : ((p + 1 : Nat) : Int) = (p : Int) + 1 := by omega
    rw [e1] at hN
    have HN := hide hN
    clear hc hN e1
    obtain ⟨q0, q1, q2, f0, f1, f2⟩ := H3.out
    by_cases hX : c = 88
    · subst hX
      obtain ⟨hh1, hh2⟩ := has_at hlt Hc.out
      have HR : Hid (rdT (n + 1) (l.drop p) = (rdNum (l.drop (p + 1))).bind fun x => if 0 < x.1 then some (⟨x.1, 0, []⟩, x.2) else none) := by
        show _ = _
        rw [rdT, if_pos hh1, hh2]
      clear hh1 hh2
      go_wp2_with fail
      refine HN.out.mono ?_
      rintro e w2 ⟨⟨v, q, hr, hv0, hv1, hpq, hql, rfl⟩ | ⟨hr, q, rfl⟩, hw2⟩
      · obtain rfl := hw2.symm
        have hvn : ¬ v < 0 := by omega
        by_cases hv : v = 0
        · subst hv
          obtain ⟨d0, d1, d2, -, -, -⟩ := H3.out.set (.int .i64 0) (.int .i64 0) (.slice none 0 0)
          have Hno := hide (show rdT (n + 1) (l.drop p) = none by rw [HR.out, hr]; rfl)
          clear hr
          go_wp2_with fail
          exact bodyPost_ret (v := .tuple #[.agg #[.int .i64 0, .int .i64 0, .slice none 0 0], .int .i64 (-1)]) (by simp [results, Tryz.results36, go_sem, d0, d1, d2]) rfl ⟨bel3 HbW.out (Nat.le_refl _) _ _ _, Or.inr ⟨Hno.out, rfl⟩⟩
        · have hvb : (v == 0) = false := by rw [beq_eq_false_iff_ne]; exact hv
          obtain ⟨d0, d1, d2, -, -, -⟩ := H3.out.set (.int .i64 v) (.int .i64 0) (.slice none 0 0)
          have Hyes := hide (show rdT (n + 1) (l.drop p) = some (⟨v, 0, []⟩, l.drop q) by
            rw [HR.out, hr]
            show (if 0 < v then _ else _) = _
            rw [if_pos (by omega)])
          clear hr hv
          go_wp2_with fail
          exact bodyPost_ret (v := .tuple #[.agg #[.int .i64 v, .int .i64 0, .slice none 0 0], .int .i64 q]) (by simp [results, Tryz.results36, go_sem, d0, d1, d2]) rfl ⟨bel3 HbW.out (Nat.le_refl _) _ _ _, Or.inl ⟨⟨v, 0, []⟩, q, none, 0, Hyes.out, by omega, hql, rfl, InP_nil⟩⟩
      · obtain rfl := hw2.symm
        obtain ⟨d0, d1, d2, -, -, -⟩ := H3.out.set (.int .i64 0) (.int .i64 0) (.slice none 0 0)
        have Hno := hide (show rdT (n + 1) (l.drop p) = none by rw [HR.out, hr]; rfl)
        clear hr
        go_wp2_with fail
        exact bodyPost_ret (v := .tuple #[.agg #[.int .i64 0, .int .i64 0, .slice none 0 0], .int .i64 (-1)]) (by simp [results, Tryz.results36, go_sem, d0, d1, d2]) rfl ⟨bel3 HbW.out (Nat.le_refl _) _ _ _, Or.inr ⟨Hno.out, rfl⟩⟩
    · by_cases hF : c = 102
      · subst hF
        obtain ⟨hh1, hh2⟩ := has_at hlt Hc.out
        have HR : Hid (rdT (n + 1) (l.drop p) = (rdNum (l.drop (p + 1))).bind fun x => if Lib.hasPrefix x.2 [40] then (rdT n (Lib.trimPrefix x.2 [40])).bind fun y => (rdMore (rdT n) 2 [y.1] y.2).bind fun z => some (⟨0, x.1, z.1⟩, z.2) else some (⟨0, x.1, []⟩, x.2)) := by
          show _ = _
          rw [rdT, if_neg (has_not (fun h => by rw [Hc.out]; decide)), if_pos hh1, hh2]
        clear hh1 hh2 hX
        go_wp2_with fail
        refine HN.out.mono ?_
        rintro e w2 ⟨⟨v, q, hr, hv0, hv1, hpq, hql, rfl⟩ | ⟨hr, q, rfl⟩, hw2⟩
        · obtain rfl := hw2.symm
          have hvn : ¬ v < 0 := by omega
          obtain ⟨W2, hW2⟩ : ∃ W2, W2 = W1.alloc (.cells #[.int .i64 0, .int .i64 v, .slice none 0 0] 27) := ⟨_, rfl⟩
          have hb2 : Below W1.heap.size W1 W2 := by rw [hW2]; exact below1 _ _
          have hz2 : W2.heap.size = W1.heap.size + 1 := by rw [hW2]; simp
          have H32 := hide (H3.out.below hb2)
          have HB2 := hide (show Three W2 W1.heap.size (.int .i64 0) (.int .i64 v) (.slice none 0 0) by rw [hW2]; exact Three.new _ rfl)
          have HR2 : Hid (rdT (n + 1) (l.drop p) = if Lib.hasPrefix (l.drop q) [40] then (rdT n (Lib.trimPrefix (l.drop q) [40])).bind fun y => (rdMore (rdT n) 2 [y.1] y.2).bind fun z => some (⟨0, v, z.1⟩, z.2) else some (⟨0, v, []⟩, l.drop q)) := by
            show _ = _
            rw [HR.out, hr]
            rfl
          have Hf2 := hide (HbW.out.trans (hb2.mono (by have := Hz1.out; omega)))
          have HW2 := hide hW2
          have Hz2 := hide hz2
          clear hr HR hW2 hb2 hz2 q0 q1 q2 f0 f1 f2 HN
          go_upto_region 11 with fail
          rw [← HW2.out]
          obtain ⟨q0, q1, q2, f0, f1, f2⟩ := H32.out
          obtain ⟨r0, r1, r2, -, -, -⟩ := HB2.out
          by_cases hopen : ∃ h : q < l.length, l[q] = 40
          · obtain ⟨hq, hqc⟩ := hopen
            have hqI : ¬ ((l.length : Int) ≤ q) := by omega
            have hqI' : (q : Int) < l.length := by omega
            have hq0 : (0 : Int) ≤ q := by omega
            have hxq := ba_at hq
            rw [hqc] at hxq
            obtain ⟨hh1, hh2⟩ := has_at hq hqc
            have HM : Hid (rdT (n + 1) (l.drop p) = (moreA n l [] q).bind fun z => some (⟨0, v, z.1⟩, z.2)) := by
              show _ = _
              rw [HR2.out, if_pos hh1, hh2, moreA, if_pos rfl, rdA, Option.bind_assoc]
            have HO2 : Hid (Outs (fun _ => False) W2.heap.size W2 (.slice none 0 0) []) := Outs_nil
            have hz12 := Hz2.out
            have HzW := hide (show w.heap.size < W1.heap.size ∧ W1.heap.size < W2.heap.size by have := Hz1.out; omega)
            obtain ⟨ti, hi, hzi⟩ := Option.map_eq_some_iff.1 infoT
            simp only [Prod.mk.injEq] at hzi
            obtain ⟨hzi0, hzi1, hzi2⟩ := hzi
            clear hh1 hh2 hqc HR2 hz12 r0 r1 r2 f0 f1 f2 q0 q1 q2
            go_wp2_with fail
            go_loopw [7] (fun qv wr => ∃ (ts : List T) (q : Nat) (lv : Value), qv = .int .i64 q ∧ p < q ∧ q < l.length ∧ ts.length ≤ 3 ∧ Hid (ts ≠ [] → ∃ h : q < l.length, l[q] = 44) ∧ Hid (Three wr w.heap.size (.int .i64 0) (.int .i64 0) (.slice none 0 0)) ∧ Hid (Three wr W1.heap.size (.int .i64 0) (.int .i64 v) lv) ∧ Hid (Outs (fun _ => False) W2.heap.size wr lv ts) ∧ Hid (Below w.heap.size w wr) ∧ Hid (W2.heap.size ≤ wr.heap.size) ∧ Hid (rdT (n + 1) (l.drop p) = (moreA n l ts q).bind fun z => some (⟨0, v, z.1⟩, z.2))) (fun qv _ => l.length - (intOf qv).toNat)
            case atStart => exact ⟨[], q, .slice none 0 0, rfl, by omega, hq, by simp, (fun h => absurd rfl h), H32.out, HB2.out, HO2.out, Hf2.out, Nat.le_refl _, HM.out⟩
            case round =>
              clear hqI hqI' hq0 hxq HM HO2 H32 HB2 Hf2 hpq hql hq
              obtain ⟨ts, q, lv, rfl, hpq, hq, hts, Hcm, HA, HB, HO, Hbw, Hzw, HM⟩ := hrel
              obtain ⟨la, lc, rfl⟩ : ∃ la lc, lv = .slice la ts.length lc := by
                obtain ⟨xs, hx, -⟩ := HO.out
                exact own_shape hx
              have hTq := HT.out (q + 1) wr (by omega) (by omega)
              have e1 : ((q + 1 : Nat) : Int) = (q : Int) + 1 := by omega
              rw [e1] at hTq
              have HTq := hide hTq
              clear hTq e1
              go_wp2_with fail
              refine HTq.out.mono ?_
              rintro e w4 ⟨hb4, ⟨x, q2, a4, cap4, hx4, hq2, hq2l, rfl, hin4⟩ | ⟨hx4, rfl⟩⟩
              · have hz4 := hb4.size
                have hzw := Hzw.out
                obtain ⟨W5, hW5⟩ : ∃ W5, W5 = w4.alloc (.cells #[.int .i64 x.v, .int .i64 x.f, .slice a4 x.args.length cap4] 27) := ⟨_, rfl⟩
                have hb5 : Below w4.heap.size w4 W5 := by rw [hW5]; exact below1 _ _
                have hz5 : W5.heap.size = w4.heap.size + 1 := by rw [hW5]; simp
                have hb15 : Below wr.heap.size wr W5 := hb4.trans (hb5.mono hz4)
                have HA5 := hide (HA.out.below hb15)
                have HB5 := hide (HB.out.below hb15)
                have HX5 := hide (show Three W5 w4.heap.size (.int .i64 x.v) (.int .i64 x.f) (.slice a4 x.args.length cap4) by rw [hW5]; exact Three.new _ rfl)
                have HO5 := hide (Outs_below HO.out hb15)
                have Hin5 := hide (InP_below hb5 hin4)
                have Hbw5 := hide (Hbw.out.trans (hb15.mono Hbw.out.size))
                have hqn : ¬ ((q2 : Int) < 0) := by omega
                have Hx4 := hide hx4
                have HW5 := hide hW5
                have Hz5 := hide hz5
                have hol0 : ∀ g, (Value.slice la ts.length lc).ownBlock = some g → g < wr.heap.size := by
                  obtain ⟨xs, hx, -⟩ := HO.out
                  exact fun g hg => (own_lt hx g hg).2
                clear hW5 hz5 hb4 hin4 hx4 HTq
                go_upto_region 14 with fail
                rw [← HW5.out]
                obtain ⟨p0, p1, p2, pf0, pf1, pf2⟩ := HB5.out
                obtain ⟨y0, y1, y2, -, -, -⟩ := HX5.out
                obtain ⟨xs, hown, hkids⟩ := HO5.out
                have hol := own_lt hown
                obtain ⟨W6, hW6⟩ : ∃ W6, W6 = W5.alloc (.cells #[.int .i64 x.v, .int .i64 x.f, .slice a4 x.args.length cap4] 27) := ⟨_, rfl⟩
                have hb6 : Below W5.heap.size W5 W6 := by rw [hW6]; exact below1 _ _
                have hz6 : W6.heap.size = W5.heap.size + 1 := by rw [hW6]; simp
                have Hown6 := hide (own_same (w' := W6) hown (fun g hg => hb6.block g (hol g hg).2))
                have Hk6 := hide (Kids_mono (w' := W6) (fun k hk hlt => ⟨hk, hb6.block k hlt⟩) hkids)
                have Hc6 := hide (show InP (fun k => (False ∨ W2.heap.size ≤ k) ∧ (Value.slice la ts.length lc).ownBlock ≠ some k) W6 x.args a4 from InP_below hb6 (InP_imp (fun k (hk : wr.heap.size ≤ k) => ⟨Or.inr (by omega), fun e => by have := hol0 k e; omega⟩) Hin5.out))
                have HA6 := hide (HA5.out.below hb6)
                have HB6 := hide (HB5.out.below hb6)
                have Hbw6 := hide (Hbw5.out.trans (hb6.mono Hbw5.out.size))
                have Hol := hide hol
                have HW6 := hide hW6
                have Hz6 := hide hz6
                have Hn6 := hide (show ∀ j u, [Value.int .i64 x.v, .int .i64 x.f, .slice a4 x.args.length cap4][j]? = some u → W6.cell? ((⟨W5.heap.size, 0, none⟩ : Addr).add j) = some u by rw [hW6]; exact World.news_of_block (heap_alloc_new W5 _))
                clear hW6 hb6 hz6 hown hkids hol hol0
                go_wp2_with (at_builtin; rw [← HW6.out]; go_must (refine wpList_append_lies _ rfl (.tmp 73) (.tmp 75) 25 rfl W2.heap.size 27 ti (.agg #[.int .i64 0, .int .i64 0, .slice none 0 0]) 3 40 Tryz.underlying25 hi hzi0 hzi1 hzi2 rfl (by decide) (.slice la ts.length lc) ts.length xs rfl Hown6.out ⟨W5.heap.size, 0, none⟩ 1 1 [.int .i64 x.v, .int .i64 x.f, .slice a4 x.args.length cap4] rfl rfl Hn6.out (by simp [Value.oneCell']) (by decide) (by unfold maxLen; omega) (by omega) (by have := Hz6.out; have := Hz5.out; omega) _ rfl ?_))
                intro g capg wD hownD hgrD hatD hltD
                have HOD := hide (Outs_step Hk6.out Hc6.out hownD hgrD hatD)
                have hzD := hgrD.size
                have HkD : Hid (∀ k, k < W6.heap.size → (k = w.heap.size ∨ k = W1.heap.size) → wD.heap[k]? = W6.heap[k]?) := fun k hk hkk => hgrD.block k hk (fun e => by have := (Hol.out k e.symm).1; have := HzW.out; omega)
                have HAD := hide (HA6.out.same (HkD.out _ HA6.out.lt (Or.inl rfl)))
                have HBD := hide (HB6.out.same (HkD.out _ HB6.out.lt (Or.inr rfl)))
                have HbwD := hide (Hbw6.out.grown hgrD Hbw6.out.size (fun j hj => by have := (Hol.out j hj).1; have := HzW.out; omega))
                obtain ⟨wE, hwE⟩ : ∃ wE, wE = wD.setCell ⟨W1.heap.size, 2, none⟩ (.slice (some ⟨g, 0, none⟩) (ts.length + 1) capg) := ⟨_, rfl⟩
                have hneE : ∀ k, k ≠ W1.heap.size → wE.heap[k]? = wD.heap[k]? := fun k h => by rw [hwE]; exact Below.heap_setCell _ _ _ _ h
                have hzE : wE.heap.size = wD.heap.size := by rw [hwE]; simp [World.setCell]
                have HAE := hide (HAD.out.same (hneE _ (by have := HzW.out; omega)))
                have HBE := hide (show Three wE W1.heap.size (.int .i64 0) (.int .i64 v) (.slice (some ⟨g, 0, none⟩) (ts.length + 1) capg) by rw [hwE]; exact HBD.out.put2 _)
                have HOE := hide (Outs_blk HOD.out (fun k hk _ => hneE k (by have := HzW.out; omega)))
                have HbwE := hide (show Below w.heap.size w wE by rw [hwE]; exact HbwD.out.setCell (p := ⟨W1.heap.size, 2, none⟩) (by have := HzW.out; show w.heap.size ≤ W1.heap.size; omega) _)
                have HzE := hide (show W2.heap.size ≤ wE.heap.size by have := Hz6.out; have := Hz5.out; omega)
                have HwE := hide hwE
                clear hownD hgrD hatD hltD hwE hneE hzE hzD p0 p1 p2 pf0 pf1 pf2 y0 y1 y2
                obtain ⟨-, -, p2, -, -, pf2⟩ := HBD.out
                go_upto_region 17 with fail
                rw [← HwE.out]
                clear p2 pf2 HAD HBD HOD HbwD HkD
                obtain ⟨a0, a1, a2, af0, af1, af2⟩ := HAE.out
                obtain ⟨b0, b1, b2, -, -, -⟩ := HBE.out
                by_cases h3 : ts.length = 3
                · have g3 : (3 : Int) < (ts.length : Int) + 1 := by omega
                  have Hno : Hid (rdT (n + 1) (l.drop p) = none) := by show _ = _; rw [HM.out, moreA_full h3 Hcm.out]; rfl
                  obtain ⟨d0, d1, d2, -, -, -⟩ := HAE.out.set (.int .i64 0) (.int .i64 0) (.slice none 0 0)
                  clear h3
                  go_wp2_with fail
                  exact bodyPost_ret (v := .tuple #[.agg #[.int .i64 0, .int .i64 0, .slice none 0 0], .int .i64 (-1)]) (by simp [results, Tryz.results36, go_sem, d0, d1, d2]) rfl ⟨bel3 HbwE.out (Nat.le_refl _) _ _ _, Or.inr ⟨Hno.out, rfl⟩⟩
                · have g3 : ¬ (3 : Int) < (ts.length : Int) + 1 := by omega
                  have Hst : Hid (rdT (n + 1) (l.drop p) = (rdMore (rdT n) (3 - (ts ++ [x]).length) (ts ++ [x]) (l.drop q2)).bind fun z => some (⟨0, v, z.1⟩, z.2)) := by
                    show _ = _
                    rw [HM.out, moreA_step (by omega) Hcm.out Hx4.out]
                  have hl' : ts.length + 1 ≤ 3 := by omega
                  clear h3
                  by_cases hl2 : q2 < l.length
                  · have hqI : ¬ ((l.length : Int) ≤ q2) := by omega
                    have hqI' : (q2 : Int) < l.length := by omega
                    have hq0 : (0 : Int) ≤ q2 := by omega
                    have hxq := ba_at hl2
                    by_cases h44 : l[q2] = 44
                    · have Hcm2 : Hid ((ts ++ [x]) ≠ [] → ∃ h : q2 < l.length, l[q2] = 44) := fun _ => ⟨hl2, h44⟩
                      have HM2 : Hid (rdT (n + 1) (l.drop p) = (moreA n l (ts ++ [x]) q2).bind fun z => some (⟨0, v, z.1⟩, z.2)) := by
                        show _ = _
                        rw [Hst.out, moreA, if_neg (by simp)]
                      rw [h44] at hxq
                      clear h44 Hst HM
                      go_wp2_with fail
                      go_roundw
                      case rel => exact ⟨ts ++ [x], q2, .slice (some ⟨g, 0, none⟩) (ts.length + 1) capg, rfl, by omega, hl2, by simp; omega, Hcm2, HAE, HBE, HOE, HbwE, HzE, HM2⟩
                      case measure => simp [intOf]; omega
                    · by_cases h41 : l[q2] = 41
                      · have Hyes : Hid (rdT (n + 1) (l.drop p) = some (⟨0, v, ts ++ [x]⟩, l.drop (q2 + 1))) := by
                          show _ = _
                          rw [Hst.out, moreA_end hl2 h41]
                          rfl
                        rw [h41] at hxq
                        obtain ⟨d0, d1, d2, -, -, -⟩ := HAE.out.set (.int .i64 0) (.int .i64 v) (.slice (some ⟨g, 0, none⟩) (ts.length + 1) capg)
                        obtain ⟨a9, cap9, he, hin9⟩ := Outs_end HOE.out
                        have ha9 : a9 = some ⟨g, 0, none⟩ := by simp only [Value.slice.injEq] at he; exact he.1.symm
                        subst ha9
                        have Hin9 := hide hin9
                        have e1 : ((q2 + 1 : Nat) : Int) = (q2 : Int) + 1 := by omega
                        have He1 := hide e1
                        clear h44 h41 Hst HM he hin9 e1
                        go_wp2_with fail
                        refine bodyPost_ret (v := .tuple #[.agg #[.int .i64 0, .int .i64 v, .slice (some ⟨g, 0, none⟩) (ts.length + 1) capg], .int .i64 ((q2 : Int) + 1)]) (by simp [results, Tryz.results36, go_sem, d0, d1, d2]) rfl ⟨bel3 HbwE.out (Nat.le_refl _) _ _ _, Or.inl ⟨⟨0, v, ts ++ [x]⟩, q2 + 1, some ⟨g, 0, none⟩, capg, Hyes.out, by omega, by omega, ?_, ?_⟩⟩
                        · rw [He1.out]
                          simp
                        · have := HzW.out
                          exact InP_imp (fun k hk => by rcases hk with hk | hk; exact hk.elim; omega) (InP_same (fun k hk _ => blk3 (by rcases hk with hk | hk; exact hk.elim; omega)) Hin9.out)
                      · have Hno : Hid (rdT (n + 1) (l.drop p) = none) := by
                          show _ = _
                          rw [Hst.out, moreA_bad (fun _ => h44) (fun _ => h41)]
                          rfl
                        have g4 : ((l[q2].toNat : Int) != 44) = true := byte_ne (k := 44) (by decide) h44
                        have g5 : ((l[q2].toNat : Int) != 41) = true := byte_ne (k := 41) (by decide) h41
                        obtain ⟨d0, d1, d2, -, -, -⟩ := HAE.out.set (.int .i64 0) (.int .i64 0) (.slice none 0 0)
                        clear h44 h41 Hst HM
                        go_wp2_with fail
                        exact bodyPost_ret (v := .tuple #[.agg #[.int .i64 0, .int .i64 0, .slice none 0 0], .int .i64 (-1)]) (by simp [results, Tryz.results36, go_sem, d0, d1, d2]) rfl ⟨bel3 HbwE.out (Nat.le_refl _) _ _ _, Or.inr ⟨Hno.out, rfl⟩⟩
                  · have hqI : (l.length : Int) ≤ q2 := by omega
                    have Hno : Hid (rdT (n + 1) (l.drop p) = none) := by
                      show _ = _
                      rw [Hst.out, moreA_bad (fun h => absurd h hl2) (fun h => absurd h hl2)]
                      rfl
                    obtain ⟨d0, d1, d2, -, -, -⟩ := HAE.out.set (.int .i64 0) (.int .i64 0) (.slice none 0 0)
                    clear hl2 Hst HM
                    go_wp2_with fail
                    exact bodyPost_ret (v := .tuple #[.agg #[.int .i64 0, .int .i64 0, .slice none 0 0], .int .i64 (-1)]) (by simp [results, Tryz.results36, go_sem, d0, d1, d2]) rfl ⟨bel3 HbwE.out (Nat.le_refl _) _ _ _, Or.inr ⟨Hno.out, rfl⟩⟩
              · obtain ⟨W5, hW5⟩ : ∃ W5, W5 = w4.alloc (.cells #[.int .i64 0, .int .i64 0, .slice none 0 0] 27) := ⟨_, rfl⟩
                have hb5 : Below wr.heap.size wr W5 := by rw [hW5]; exact hb4.trans ((below1 _ _).mono hb4.size)
                have HA5 := hide (HA.out.below hb5)
                have HbwE := hide (Hbw.out.trans (hb5.mono Hbw.out.size))
                have Hno : Hid (rdT (n + 1) (l.drop p) = none) := by
                  show _ = _
                  rw [HM.out, moreA_none hts Hcm.out hx4]
                  rfl
                have HW5 := hide hW5
                clear hW5 hb5 hb4 hx4 HM
                obtain ⟨d0, d1, d2, -, -, -⟩ := HA5.out.set (.int .i64 0) (.int .i64 0) (.slice none 0 0)
                go_upto_region 14 with fail
                rw [← HW5.out]
                obtain ⟨a0, a1, a2, af0, af1, af2⟩ := HA5.out
                go_wp2_with fail
                exact bodyPost_ret (v := .tuple #[.agg #[.int .i64 0, .int .i64 0, .slice none 0 0], .int .i64 (-1)]) (by simp [results, Tryz.results36, go_sem, d0, d1, d2]) rfl ⟨bel3 HbwE.out (Nat.le_refl _) _ _ _, Or.inr ⟨Hno.out, rfl⟩⟩
          · have Hyes : Hid (rdT (n + 1) (l.drop p) = some (⟨0, v, []⟩, l.drop q)) := by
              show _ = _
              rw [HR2.out, if_neg (has_not (fun h e => hopen ⟨h, e⟩))]
            obtain ⟨d0, d1, d2, -, -, -⟩ := H32.out.set (.int .i64 0) (.int .i64 v) (.slice none 0 0)
            by_cases hq : q < l.length
            · have hqI : ¬ ((l.length : Int) ≤ q) := by omega
              have hqI' : (q : Int) < l.length := by omega
              have hq0 : (0 : Int) ≤ q := by omega
              have hxq := ba_at hq
              have g3 : ((l[q].toNat : Int) != 40) = true := byte_ne (k := 40) (by decide) (fun e => hopen ⟨hq, e⟩)
              clear hopen
              go_wp2_with fail
              exact bodyPost_ret (v := .tuple #[.agg #[.int .i64 0, .int .i64 v, .slice none 0 0], .int .i64 q]) (by simp [results, Tryz.results36, go_sem, d0, d1, d2]) rfl ⟨bel3 Hf2.out (Nat.le_refl _) _ _ _, Or.inl ⟨⟨0, v, []⟩, q, none, 0, Hyes.out, by omega, hql, rfl, InP_nil⟩⟩
            · have hqI : (l.length : Int) ≤ q := by omega
              clear hopen
              go_wp2_with fail
              exact bodyPost_ret (v := .tuple #[.agg #[.int .i64 0, .int .i64 v, .slice none 0 0], .int .i64 q]) (by simp [results, Tryz.results36, go_sem, d0, d1, d2]) rfl ⟨bel3 Hf2.out (Nat.le_refl _) _ _ _, Or.inl ⟨⟨0, v, []⟩, q, none, 0, Hyes.out, by omega, hql, rfl, InP_nil⟩⟩
        · obtain rfl := hw2.symm
          obtain ⟨d0, d1, d2, -, -, -⟩ := H3.out.set (.int .i64 0) (.int .i64 0) (.slice none 0 0)
          have Hno := hide (show rdT (n + 1) (l.drop p) = none by rw [HR.out, hr]; rfl)
          clear hr
          go_wp2_with fail
          exact bodyPost_ret (v := .tuple #[.agg #[.int .i64 0, .int .i64 0, .slice none 0 0], .int .i64 (-1)]) (by simp [results, Tryz.results36, go_sem, d0, d1, d2]) rfl ⟨bel3 HbW.out (Nat.le_refl _) _ _ _, Or.inr ⟨Hno.out, rfl⟩⟩
      · have g1 : ((c.toNat : Int) != 88) = true := byte_ne (k := 88) (by decide) hX
        have g2 : ((c.toNat : Int) != 102) = true := byte_ne (k := 102) (by decide) hF
        obtain ⟨d0, d1, d2, -, -, -⟩ := H3.out.set (.int .i64 0) (.int .i64 0) (.slice none 0 0)
        have Hno : Hid (rdT (n + 1) (l.drop p) = none) := by
          show _ = _
          rw [rdT, if_neg (has_not (fun h => by rw [Hc.out]; exact hX)), if_neg (has_not (fun h => by rw [Hc.out]; exact hF))]
        clear hX hF
        go_wp2_with fail
        exact bodyPost_ret (v := .tuple #[.agg #[.int .i64 0, .int .i64 0, .slice none 0 0], .int .i64 (-1)]) (by simp [results, Tryz.results36, go_sem, d0, d1, d2]) rfl ⟨bel3 HbW.out (Nat.le_refl _) _ _ _, Or.inr ⟨Hno.out, rfl⟩⟩
  · have hI : (l.length : Int) ≤ p := by omega
    obtain ⟨q0, q1, q2, f0, f1, f2⟩ := H3.out
    obtain ⟨d0, d1, d2, -, -, -⟩ := H3.out.set (.int .i64 0) (.int .i64 0) (.slice none 0 0)
    have Hno : Hid (rdT (n + 1) (l.drop p) = none) := by
      show _ = _
      rw [rdT, if_neg (has_not (fun h => absurd h hlt)), if_neg (has_not (fun h => absurd h hlt))]
    clear hlt
    go_wp2_with fail
    exact bodyPost_ret (v := .tuple #[.agg #[.int .i64 0, .int .i64 0, .slice none 0 0], .int .i64 (-1)]) (by simp [results, Tryz.results36, go_sem, d0, d1, d2]) rfl ⟨bel3 HbW.out (Nat.le_refl _) _ _ _, Or.inr ⟨Hno.out, rfl⟩⟩
end Go.Proofs.YtbkedppkdhfpoaaGreatDoor

namespace Go.Proofs.YtbkedppkdhfpoaaGreatDoor
open Go.RowKit

theorem termAt_any (l : List UInt8) (hl : l.length ≤ 3000) : ∀ (n p : Nat) (w : World), l.length - p < n → p ≤ l.length → Calls Tryz.prog 36 #[.string ⟨l.toArray⟩, .int .i64 p] w (AtT n l p w) := by
  intro n
  induction n with
  | zero => intro p w h; exact absurd h (Nat.not_lt_zero _)
  | succ n ih =>
    intro p w hn hp
    exact termAt_step n l hl p hp w (fun q w' hq hql => ih q w' (by omega) hql)
theorem allErr_at {ar : List Int} {t : T} (h : sigErr ar = 0) : allErr ar [t] = termErr ar t := by
  rw [allErr, if_pos h, termsErr, termsErr]
  split
  · rename_i h0; exact h0.symm
  · rfl
theorem drop_nil {l : List UInt8} {q : Nat} (h : q ≤ l.length) : l.drop q = [] ↔ q = l.length := by
  rw [List.drop_eq_nil_iff]
  omega
attribute [local go_sem ↓] Go.wp_at_zero Go.wp_at_succ
set_option maxRecDepth 100000 in
set_option maxHeartbeats 2000000 in
theorem ReadTerm_any (ar : List Int) (ga : Option Addr) (gcap : Nat) (l : List UInt8) (w : World) (hg : Ints w ar ga) :
    Calls Tryz.prog 15 #[.agg #[.slice ga ar.length gcap], .string ⟨l.toArray⟩] w (PtOut (ptErr ar l) (ptT ar l) w) := by
  obtain ⟨W1, hW1⟩ : ∃ W1, W1 = (w.alloc (.cells #[.slice ga ar.length gcap] 24)).alloc (.cells #[.int .i64 0, .int .i64 0, .slice none 0 0] 27) := ⟨_, rfl⟩
  have hbW : Below w.heap.size w W1 := by rw [hW1]; exact below2 _ _ _
  have hz1 : W1.heap.size = w.heap.size + 2 := by rw [hW1]; simp
  have hcg : W1.cell? ⟨w.heap.size, 0, none⟩ = some (.slice ga ar.length gcap) := by rw [hW1, cell_alloc_lt (by simp)]; exact cell_new 0 rfl
  have h3 : Three W1 (w.heap.size + 1) (.int .i64 0) (.int .i64 0) (.slice none 0 0) := by rw [hW1]; exact Three.new _ (by simp)
  have hg1 := Ints_below hbW hg
  have HS := hide (checkSignature_any ar ga gcap W1 hg1)
  have Hg1 := hide hg1
  obtain ⟨E, hE⟩ : ∃ E, E = ptErr ar l := ⟨_, rfl⟩
  obtain ⟨C, hC⟩ : ∃ C, C = ptT ar l := ⟨_, rfl⟩
  rw [← hE, ← hC]
  have HE := hide hE
  have HC := hide hC
  obtain ⟨S, hS⟩ : ∃ S, S = sigErr ar := ⟨_, rfl⟩
  rw [← hS] at HS
  have HSg := hide hS
  have HW1 := hide hW1
  have HbW := hide hbW
  have Hz1 := hide hz1
  have g0 := hcg
  have Hcg := hide hcg
  have H3 := hide h3
  clear hE hC hS hW1 hbW hz1 hg hg1 hcg h3
  go_enter Tryz.func15, Tryz.ntmps15
  go_upto_region 1 with fail
  rw [← HW1.out]
  go_wp2_with fail
  refine HS.out.mono ?_
  rintro e w2 ⟨rfl, hb2⟩
  have Hb2 := hide hb2
  have Hf2 := hide (HbW.out.trans (hb2.mono (by have := Hz1.out; omega)))
  have hz2 := hb2.size
  have H32 := hide (H3.out.below hb2)
  clear hb2 HS g0
  by_cases h0 : S = 0
  · have Hs0 := hide (show sigErr ar = 0 by rw [← HSg.out]; exact h0)
    subst h0
    by_cases hlong : 3000 < l.length
    · obtain rfl : E = 2 := by rw [HE.out, pt_long Hs0.out hlong]
      obtain rfl : C = ⟨0, 0, []⟩ := by rw [HC.out, ptT_err]; rw [← HE.out]; decide
      have hlI : (3000 : Int) < l.length := by omega
      clear HE HC hlong
      obtain ⟨q0, q1, q2, f0, f1, f2⟩ := H32.out
      obtain ⟨d0, d1, d2, -, -, -⟩ := H32.out.set (.int .i64 0) (.int .i64 0) (.slice none 0 0)
      go_wp2_with fail
      exact bodyPost_ret (v := .tuple #[.agg #[.int .i64 0, .int .i64 0, .slice none 0 0], .int .i64 2]) (by simp [results, Tryz.results15, go_sem, d0, d1, d2]) rfl ⟨none, 0, rfl, InP_nil, bel3 Hf2.out (Nat.le_succ _) _ _ _⟩
    · have hshort : l.length ≤ 3000 := by omega
      have hlI : ¬ (3000 : Int) < l.length := by omega
      have HTm := hide (termAt_any l hshort 3001 0 w2 (by omega) (Nat.zero_le _))
      rw [show ((0 : Nat) : Int) = 0 from rfl] at HTm
      clear hlong
      go_wp2_with fail
      refine HTm.out.mono ?_
      rintro e w3 ⟨hb3, ⟨t, q, a, cap, ht, -, hq, rfl, hin⟩ | ⟨ht, rfl⟩⟩
      · obtain ⟨W4, hW4⟩ : ∃ W4, W4 = w3.alloc (.cells #[.int .i64 t.v, .int .i64 t.f, .slice a t.args.length cap] 27) := ⟨_, rfl⟩
        have hb4 : Below w2.heap.size w2 W4 := by rw [hW4]; exact hb3.trans ((below1 _ _).mono hb3.size)
        have Hf4 := hide (Hf2.out.trans (hb4.mono Hf2.out.size))
        have H34 := hide (H32.out.below hb4)
        have HT4 := hide (show Three W4 w3.heap.size (.int .i64 t.v) (.int .i64 t.f) (.slice a t.args.length cap) by rw [hW4]; exact Three.new _ rfl)
        have Hb14 := hide (Hb2.out.trans (hb4.mono Hb2.out.size))
        have Hin4 := hide (show InP (fun k => w2.heap.size ≤ k) W4 t.args a by rw [hW4]; exact InP_alloc _ hin)
        have g4 := cell_below Hb14.out Hcg.out
        rw [List.drop_zero] at ht
        have Ht := hide ht
        have HW4 := hide hW4
        clear hb3 hin ht hW4 hb4 HTm
        go_upto_region 7 with fail
        rw [← HW4.out]
        obtain ⟨q0, q1, q2, f0, f1, f2⟩ := H34.out
        by_cases hql : q = l.length
        · have hqb : ((q : Int) != (l.length : Int)) = false := by rw [hql]; simp
          have Htt : Hid (rdT 3001 l = some (t, [])) := by show _ = _; rw [Ht.out, (drop_nil hq).2 hql]
          have HEs := hide (pt_some Hs0.out hshort Htt.out)
          rw [← HE.out, allErr_at Hs0.out] at HEs
          have HCk := hide (refCheckTerm_any ar ga gcap t a cap W4 (Ints_below Hb14.out Hg1.out) (sig_len Hs0.out) (InP_imp (fun _ _ => trivial) Hin4.out))
          rw [← HEs.out] at HCk
          obtain ⟨y0, y1, y2, -, -, -⟩ := HT4.out
          clear hql
          go_wp2_with fail
          refine HCk.out.mono ?_
          rintro e w5 ⟨rfl, hb5⟩
          have Hb5 := hide hb5
          have Hf5 := hide (Hf4.out.trans (hb5.mono Hf4.out.size))
          have H35 := hide (H34.out.below hb5)
          have HT5 := hide (HT4.out.below hb5)
          clear hb5 HCk q0 q1 q2 f0 f1 f2 y0 y1 y2 g4
          obtain ⟨q0, q1, q2, f0, f1, f2⟩ := H35.out
          obtain ⟨y0, y1, y2, -, -, -⟩ := HT5.out
          by_cases hE0 : E = 0
          · obtain rfl : C = t := by rw [HC.out]; exact ptT_some (by rw [← HE.out]; exact hE0) Htt.out
            subst hE0
            obtain ⟨d0, d1, d2, -, -, -⟩ := H35.out.set (.int .i64 C.v) (.int .i64 C.f) (.slice a C.args.length cap)
            clear HE HEs HC
            go_wp2_with fail
            refine bodyPost_ret (v := .tuple #[.agg #[.int .i64 C.v, .int .i64 C.f, .slice a C.args.length cap], .int .i64 0]) (by simp [results, Tryz.results15, go_sem, d0, d1, d2]) rfl ⟨a, cap, rfl, ?_, bel3 Hf5.out (Nat.le_succ _) _ _ _⟩
            have := Hz1.out
            exact InP_imp (fun k (hk : w2.heap.size ≤ k) => by omega) (InP_same (fun k hk _ => blk3 (by omega)) (InP_below Hb5.out Hin4.out))
          · have h0' : (E != 0) = true := by simpa using hE0
            obtain rfl : C = ⟨0, 0, []⟩ := by rw [HC.out, ptT_err]; rw [← HE.out]; exact hE0
            obtain ⟨d0, d1, d2, -, -, -⟩ := H35.out.set (.int .i64 0) (.int .i64 0) (.slice none 0 0)
            clear hE0 HE HEs HC
            go_wp2_with fail
            exact bodyPost_ret (v := .tuple #[.agg #[.int .i64 0, .int .i64 0, .slice none 0 0], .int .i64 E]) (by simp [results, Tryz.results15, go_sem, d0, d1, d2]) rfl ⟨none, 0, rfl, InP_nil, bel3 Hf5.out (Nat.le_succ _) _ _ _⟩
        · have hqb : ((q : Int) != (l.length : Int)) = true := by rw [bne_iff_ne]; omega
          obtain rfl : E = 1 := by rw [HE.out]; exact pt_more Hs0.out hshort Ht.out (fun h => hql ((drop_nil hq).1 h))
          obtain rfl : C = ⟨0, 0, []⟩ := by rw [HC.out, ptT_err]; rw [← HE.out]; decide
          obtain ⟨d0, d1, d2, -, -, -⟩ := H34.out.set (.int .i64 0) (.int .i64 0) (.slice none 0 0)
          clear hql HE HC
          go_wp2_with fail
          exact bodyPost_ret (v := .tuple #[.agg #[.int .i64 0, .int .i64 0, .slice none 0 0], .int .i64 1]) (by simp [results, Tryz.results15, go_sem, d0, d1, d2]) rfl ⟨none, 0, rfl, InP_nil, bel3 Hf4.out (Nat.le_succ _) _ _ _⟩
      · obtain ⟨W4, hW4⟩ : ∃ W4, W4 = w3.alloc (.cells #[.int .i64 0, .int .i64 0, .slice none 0 0] 27) := ⟨_, rfl⟩
        have hb4 : Below w2.heap.size w2 W4 := by rw [hW4]; exact hb3.trans ((below1 _ _).mono hb3.size)
        have Hf4 := hide (Hf2.out.trans (hb4.mono Hf2.out.size))
        have H34 := hide (H32.out.below hb4)
        rw [List.drop_zero] at ht
        obtain rfl : E = 1 := by rw [HE.out]; exact pt_none Hs0.out hshort ht
        obtain rfl : C = ⟨0, 0, []⟩ := by rw [HC.out, ptT_err]; rw [← HE.out]; decide
        have HW4 := hide hW4
        have hqb : ((-1 : Int) != (l.length : Int)) = true := by rw [bne_iff_ne]; omega
        clear hb3 ht hW4 hb4 HTm HE HC
        go_upto_region 7 with fail
        rw [← HW4.out]
        obtain ⟨q0, q1, q2, f0, f1, f2⟩ := H34.out
        obtain ⟨d0, d1, d2, -, -, -⟩ := H34.out.set (.int .i64 0) (.int .i64 0) (.slice none 0 0)
        go_wp2_with fail
        exact bodyPost_ret (v := .tuple #[.agg #[.int .i64 0, .int .i64 0, .slice none 0 0], .int .i64 1]) (by simp [results, Tryz.results15, go_sem, d0, d1, d2]) rfl ⟨none, 0, rfl, InP_nil, bel3 Hf4.out (Nat.le_succ _) _ _ _⟩
  · have h0' : (S != 0) = true := by simpa using h0
    have hES : E = S := by rw [HE.out, HSg.out]; exact pt_sig (by rw [← HSg.out]; exact h0)
    obtain rfl : C = ⟨0, 0, []⟩ := by rw [HC.out, ptT_err]; rw [← HE.out, hES]; exact h0
    subst hES
    obtain ⟨q0, q1, q2, f0, f1, f2⟩ := H32.out
    obtain ⟨d0, d1, d2, -, -, -⟩ := H32.out.set (.int .i64 0) (.int .i64 0) (.slice none 0 0)
    clear HE HC h0
    go_wp2_with fail
    exact bodyPost_ret (v := .tuple #[.agg #[.int .i64 0, .int .i64 0, .slice none 0 0], .int .i64 E]) (by simp [results, Tryz.results15, go_sem, d0, d1, d2]) rfl ⟨none, 0, rfl, InP_nil, bel3 Hf2.out (Nat.le_succ _) _ _ _⟩
end Go.Proofs.YtbkedppkdhfpoaaGreatDoor

namespace Go.Proofs.YtbkedppkdhfpoaaGreatDoor
open Go.RowKit

theorem cut_at (l : List UInt8) (p m : Nat) : (⟨l.toArray⟩ : ByteArray).extract p (p + m) = ⟨((l.drop p).take m).toArray⟩ := by
  apply ByteArray.ext
  rw [ByteArray.data_extract]
  show l.toArray.extract p (p + m) = _
  rw [List.extract_toArray]
  congr 1
  rw [List.extract_eq_take_drop, Nat.add_sub_cancel_left]
theorem has_take {d x : List UInt8} (h : Lib.hasPrefix d x = true) : d.take x.length = x ∧ x.length ≤ d.length := by
  have e := has_app h
  constructor
  · rw [e, List.take_left' rfl]
  · have := congrArg List.length e
    rw [List.length_append] at this
    omega
theorem take_has {d x : List UInt8} (h : d.take x.length = x) : Lib.hasPrefix d x = true := by
  have e : d = x ++ d.drop x.length := by
    conv => lhs; rw [← List.take_append_drop x.length d, h]
  rw [e]
  exact (take_app x _).1
theorem has_drop {l x : List UInt8} {p : Nat} (h : Lib.hasPrefix (l.drop p) x = true) : Lib.trimPrefix (l.drop p) x = l.drop (p + x.length) ∧ p + x.length ≤ l.length ∨ x = [] := by
  by_cases hx : x = []
  · exact Or.inr hx
  · left
    have h1 := (has_take h).2
    rw [List.length_drop] at h1
    have h2 : 0 < x.length := List.length_pos_iff.2 hx
    refine ⟨?_, by omega⟩
    rw [Lib.trimPrefix, if_pos h, List.drop_drop]
attribute [local go_sem ↓] Go.wp_at_zero Go.wp_at_succ
set_option maxRecDepth 100000 in
set_option maxHeartbeats 1000000 in
theorem stands_any (l x : List UInt8) (p : Nat) (hp : p ≤ l.length) (hl : l.length ≤ 3000) (hx : x.length ≤ 10) (w : World) :
    Calls Tryz.prog 37 #[.string ⟨l.toArray⟩, .int .i64 p, .string ⟨x.toArray⟩] w fun e w' => e = .returned (.bool (Lib.hasPrefix (l.drop p) x)) ∧ w' = w := by
  have hcut := cut_at l p x.length
  have hp0 : (0 : Int) ≤ p := by omega
  obtain ⟨B, hB⟩ : ∃ B, B = Lib.hasPrefix (l.drop p) x := ⟨_, rfl⟩
  rw [← hB]
  by_cases hlt : p + x.length ≤ l.length
  · have hI : (p : Int) + (x.length : Int) ≤ l.length := by omega
    have heq : ((l.drop p).take x.length == x) = B := by
      rw [hB]
      by_cases h : Lib.hasPrefix (l.drop p) x = true
      · rw [h, (has_take h).1]
        exact beq_self_eq_true x
      · have h' : Lib.hasPrefix (l.drop p) x = false := by simpa using h
        rw [h', beq_eq_false_iff_ne]
        exact fun e => h (take_has e)
    clear hB hlt
    go_enter Tryz.func37, Tryz.ntmps37
    go_wp2_with fail
    go_ret
    exact ⟨rfl, rfl⟩
  · have hI : ¬ (p : Int) + (x.length : Int) ≤ l.length := by omega
    obtain rfl : B = false := by
      rw [hB]
      cases h : Lib.hasPrefix (l.drop p) x with
      | false => rfl
      | true =>
        have h1 := (has_take h).2
        rw [List.length_drop] at h1
        omega
    clear hB hlt
    go_enter Tryz.func37, Tryz.ntmps37
    go_wp2_with fail
    go_ret
    exact ⟨rfl, rfl⟩
end Go.Proofs.YtbkedppkdhfpoaaGreatDoor

namespace Go.Proofs.YtbkedppkdhfpoaaGreatDoor
open Go.RowKit

set_option maxRecDepth 100000 in
set_option maxHeartbeats 1000000 in
theorem refCheckClause_any (ar : List Int) (ga : Option Addr) (gcap : Nat) (c : List Lit) (ca : Option Addr) (cc : Nat) (w : World) (hgl : ar.length ≤ 12) (hg : Ints w ar ga) (hl : c.length ≤ 9223372036854775807) (hc : LitsP w c ca) :
    Calls Tryz.prog 9 #[.agg #[.slice ga ar.length gcap], .slice ca c.length cc] w fun e w' => e = .returned (.int .i64 (clauseErr ar c)) ∧ Below w.heap.size w w' := by
  obtain ⟨Z, hZ⟩ : ∃ Z, Z = clauseErr ar c := ⟨_, rfl⟩
  rw [← hZ]
  have HZ := hide hZ
  have Hg := hide hg
  have Hc := hide hc
  clear hZ hg hc
  go_enter Tryz.func9, Tryz.ntmps9
  by_cases h8 : 8 < c.length
  · obtain rfl : Z = 2 := by rw [HZ.out, clauseErr, if_pos h8]
    have e8 : (8 : Int) < c.length := by omega
    clear HZ h8
    go_wp2_with fail
    go_ret
    exact ⟨rfl, below1 _ _⟩
  · have HZ1 : Hid (Z = litsErr ar c) := by show _ = _; rw [HZ.out, clauseErr, if_neg h8]
    have e8 : ¬ (8 : Int) < c.length := by omega
    have cg0 : ∀ o, o = Obj.cells #[.slice ga ar.length gcap] 24 → (w.alloc o).cell? ⟨w.heap.size, 0, none⟩ = some (.slice ga ar.length gcap) := fun o ho => by rw [ho]; exact cell_new 0 rfl
    have Hcg0 := hide (cg0 _ rfl)
    clear HZ cg0
    go_wp2_with fail
    go_loopw [5] (fun i wr => ∃ k : Nat, k ≤ c.length ∧ i = .int .i64 k ∧ Hid (Z = litsErr ar (c.drop k)) ∧ Hid (Below (w.heap.size + 1) (w.alloc (.cells #[.slice ga ar.length gcap] 24)) wr)) (fun i _ => c.length - (intOf i).toNat)
    case atStart => exact ⟨0, Nat.zero_le _, rfl, by rw [List.drop_zero]; exact HZ1, Below.refl _ _⟩
    case round =>
      obtain ⟨k, hk, rfl, Hk, Hbr⟩ := hrel
      have hzr := Hbr.out.size
      rw [World.size_alloc] at hzr
      have Hbw := hide ((below1 w (.cells #[.slice ga ar.length gcap] 24)).trans (Hbr.out.mono (by omega)))
      have cg : wr.cell? ⟨w.heap.size, 0, none⟩ = some (.slice ga ar.length gcap) := by rw [Hbr.out.cell (p := ⟨w.heap.size, 0, none⟩) (by show w.heap.size < w.heap.size + 1; omega)]; exact Hcg0.out
      by_cases hlt : k < c.length
      · obtain ⟨b, off, rfl⟩ := LitsP_some Hc.out (by omega)
        obtain ⟨x, hx⟩ : ∃ x, c[k]? = some x := ⟨c[k], List.getElem?_eq_getElem hlt⟩
        obtain ⟨a1, c1, a2, c2, k0, k1, k2, k3, k4, k5, k6, hi1, hi2⟩ := LitsP_at (LitsP_below Hbw.out Hc.out) hx
        have hst := litsErr_drop (ar := ar) hx
        rw [← Hk.out] at hst
        have q2 : off + k * 7 + 1 + 1 = off + k * 7 + 2 := by omega
        have q3 : off + k * 7 + 1 + 2 = off + k * 7 + 3 := by omega
        have q5 : off + k * 7 + 4 + 1 = off + k * 7 + 5 := by omega
        have q6 : off + k * 7 + 4 + 2 = off + k * 7 + 6 := by omega
        rw [← q2] at k2
        rw [← q3] at k3
        rw [← q5] at k5
        rw [← q6] at k6
        have HC1 := hide (refCheckTerm_any ar ga gcap x.2.1 a1 c1 wr.drew (Ints_below (drewB0 wr) (Ints_below Hbw.out Hg.out)) hgl (InP_below (drewB0 wr) hi1))
        obtain ⟨F1, hF1⟩ : ∃ F, F = termErr ar x.2.1 := ⟨_, rfl⟩
        obtain ⟨F2, hF2⟩ : ∃ F, F = termErr ar x.2.2 := ⟨_, rfl⟩
        rw [← hF1] at HC1 hst
        rw [← hF2] at hst
        have Hst := hide hst
        have HF2 := hide hF2
        have Hi2 := hide hi2
        have hkI : (k : Int) < c.length := by omega
        have hk0 : (0 : Int) ≤ k := by omega
        have hS := hide (fun (w' : World) (hb' : Below wr.heap.size wr w') => (show w'.cell? ⟨w.heap.size, 0, none⟩ = some (.slice ga ar.length gcap) ∧ w'.cell? ⟨b, off + k * 7 + 1, none⟩ = some (.int .i64 x.2.1.v) ∧ w'.cell? ⟨b, off + k * 7 + 1 + 1, none⟩ = some (.int .i64 x.2.1.f) ∧ w'.cell? ⟨b, off + k * 7 + 1 + 2, none⟩ = some (.slice a1 x.2.1.args.length c1) ∧ w'.cell? ⟨b, off + k * 7 + 4, none⟩ = some (.int .i64 x.2.2.v) ∧ w'.cell? ⟨b, off + k * 7 + 4 + 1, none⟩ = some (.int .i64 x.2.2.f) ∧ w'.cell? ⟨b, off + k * 7 + 4 + 2, none⟩ = some (.slice a2 x.2.2.args.length c2) from
          ⟨cellB hb' cg, cellB hb' k1, cellB hb' k2, cellB hb' k3, cellB hb' k4, cellB hb' k5, cellB hb' k6⟩))
        have Hbwr := hide (Below.refl wr.heap.size wr)
        have hS1 := hide (hS.out wr.drew (drewB0 wr))
        have hS0 := hide (hS.out wr Hbwr.out)
        clear hst hx hi1 hi2 hF1 hF2 Hk q2 q3 q5 q6 k0 k1 k2 k3 k4 k5 k6 cg
        go_wp2_with fail
        go_region_held3 (fun w' => w'.cell? ⟨w.heap.size, 0, none⟩ = some (.slice ga ar.length gcap) ∧ w'.cell? ⟨b, off + k * 7 + 1, none⟩ = some (.int .i64 x.2.1.v) ∧ w'.cell? ⟨b, off + k * 7 + 1 + 1, none⟩ = some (.int .i64 x.2.1.f) ∧ w'.cell? ⟨b, off + k * 7 + 1 + 2, none⟩ = some (.slice a1 x.2.1.args.length c1) ∧ w'.cell? ⟨b, off + k * 7 + 4, none⟩ = some (.int .i64 x.2.2.v) ∧ w'.cell? ⟨b, off + k * 7 + 4 + 1, none⟩ = some (.int .i64 x.2.2.f) ∧ w'.cell? ⟨b, off + k * 7 + 4 + 2, none⟩ = some (.slice a2 x.2.2.args.length c2)) ((first | with_reducible exact hS.out _ (Hid.out Hbw2) | with_reducible exact hS1.out | with_reducible exact hS0.out | go_keep)) ((
          go_at_call 24
          refine HC1.out.mono ?_
          rintro e w2 ⟨rfl, hbw2⟩
          have Hbw2 : Hid (Below wr.heap.size wr w2) := (drewB0 wr).trans hbw2))
        clear hS1 hS0 HC1
        have Hb2 := hide (Hbr.out.trans (Hbw2.out.mono hzr))
        have Hbf := hide (Hbw.out.trans (Hbw2.out.mono Hbw.out.size))
        clear hbw2
        by_cases h1 : F1 = 0
        · have Hs2 : Hid (Z = if F2 = 0 then litsErr ar (c.drop (k + 1)) else F2) := by show _ = _; rw [Hst.out, if_pos h1]
          subst h1
          have HC2 := hide (refCheckTerm_any ar ga gcap x.2.2 a2 c2 w2.drew (Ints_below (drewB0 w2) (Ints_below Hbf.out Hg.out)) hgl (InP_below (drewB0 w2) (InP_below Hbw2.out Hi2.out)))
          rw [← HF2.out] at HC2
          have hS1 := hide (hS.out w2.drew (Hbw2.out.trans ((drewB0 w2).mono Hbw2.out.size)))
          have hS0 := hide (hS.out w2 Hbw2.out)
          clear Hst
          go_wp2_with fail
          go_region_held3 (fun w' => w'.cell? ⟨w.heap.size, 0, none⟩ = some (.slice ga ar.length gcap) ∧ w'.cell? ⟨b, off + k * 7 + 1, none⟩ = some (.int .i64 x.2.1.v) ∧ w'.cell? ⟨b, off + k * 7 + 1 + 1, none⟩ = some (.int .i64 x.2.1.f) ∧ w'.cell? ⟨b, off + k * 7 + 1 + 2, none⟩ = some (.slice a1 x.2.1.args.length c1) ∧ w'.cell? ⟨b, off + k * 7 + 4, none⟩ = some (.int .i64 x.2.2.v) ∧ w'.cell? ⟨b, off + k * 7 + 4 + 1, none⟩ = some (.int .i64 x.2.2.f) ∧ w'.cell? ⟨b, off + k * 7 + 4 + 2, none⟩ = some (.slice a2 x.2.2.args.length c2)) ((first | with_reducible exact hS.out _ (Hid.out Hbw3) | with_reducible exact hS1.out | with_reducible exact hS0.out | go_keep)) ((
            go_at_call 24
            refine HC2.out.mono ?_
            rintro e w3 ⟨rfl, hbw3⟩
            have Hbw3 : Hid (Below wr.heap.size wr w3) := Hbw2.out.trans (((drewB0 w2).trans hbw3).mono Hbw2.out.size)))
          clear hS1 hS0 HC2 hbw3
          have Hb3 := hide (Hbr.out.trans (Hbw3.out.mono hzr))
          have Hbf3 := hide (Hbw.out.trans (Hbw3.out.mono Hbw.out.size))
          by_cases h2 : F2 = 0
          · have Hs3 : Hid (Z = litsErr ar (c.drop (k + 1))) := by show _ = _; rw [Hs2.out, if_pos h2]
            subst h2
            clear Hs2
            go_wp2_with fail
            go_roundw
            case rel => exact ⟨k + 1, by omega, by go_num, Hs3, Hb3⟩
            case measure => simp [intOf]; omega
          · have h2b : (F2 != 0) = true := by simpa using h2
            obtain rfl : Z = F2 := by rw [Hs2.out, if_neg h2]
            clear Hs2 h2
            go_wp2_with fail
            go_ret
            exact ⟨rfl, Hbf3.out⟩
        · have h1b : (F1 == 0) = false := by simpa using h1
          have h1c : (F1 != 0) = true := by simpa using h1
          obtain rfl : Z = F1 := by rw [Hst.out, if_neg h1]
          clear Hst h1 hS
          go_wp2_with fail
          go_ret
          exact ⟨rfl, Hbf.out⟩
      · have hk2 : k = c.length := by omega
        subst hk2
        obtain rfl : Z = 0 := by rw [Hk.out, List.drop_length]; rfl
        clear Hk
        go_wp2_with fail
        go_ret
        exact ⟨rfl, Hbw.out⟩

end Go.Proofs.YtbkedppkdhfpoaaGreatDoor

namespace Go.Proofs.YtbkedppkdhfpoaaGreatDoor
open Go.RowKit

theorem tIntsDrew {w : World} {zs : List Int} {a : Option Addr} (h : Ints w zs a) : Ints w.drew zs a := Ints_below (w := w) ⟨rfl, rfl, rfl, Nat.le_refl _, fun _ _ => rfl⟩ h
theorem tchk1 (ar : List Int) (ga : Option Addr) (gcap : Nat) (t : T) (a : Option Addr) (w : World) (hg : Ints w ar ga) (hin : InL w [t] a) :
    Calls Tryz.prog 7 #[.agg #[.slice ga ar.length gcap], .slice a 1 1] w fun e w' => e = .returned (.int .i64 (allErr ar [t])) ∧ Below w.heap.size w w' := refCheckTerms_any ar ga gcap [t] a 1 w hg hin (by simp)
theorem clausesErr_at {ar : List Int} {c : List Lit} (h : sigErr ar = 0) : clausesErr ar [c] = clauseErr ar c := by
  rw [clausesErr, if_pos h, if_neg (by simp), clErr, clErr]
  split
  · rename_i h0; exact h0.symm
  · rfl
attribute [local go_sem ↓] Go.wp_at_zero Go.wp_at_succ
set_option maxRecDepth 100000 in
set_option maxHeartbeats 4000000 in
theorem textWrites_any (ar : List Int) (ga : Option Addr) (gcap : Nat) (t : T) (a : Option Addr) (cap : Nat) (c : List Lit) (ca : Option Addr) (cc : Nat) (w : World) (hcl : c.length ≤ 9223372036854775807) (hg : Ints w ar ga) (htab : Tab w) (hin : InL w t.args a) (hc : LitsP w c ca) :
    Calls Tryz.prog 3 #[.agg #[.slice ga ar.length gcap], .agg #[.int .i64 t.v, .int .i64 t.f, .slice a t.args.length cap], .slice ca c.length cc] w fun e w' => e = .returned (.bool true) ∧ Below w.heap.size w w' := by
  obtain ⟨W1, hW1⟩ : ∃ W1, W1 = (w.alloc (.cells #[.slice ga ar.length gcap] 24)).alloc (.cells #[.int .i64 t.v, .int .i64 t.f, .slice a t.args.length cap] 27) := ⟨_, rfl⟩
  have hbW : Below w.heap.size w W1 := by rw [hW1]; exact below2 _ _ _
  have hz1 : W1.heap.size = w.heap.size + 2 := by rw [hW1]; simp
  have hcg : W1.cell? ⟨w.heap.size, 0, none⟩ = some (.slice ga ar.length gcap) := by rw [hW1, cell_alloc_lt (by simp)]; exact cell_new 0 rfl
  have h3 : Three W1 (w.heap.size + 1) (.int .i64 t.v) (.int .i64 t.f) (.slice a t.args.length cap) := by rw [hW1]; exact Three.new _ (by simp)
  have HS := hide (fun (Y : World) (hb : Below W1.heap.size W1 Y) => (show Y.cell? ⟨w.heap.size, 0, none⟩ = some (.slice ga ar.length gcap) ∧ Y.cell? ⟨w.heap.size + 1, 0, none⟩ = some (.int .i64 t.v) ∧ Y.cell? ⟨w.heap.size + 1, 1, none⟩ = some (.int .i64 t.f) ∧ Y.cell? ⟨w.heap.size + 1, 2, none⟩ = some (.slice a t.args.length cap) from ⟨cell_below hb hcg, (h3.below hb).c0, (h3.below hb).c1, (h3.below hb).c2⟩))
  have HI := hide (fun (Y : World) (hb : Below W1.heap.size W1 Y) => Ints_below hb (Ints_below hbW hg))
  have HN := hide (fun (Y : World) (hb : Below W1.heap.size W1 Y) => (show InL Y t.args a from InP_below hb (InP_below hbW hin)))
  have HT := hide (fun (Y : World) (hb : Below W1.heap.size W1 Y) => Tab_below hb (Tab_below hbW htab))
  have HC := hide (fun (Y : World) (hb : Below W1.heap.size W1 Y) => LitsP_below hb (LitsP_below hbW hc))
  have HF := hide (fun (Y : World) (hb : Below W1.heap.size W1 Y) => hbW.trans (hb.mono (by omega)))
  have HW1 := hide hW1
  have Hz1 := hide hz1
  obtain ⟨E1, hE1⟩ : ∃ E, E = allErr ar [t] := ⟨_, rfl⟩
  obtain ⟨E2, hE2⟩ : ∃ E, E = clausesErr ar [c] := ⟨_, rfl⟩
  obtain ⟨S, hS⟩ : ∃ E, E = sigErr ar := ⟨_, rfl⟩
  obtain ⟨X, hX⟩ : ∃ X, X = (if allErr ar [t] = 0 then textT t else []) := ⟨_, rfl⟩
  obtain ⟨Y, hY⟩ : ∃ Y, Y = (if clausesErr ar [c] = 0 then clauseL c else []) := ⟨_, rfl⟩
  have HE1 := hide hE1
  have HE2 := hide hE2
  have HSg := hide hS
  have HX := hide hX
  have HY := hide hY
  have HTm := hide (tTerm_any ar ga gcap t a cap W1 (HI.out _ (Below.refl _ _)) (HT.out _ (Below.refl _ _)) (HN.out _ (Below.refl _ _)))
  rw [← hX, ← hE1] at HTm
  obtain ⟨g0, t0, t1, t2⟩ := HS.out W1 (Below.refl _ _)
  clear hW1 hbW hz1 hcg h3 hg htab hin hc hE1 hE2 hS hX hY
  go_enter Tryz.func3, Tryz.ntmps3
  go_upto_region 1 with fail
  rw [← HW1.out]
  go_wp2_with fail
  refine HTm.out.mono ?_
  rintro e w2 ⟨rfl, hb2⟩
  have Hb2 := hide hb2
  have HCl := hide (tClause_any ar ga gcap c ca cc w2 hcl (HI.out w2 hb2) (HT.out w2 hb2) (HC.out w2 hb2))
  rw [← HY.out, ← HE2.out] at HCl
  clear hb2 HTm g0 t0 t1 t2
  obtain ⟨g0, -, -, -⟩ := HS.out w2 Hb2.out
  go_wp2_with fail
  refine HCl.out.mono ?_
  rintro e w3 ⟨rfl, hb3⟩
  have Hb3 := hide (Hb2.out.trans (hb3.mono Hb2.out.size))
  clear hb3 HCl Hb2 g0
  obtain ⟨g0, t0, t1, t2⟩ := HS.out w3 Hb3.out
  have hz3 := Hb3.out.size
  go_upto_region 3 with fail
  go_cut [11, 12] (fun v v2 wc => v = .int .i64 E1 ∧ v2 = .int .i64 S ∧ Hid (Below W1.heap.size W1 wc))
  case first =>
    have hgB := HI.out w3 Hb3.out
    have hinT := HN.out w3 Hb3.out
    have hzz : w.heap.size + 2 ≤ w3.heap.size := by have := Hz1.out; omega
    have Hbx : Hid (Below w3.heap.size w3 w3) := Below.refl _ _
    have hSS := hide (fun (Y : World) (hb : Below w3.heap.size w3 Y) => HS.out Y (Hb3.out.trans (hb.mono hz3)))
    have HFF := hide (fun (Y : World) (hb : Below w3.heap.size w3 Y) => Hb3.out.trans (hb.mono hz3))
    clear HC HT HF HX HY HN HI Hb3 HS Hz1
    go_region_held3 (fun w' => w'.cell? ⟨w.heap.size, 0, none⟩ = some (.slice ga ar.length gcap) ∧ w'.cell? ⟨w.heap.size + 1, 0, none⟩ = some (.int .i64 t.v) ∧ w'.cell? ⟨w.heap.size + 1, 1, none⟩ = some (.int .i64 t.f) ∧ w'.cell? ⟨w.heap.size + 1, 2, none⟩ = some (.slice a t.args.length cap)) ((first | (refine hSS.out _ ?_; (repeat' (first | with_reducible exact Hxb.out | with_reducible exact Hxa.out | with_reducible exact Below.refl _ _ | (with_reducible refine Below.drew ?_) | (refine Below.alloc ?_ ?_ _; rotate_left; focus (first | omega | (simp; omega) | (simp; done))))); done) | go_keep)) ((first
      | (go_at_call 7
         with_reducible refine (tchk1 ar ga gcap t _ _ ?_ ?_).mono ?_
         · (repeat' (first | with_reducible exact hgB | with_reducible refine tIntsDrew ?_ | with_reducible refine Ints_alloc _ ?_ | with_reducible refine Ints_below HYb.out ?_))
         · (repeat' (first | with_reducible exact hinT | with_reducible refine in_drew ?_ | (with_reducible refine InP_new1 _ ?_ trivial ?_; focus (first | with_reducible rfl | (simp; done))) | with_reducible refine InP_alloc _ ?_ | with_reducible refine InP_below HYb.out ?_))
         rintro e xa ⟨rfl, hba⟩
         have HYa := hide hba
         have Hxa : Hid (Below w3.heap.size w3 xa) := by
           refine Below.trans (b := _) ?_ (hba.mono ?_)
           · (repeat' (first | with_reducible exact Hxb.out | with_reducible exact Below.refl _ _ | (with_reducible refine Below.drew ?_) | (refine Below.alloc ?_ ?_ _; rotate_left; focus (first | omega | (simp; omega) | (simp; done)))))
           · first | omega | (simp; omega) | (simp; done)
         have hsza := Hxa.out.size
         clear hba)
      | (go_at_call 8
         with_reducible refine (checkSignature_any ar ga gcap _ ?_).mono ?_
         · (repeat' (first | with_reducible exact hgB | with_reducible refine tIntsDrew ?_ | with_reducible refine Ints_alloc _ ?_ | with_reducible refine Ints_below HYa.out ?_))
         rintro e xb ⟨rfl, hbb⟩
         have HYb := hide hbb
         have Hxb : Hid (Below w3.heap.size w3 xb) := by
           refine Below.trans (b := _) ?_ (hbb.mono ?_)
           · (repeat' (first | with_reducible exact Hxa.out | with_reducible exact Below.refl _ _ | (with_reducible refine Below.drew ?_) | (refine Below.alloc ?_ ?_ _; rotate_left; focus (first | omega | (simp; omega) | (simp; done)))))
           · first | omega | (simp; omega) | (simp; done)
         have hszb := Hxb.out.size
         clear hbb)))
    all_goals (go_wp2_with fail; go_meet; exact ⟨by rw [HE1.out], by rw [HSg.out], HFF.out _ (by first | exact Hxb.out | exact Hxa.out)⟩)
  case rest =>
    obtain ⟨rfl, rfl, Hbc⟩ := hcut
    clear Hb3 g0 t0 t1 t2 hz3
    obtain ⟨g0, t0, t1, t2⟩ := HS.out wc Hbc.out
    by_cases hs : S = 0
    case' pos =>
      have hs0 : sigErr ar = 0 := by rw [← HSg.out]; exact hs
      have HCk := hide (refCheckClause_any ar ga gcap c ca cc wc (tsig_len hs0) (HI.out wc Hbc.out) hcl (HC.out wc Hbc.out))
      rw [← clausesErr_at hs0, ← HE2.out] at HCk
      subst hs
      clear hs0
      go_wp2_with fail
      refine HCk.out.mono ?_
      rintro e w4 ⟨rfl, hb4⟩
      have Hb4 := hide (Hbc.out.trans (hb4.mono Hbc.out.size))
      clear hb4 HCk g0 t0 t1 t2 Hbc
    case' neg =>
      have hs0 : sigErr ar ≠ 0 := by rw [← HSg.out]; exact hs
      have hE2 : E2 = S := by rw [HE2.out, HSg.out, clausesErr, if_neg hs0]
      have hE1 : E1 = S := by rw [HE1.out, HSg.out, allErr, if_neg hs0]
      have hs' : (S == 0) = false := by rw [beq_eq_false_iff_ne]; exact hs
      obtain rfl : X = [] := by rw [HX.out, if_neg]; rw [← HE1.out, hE1]; exact hs
      obtain rfl : Y = [] := by rw [HY.out, if_neg]; rw [← HE2.out, hE2]; exact hs
      subst hE1
      subst hE2
      have HBg := hide (textBegun_any _ (HT.out _ Hbc.out))
      clear hs hs0 g0 t0 t1 t2
      go_wp2_with fail
      refine HBg.out.mono ?_
      rintro e w7 ⟨rfl, hb7⟩
      have Hf := hide (HF.out _ (Hbc.out.trans (hb7.mono Hbc.out.size)))
      clear hb7 HBg Hbc
      go_wp2_with fail
      go_ret
      exact ⟨rfl, Hf.out⟩
    all_goals (
      obtain ⟨g0, t0, t1, t2⟩ := HS.out _ Hb4.out
      by_cases hv : E1 = 0
      case' pos =>
        have hv0 : allErr ar [t] = 0 := by rw [← HE1.out]; exact hv
        have hok := (allErr_iff.1 hv0).2 t (by simp)
        have HTt := hide (TermText_any ar (tsig_len (allErr_iff.1 hv0).1) (t.sz + 1) t a cap _ (by omega) (by omega) hok.2 (HN.out _ Hb4.out))
        have hXt : textT t = X := by rw [HX.out, if_pos hv0]
        rw [hXt] at HTt
        subst hv
        clear hv0 hok hXt
        go_wp2_with fail
        refine HTt.out.mono ?_
        rintro e w5 ⟨rfl, hb5⟩
        have Hb5 := hide (Hb4.out.trans (hb5.mono Hb4.out.size))
        clear hb5 HTt g0 t0 t1 t2 Hb4
      case' neg =>
        have hv' : (E1 == 0) = false := by rw [beq_eq_false_iff_ne]; exact hv
        obtain rfl : X = [] := by rw [HX.out, if_neg]; rw [← HE1.out]; exact hv
        have Hb5 := Hb4
        clear hv Hb4
      all_goals (
        by_cases hw : E2 = 0
        case' pos =>
          have hw0 : clausesErr ar [c] = 0 := by rw [← HE2.out]; exact hw
          obtain ⟨hsg, h8, hlo⟩ := clauses_ok hw0
          have HCt := hide (ClauseText_any ar (tsig_len hsg) c ca cc _ hlo h8 (HC.out _ Hb5.out))
          have hYt : clauseL c = Y := by rw [HY.out, if_pos hw0]
          rw [hYt] at HCt
          subst hw
          clear hw0 hsg h8 hlo hYt
          go_wp2_with fail
          refine HCt.out.mono ?_
          rintro e w6 ⟨rfl, hb6⟩
          have Hb6 := hide (Hb5.out.trans (hb6.mono Hb5.out.size))
          clear hb6 HCt Hb5
        case' neg =>
          have hw' : (E2 == 0) = false := by rw [beq_eq_false_iff_ne]; exact hw
          obtain rfl : Y = [] := by rw [HY.out, if_neg]; rw [← HE2.out]; exact hw
          have Hb6 := Hb5
          clear hw Hb5
        all_goals (
          have HBg := hide (textBegun_any _ (HT.out _ Hb6.out))
          go_wp2_with fail
          refine HBg.out.mono ?_
          rintro e w7 ⟨rfl, hb7⟩
          have Hf := hide (HF.out _ (Hb6.out.trans (hb7.mono Hb6.out.size)))
          clear hb7 HBg Hb6
          go_wp2_with fail
          go_ret
          exact ⟨rfl, Hf.out⟩)))
end Go.Proofs.YtbkedppkdhfpoaaGreatDoor
