/- The program's putting of a term at a place of a copy. -/
import Derived.Test.YtppeedpmofimhaaOwn
namespace Go.Proofs.Ytppeedpmofimhaa
open Go.RowKit

/-- The term with another one at a place. -/
def putT (u : T) : T → List Int → T
  | _, [] => u
  | t, i :: p => ⟨t.v, t.f, t.args.set i.toNat (match t.args[i.toNat]? with | some c => putT u c p | none => u)⟩

theorem putT_at {u t c : T} {i : Int} {p : List Int} (h : t.args[i.toNat]? = some c) : putT u t (i :: p) = ⟨t.v, t.f, t.args.set i.toNat (putT u c p)⟩ := by
  rw [putT, h]

/-- What is put behind a place that is there. -/
theorem putT_append {u : T} {q : List Int} : ∀ {p : List Int} {t c : T}, atT t p = some c → putT u t (p ++ q) = putT (putT u c q) t p := by
  intro p
  induction p with
  | nil =>
    intro t c h
    simp only [atT, Option.some.injEq] at h
    subst h; rfl
  | cons i p ih =>
    intro t c h
    rw [atT] at h
    by_cases hi : 0 ≤ i ∧ i < t.args.length
    · rw [if_pos hi] at h
      obtain ⟨d, hd, hc⟩ := Option.bind_eq_some_iff.1 h
      rw [List.cons_append, putT_at hd, putT_at hd, ih hc]
    · rw [if_neg hi] at h; cases h

/-- What is owned lies in its own blocks. -/
theorem OwnL_inP {w : World} : ∀ (n : Nat) (ts : List T) (b off : Nat) (B : List Nat), T.sz.szL ts ≤ n → OwnL w ts b off B → InP (fun k => k = b ∨ k ∈ B) w ts (some ⟨b, off, none⟩) := by
  intro n
  induction n with
  | zero =>
    intro ts b off B hn h
    cases ts with
    | nil => exact InP_nil
    | cons t ts => have := t.sz_pos; rw [T.szL_cons] at hn; omega
  | succ n ih =>
    intro ts
    induction ts with
    | nil => intro b off B _ _; exact InP_nil
    | cons t ts iht =>
      intro b off B hn h
      rw [T.szL_cons, T.sz_eq] at hn
      obtain ⟨s, Bt, Br, rfl, h0, h1, h2, hown, hr⟩ := OwnL_cons.1 h
      refine InP_cons.2 ⟨b, off, s, rfl, Or.inl rfl, h0, h1, h2, ?_, InP_imp (fun k hk => ?_) (iht b (off + 3) Br (by omega) hr)⟩
      · rcases Own_iff.1 hown with ⟨h3, rfl, _⟩ | ⟨hne, b', B', rfl, rfl, hfr, h3⟩
        · exact In_iff.2 ⟨none, 0, by rw [h3]; rfl, by rw [h3]; exact InP_nil⟩
        · exact In_iff.2 ⟨_, _, rfl, InP_imp (fun k hk => by rcases hk with rfl | hk <;> simp [*]) (ih t.args b' 0 B' (by omega) h3)⟩
      · rcases hk with rfl | hk
        · exact Or.inl rfl
        · exact Or.inr (List.mem_append_right _ hk)

theorem Own_inP {w : World} {t : T} {s : Value} {B : List Nat} (h : t.Own w s B) : t.In (fun k => k ∈ B) w s := by
  rcases Own_iff.1 h with ⟨h3, rfl, _⟩ | ⟨hne, b', B', rfl, rfl, hfr, h3⟩
  · exact In_iff.2 ⟨none, 0, by rw [h3]; rfl, by rw [h3]; exact InP_nil⟩
  · exact In_iff.2 ⟨_, _, rfl, InP_imp (fun k hk => by rcases hk with rfl | hk <;> simp [*]) (OwnL_inP _ t.args b' 0 B' (Nat.le_refl _) h3)⟩

/-- What is owned lies on in a world that holds what its blocks held. -/
theorem Own_lies {p : Nat → Prop} {w w' : World} {t : T} {s : Value} {B : List Nat} (hp : ∀ k, k ∈ B → p k) (h : t.Own w s B) (hs : ∀ k o v, k ∈ B → w.cell? ⟨k, o, none⟩ = some v → w'.cell? ⟨k, o, none⟩ = some v) : t.In p w' s := by
  obtain ⟨a, cap, rfl, hin⟩ := In_iff.1 (Own_inP h)
  exact In_iff.2 ⟨a, cap, rfl, InP_mono (fun b o v hb hv => ⟨hp b hb, hs b o v hb hv⟩) _ _ _ (Nat.le_refl _) hin⟩

theorem OwnL_lies {p : Nat → Prop} {w w' : World} {ts : List T} : ∀ {b off : Nat} {B : List Nat}, p b → (∀ k, k ∈ B → p k) → OwnL w ts b off B → (∀ o v, off ≤ o → w.cell? ⟨b, o, none⟩ = some v → w'.cell? ⟨b, o, none⟩ = some v) →
    (∀ k o v, k ∈ B → w.cell? ⟨k, o, none⟩ = some v → w'.cell? ⟨k, o, none⟩ = some v) → InP p w' ts (some ⟨b, off, none⟩) := by
  induction ts with
  | nil => intro b off B _ _ _ _ _; exact InP_nil
  | cons t ts ih =>
    intro b off B pb pB h hb hB
    obtain ⟨s, Bt, Br, rfl, h0, h1, h2, hown, hr⟩ := OwnL_cons.1 h
    exact InP_cons.2 ⟨b, off, s, rfl, pb, hb _ _ (Nat.le_refl _) h0, hb _ _ (by omega) h1, hb _ _ (by omega) h2, Own_lies (fun k hk => pB k (List.mem_append_left _ hk)) hown (fun k o v hk => hB k o v (List.mem_append_left _ hk)),
      ih pb (fun k hk => pB k (List.mem_append_right _ hk)) hr (fun o v ho => hb o v (by omega)) (fun k o v hk => hB k o v (List.mem_append_right _ hk))⟩

/-- One of the terms of a list that is owned; and the list with another one in its place. -/
theorem OwnL_split {p : Nat → Prop} {w : World} {ts : List T} : ∀ {b off i : Nat} {B : List Nat} {c : T}, p b → (∀ k, k ∈ B → p k) → OwnL w ts b off B → (b :: B).Nodup → ts[i]? = some c →
    ∃ si Bi, w.cell? ⟨b, off + i * 3, none⟩ = some (.int .i64 c.v) ∧ w.cell? ⟨b, off + i * 3 + 1, none⟩ = some (.int .i64 c.f) ∧ w.cell? ⟨b, off + i * 3 + 2, none⟩ = some si ∧ c.Own w si Bi ∧ (∀ k, k ∈ Bi → k ∈ B) ∧ Bi.Nodup ∧
      ∀ (w' : World) (x : T) (sx : Value), (∀ k o v, k ∉ Bi → ¬ (k = b ∧ off + i * 3 ≤ o ∧ o < off + i * 3 + 3) → w.cell? ⟨k, o, none⟩ = some v → w'.cell? ⟨k, o, none⟩ = some v) →
        w'.cell? ⟨b, off + i * 3, none⟩ = some (.int .i64 x.v) → w'.cell? ⟨b, off + i * 3 + 1, none⟩ = some (.int .i64 x.f) → w'.cell? ⟨b, off + i * 3 + 2, none⟩ = some sx → x.In p w' sx →
        InP p w' (ts.set i x) (some ⟨b, off, none⟩) := by
  induction ts with
  | nil => intro b off i B c _ _ _ _ h; simp at h
  | cons t ts ih =>
    intro b off i B c pb pB h hnd hi
    obtain ⟨s, Bt, Br, rfl, h0, h1, h2, hown, hr⟩ := OwnL_cons.1 h
    rw [List.nodup_cons, List.nodup_append] at hnd
    obtain ⟨hb, hn1, hn2, hdis⟩ := hnd
    cases i with
    | zero =>
      simp at hi; subst hi
      refine ⟨s, Bt, by simpa using h0, by simpa using h1, by simpa using h2, hown, fun k hk => List.mem_append_left _ hk, hn1, ?_⟩
      intro w' x sx hs c0 c1 c2 hin
      simp only [Nat.zero_mul, Nat.add_zero] at hs c0 c1 c2
      refine InP_cons.2 ⟨b, off, sx, rfl, pb, c0, c1, c2, hin, OwnL_lies pb (fun k hk => pB k (List.mem_append_right _ hk)) hr (fun o v ho => hs b o v (fun hm => hb (List.mem_append_left _ hm)) (by omega)) (fun k o v hk => hs k o v (fun hm => hdis k hm k hk rfl) (fun e => ?_))⟩
      exact hb (List.mem_append_right _ (e.1 ▸ hk))
    | succ i =>
      simp at hi
      obtain ⟨si, Bi, g0, g1, g2, gown, gsub, gnd, grest⟩ := ih pb (fun k hk => pB k (List.mem_append_right _ hk)) hr (List.nodup_cons.2 ⟨fun hm => hb (List.mem_append_right _ hm), hn2⟩) hi
      have e : off + (i + 1) * 3 = off + 3 + i * 3 := by omega
      refine ⟨si, Bi, by rw [e]; exact g0, by rw [e]; exact g1, by rw [e]; exact g2, gown, fun k hk => List.mem_append_right _ (gsub k hk), gnd, ?_⟩
      intro w' x sx hs c0 c1 c2 hin
      rw [e] at hs c0 c1 c2
      have hbi : b ∉ Bi := fun hm => hb (List.mem_append_right _ (gsub b hm))
      refine InP_cons.2 ⟨b, off, s, rfl, pb, hs b off _ hbi (by omega) h0, hs b _ _ hbi (by omega) h1, hs b _ _ hbi (by omega) h2, Own_lies (fun k hk => pB k (List.mem_append_left _ hk)) hown (fun k o v hk => hs k o v (fun hm => hdis k hk k (gsub k hm) rfl) (fun e => ?_)), grest w' x sx hs c0 c1 c2 hin⟩
      exact hb (List.mem_append_left _ (e.1 ▸ hk))

/-- On the way to a place: the term that is there, in three cells at pb, po; and what the whole is if another one is stored there. -/
structure Ctx (p : Nat → Prop) (w : World) (m : Nat) (t : T) (place : List Int) (k : Nat) (pb po : Nat) (B : List Nat) (c : T) (s : Value) : Prop where
  at_ : atT t (place.take k) = some c
  c0 : w.cell? ⟨pb, po, none⟩ = some (.int .i64 c.v)
  c1 : w.cell? ⟨pb, po + 1, none⟩ = some (.int .i64 c.f)
  c2 : w.cell? ⟨pb, po + 2, none⟩ = some s
  own : c.Own w s B
  nd : B.Nodup
  nb : pb ∉ B
  hpb : p pb
  hpB : ∀ k, k ∈ B → p k
  fr : ∀ j, w.frozen? ⟨pb, j, none⟩ = false
  put : ∀ (w' : World) (x : T) (sx : Value), (∀ k o v, k ∉ B → ¬ (k = pb ∧ po ≤ o ∧ o < po + 3) → w.cell? ⟨k, o, none⟩ = some v → w'.cell? ⟨k, o, none⟩ = some v) →
    w'.cell? ⟨pb, po, none⟩ = some (.int .i64 x.v) → w'.cell? ⟨pb, po + 1, none⟩ = some (.int .i64 x.f) → w'.cell? ⟨pb, po + 2, none⟩ = some sx → x.In p w' sx →
    ∃ sy, w'.cell? ⟨m, 0, none⟩ = some (.int .i64 (putT x t (place.take k)).v) ∧ w'.cell? ⟨m, 1, none⟩ = some (.int .i64 (putT x t (place.take k)).f) ∧ w'.cell? ⟨m, 2, none⟩ = some sy ∧ (putT x t (place.take k)).In p w' sy

theorem Ctx.start {p : Nat → Prop} {w : World} {m : Nat} {t : T} {place : List Int} {B : List Nat} {s : Value} (h3 : Three w m (.int .i64 t.v) (.int .i64 t.f) s) (hf : ∀ j, w.frozen? ⟨m, j, none⟩ = false) (ho : t.Own w s B) (hn : B.Nodup) (hm : m ∉ B) (pm : p m) (pB : ∀ k, k ∈ B → p k) : Ctx p w m t place 0 m 0 B t s :=
  ⟨rfl, h3.c0, h3.c1, h3.c2, ho, hn, hm, pm, pB, hf, fun _ _ sx _ g0 g1 g2 gin => ⟨sx, g0, g1, g2, gin⟩⟩

theorem Ctx.step {p : Nat → Prop} {w : World} {m : Nat} {t : T} {place : List Int} {k pb po : Nat} {B : List Nat} {c : T} {s : Value} (h : Ctx p w m t place k pb po B c s) (hk : k < place.length) {n : Nat} (hi : place.getD k 0 = (n : Int)) (hn : n < c.args.length) :
    ∃ b c' s' B', s = .slice (some ⟨b, 0, none⟩) c.args.length c.args.length ∧ b ∈ B ∧ (∀ x, x ∈ B' → x ∈ B) ∧ Ctx p w m t place (k + 1) b (n * 3) B' c' s' := by
  obtain ⟨hat, c0, c1, c2, own, nd, nb, pb', pB', fr, put⟩ := h
  rcases Own_iff.1 own with ⟨h3, _, _⟩ | ⟨hne, b, B', rfl, rfl, hfr, h3⟩
  · rw [h3] at hn; simp at hn
  obtain ⟨c', hc'⟩ : ∃ c', c.args[n]? = some c' := ⟨c.args[n], List.getElem?_eq_getElem hn⟩
  obtain ⟨s', Bi, g0, g1, g2, gown, gsub, gnd, grest⟩ := OwnL_split (p := p) (pB' b (by simp)) (fun k hk => pB' k (by simp [hk])) h3 nd hc'
  simp only [Nat.zero_add] at g0 g1 g2 grest
  have hbB : b ∉ B' := (List.nodup_cons.1 nd).1
  have hat' := (atT_step hk hat).1 c' (by rw [hi]; omega) (by rw [hi]; omega) (by rw [hi]; simpa using hc')
  refine ⟨b, c', s', Bi, rfl, by simp, fun x hx => List.mem_cons_of_mem _ (gsub x hx), hat', g0, g1, g2, gown, gnd, fun hm => hbB (gsub b hm), pB' b (by simp), fun k hk => pB' k (by simp [gsub k hk]), hfr, ?_⟩
  intro w' x sx hs e0 e1 e2 hin
  have hsub : ∀ k, k ∉ b :: B' → k ∉ Bi ∧ k ≠ b := fun k hk => ⟨fun hm => hk (List.mem_cons_of_mem _ (gsub k hm)), fun e => hk (by simp [e])⟩
  have hpb := hsub pb nb
  have hx := grest w' x sx hs e0 e1 e2 hin
  have hlen : (c.args.set n x).length = c.args.length := by simp
  obtain ⟨sy, y0, y1, y2, yin⟩ := put w' ⟨c.v, c.f, c.args.set n x⟩ (.slice (some ⟨b, 0, none⟩) c.args.length c.args.length)
    (fun k o v hk' _ hv => hs k o v (hsub k hk').1 (fun e => (hsub k hk').2 e.1) hv)
    (hs pb po _ hpb.1 (fun e => hpb.2 e.1) c0) (hs pb _ _ hpb.1 (fun e => hpb.2 e.1) c1) (hs pb _ _ hpb.1 (fun e => hpb.2 e.1) c2)
    (In_iff.2 ⟨_, c.args.length, by rw [hlen], hx⟩)
  have e : putT x t (place.take (k + 1)) = putT ⟨c.v, c.f, c.args.set n x⟩ t (place.take k) := by
    have hg : place.getD k 0 = place[k] := by rw [List.getD_eq_getElem?_getD, List.getElem?_eq_getElem hk]; rfl
    rw [List.take_add_one, List.getElem?_eq_getElem hk, putT_append hat, ← hg, hi]
    show putT (putT x c [(n : Int)]) t _ = _
    rw [putT_at (i := (n : Int)) (p := []) (c := c') (by simpa using hc')]
    simp [putT]
  rw [e]
  exact ⟨sy, y0, y1, y2, yin⟩

/-- Behind the last store. -/
theorem Ctx.finish {p : Nat → Prop} {w w2 : World} {m : Nat} {t u : T} {place : List Int} {pb po : Nat} {B Bu : List Nat} {c : T} {s su : Value} (h : Ctx p w m t place place.length pb po B c s) (hb : Below w.heap.size w w2) (hu : u.Own w2 su Bu) (hr : ∀ k, k ∈ Bu → w.heap.size ≤ k ∧ p k) :
    ∃ sy, (set3 w2 pb po (.int .i64 u.v) (.int .i64 u.f) su).cell? ⟨m, 0, none⟩ = some (.int .i64 (putT u t place).v) ∧ (set3 w2 pb po (.int .i64 u.v) (.int .i64 u.f) su).cell? ⟨m, 1, none⟩ = some (.int .i64 (putT u t place).f) ∧
      (set3 w2 pb po (.int .i64 u.v) (.int .i64 u.f) su).cell? ⟨m, 2, none⟩ = some sy ∧ (putT u t place).In p (set3 w2 pb po (.int .i64 u.v) (.int .i64 u.f) su) sy := by
  have hpb := lt_of_cell h.c0
  have d0 := h.c0
  have d1 := h.c1
  have d2 := h.c2
  rw [← hb.cell (p := ⟨pb, po, none⟩) hpb] at d0
  rw [← hb.cell (p := ⟨pb, po + 1, none⟩) hpb] at d1
  rw [← hb.cell (p := ⟨pb, po + 2, none⟩) hpb] at d2
  have hsame := set3_same (w := w2) (b := pb) (off := po) (u0 := .int .i64 u.v) (u1 := .int .i64 u.f) (u2 := su) (fun j h1 h2 => by
    have : j = po ∨ j = po + 1 ∨ j = po + 2 := by omega
    rcases this with rfl | rfl | rfl
    · exact ⟨_, d0⟩
    · exact ⟨_, d1⟩
    · exact ⟨_, d2⟩)
  have := h.put (set3 w2 pb po (.int .i64 u.v) (.int .i64 u.f) su) u su (fun k o v _ hno hv => ?_) hsame.1 hsame.2.1 hsame.2.2 (Own_lies (fun k hk => (hr k hk).2) hu (fun k o v hk hv => ?_))
  · rw [List.take_length] at this
    exact this
  · have hk := lt_of_cell hv
    rw [← hb.cell (p := ⟨k, o, none⟩) hk] at hv
    by_cases e : k = pb
    · subst e
      rw [set3_cell (by omega)]; exact hv
    · rw [World.cell?_of_block (w := w2) (a := ⟨k, o, none⟩) (set3_block e)]; exact hv
  · have hne : k ≠ pb := by have := hr k hk; omega
    rw [World.cell?_of_block (w := w2) (a := ⟨k, o, none⟩) (set3_block hne)]; exact hv

set_option maxRecDepth 100000 in
set_option maxHeartbeats 400000 in
theorem put_any (t : T) (a : Option Addr) (cap : Nat) (place : List Int) (pa : Option Addr) (pcap : Nat) (u : T) (a2 : Option Addr) (cap2 : Nat) (w : World) (c : T) (hp : Ints w place pa) (hin : InL w t.args a) (hin2 : InL w u.args a2)
    (hl : place.length ≤ 9223372036854775807) (ht : t.sz ≤ 1000) (hu : u.sz ≤ 1000) (hc : atT t place = some c) :
    Calls Try.prog 66 #[.agg #[.int .i64 t.v, .int .i64 t.f, .slice a t.args.length cap], .slice pa place.length pcap, .agg #[.int .i64 u.v, .int .i64 u.f, .slice a2 u.args.length cap2]] w fun e w' =>
      ∃ a1 cap1, e = .returned (.agg #[.int .i64 (putT u t place).v, .int .i64 (putT u t place).f, .slice a1 (putT u t place).args.length cap1]) ∧ InP (fun k => w.heap.size ≤ k) w' (putT u t place).args a1 ∧ Below w.heap.size w w' := by
  have Hc := hide hc
  clear hc
  go_enter Try.func66, Try.ntmps66
  go_wp2_with fail
  refine (copyOf_any (t.sz + 1) t a cap _ (by omega) ht (InP_alloc _ (InP_alloc _ (InP_alloc _ hin)))).mono ?_
  rintro e w1 ⟨s, B, rfl, hown, hnd, hrg, hb1⟩
  obtain ⟨sa, caps, rfl, hins⟩ := Own_in hown
  have hbw : Below w.heap.size w w1 := (((below1 _ _).alloc (by simp) _).alloc (by simp; omega) _).trans (hb1.mono (by simp; omega))
  have hz1 : w.heap.size + 3 ≤ w1.heap.size := by have := hb1.size; simp at this; omega
  have h3u : Three w1 (w.heap.size + 1) (.int .i64 u.v) (.int .i64 u.f) (.slice a2 u.args.length cap2) := ((Three.new _ (by simp)).alloc _).below hb1
  have h3r : Three w1 (w.heap.size + 1 + 1) (.int .i64 0) (.int .i64 0) (.slice none 0 0) := (Three.new _ (by simp)).below hb1
  simp at hrg
  have hst : ∀ e, Ctx (fun k => w.heap.size + 3 ≤ k) (w1.alloc (.cells #[.int .i64 t.v, .int .i64 t.f, .slice sa t.args.length caps] e)) w1.heap.size t place 0 w1.heap.size 0 B t (.slice sa t.args.length caps) := fun e =>
    Ctx.start (Three.new _ rfl) (fun j => frozen_new j rfl) (Own_mono (fun k hk => Below.heap_alloc _ _ _ (hrg k hk).2) hown) hnd (fun hm => by have := hrg _ hm; omega) hz1 (fun x hx => (hrg x hx).1)
  have Hst := hide hst
  clear hst hown hins hb1
  go_wp2_with fail
  go_loop [8, 10, 15] (fun p _ i => ∃ (k pb po : Nat) (Bk : List Nat) (c : T) (sc : Value), k ≤ place.length ∧ i = .int .i64 k ∧ p = .pointer (some ⟨pb, po, none⟩) ∧ w.heap.size + 3 ≤ pb ∧ (∀ x, x ∈ Bk → w.heap.size + 3 ≤ x) ∧
      Ctx (fun k => w.heap.size + 3 ≤ k) (w1.alloc (.cells #[.int .i64 t.v, .int .i64 t.f, .slice sa t.args.length caps] 27)) w1.heap.size t place k pb po Bk c sc) (fun _ _ i => place.length - (intOf i).toNat)
  case atStart => exact ⟨0, w1.heap.size, 0, B, t, _, Nat.zero_le _, rfl, rfl, hz1, fun x hx => (hrg x hx).1, Hst.out _⟩
  case round =>
    obtain ⟨k, pb, po, Bk, ck, sc, hk, rfl, rfl, hpb, hBk, hctx⟩ := hrel
    have Hctx := hide hctx
    clear hctx
    by_cases hlt : k < place.length
    · obtain ⟨b, off, rfl, hcp⟩ := Ints_some hp (by omega)
      have hck : w1.cell? ⟨b, off + k, none⟩ = some (.int .i64 (place.getD k 0)) := by rw [hbw.cell (p := ⟨b, off + k, none⟩) (lt_of_cell (hcp k hlt))]; exact hcp k hlt
      have hbk := lt_of_cell hck
      have hval : 0 ≤ place.getD k 0 ∧ place.getD k 0 < ck.args.length := by
        rcases Classical.em (0 ≤ place.getD k 0 ∧ place.getD k 0 < ck.args.length) with h | h
        · exact h
        · have := (atT_step hlt Hctx.out.at_).2 h
          rw [Hc.out] at this; cases this
      obtain ⟨n, hn⟩ := Int.eq_ofNat_of_zero_le hval.1
      have hn2 : n < ck.args.length := by omega
      obtain ⟨b', c', s', B', hsc, hbB, hsub, hctx'⟩ := Hctx.out.step hlt hn hn2
      have c2 := Hctx.out.c2
      rw [hsc] at c2
      rw [hn] at hck
      have Hctx' := hide hctx'
      have hb3 := hBk b' hbB
      have hB3 : ∀ x, x ∈ B' → w.heap.size + 3 ≤ x := fun x hx => hBk x (hsub x hx)
      have HB3 := hide hB3
      clear hcp hctx' hsub hbB hB3 hBk hn hval hrg
      go_wp2_with fail
      go_round
      case rel => exact ⟨k + 1, b', n * 3, B', c', s', by omega, by go_num, rfl, hb3, HB3, Hctx'⟩
      case measure => simp [intOf]; omega
    · have hk2 : k = place.length := by omega
      subst hk2
      obtain ⟨e0, e1, e2, _, _, _⟩ := h3u
      have hz2 : w.heap.size + 1 < w1.heap.size := by omega
      go_wp2_with fail
      refine (copyOf_any (u.sz + 1) u a2 cap2 _ (by omega) hu (InP_alloc _ (InP_below hbw hin2))).mono ?_
      rintro e w2 ⟨su, Bu, rfl, hownu, hndu, hrgu, hb2⟩
      obtain ⟨au, capu, rfl, hinu⟩ := Own_in hownu
      obtain ⟨sy, y0, y1, y2, yin⟩ := Hctx.out.finish hb2 hownu (fun x hx => ⟨(hrgu x hx).1, by have := (hrgu x hx).1; simp at this; omega⟩)
      obtain ⟨ay, capy, rfl, yin'⟩ := In_iff.1 yin
      have hpbl := lt_of_cell Hctx.out.c0
      have d0 := Hctx.out.c0
      have d1 := Hctx.out.c1
      have d2 := Hctx.out.c2
      have f0 := Hctx.out.fr po
      have f1 := Hctx.out.fr (po + 1)
      have f2 := Hctx.out.fr (po + 2)
      rw [← hb2.cell (p := ⟨pb, po, none⟩) hpbl] at d0
      rw [← hb2.cell (p := ⟨pb, po + 1, none⟩) hpbl] at d1
      rw [← hb2.cell (p := ⟨pb, po + 2, none⟩) hpbl] at d2
      rw [← hb2.frozen (p := ⟨pb, po, none⟩) hpbl] at f0
      rw [← hb2.frozen (p := ⟨pb, po + 1, none⟩) hpbl] at f1
      rw [← hb2.frozen (p := ⟨pb, po + 2, none⟩) hpbl] at f2
      have h3 : Three (set3 w2 pb po (.int .i64 u.v) (.int .i64 u.f) (.slice au u.args.length capu)) (w.heap.size + 1 + 1) (.int .i64 0) (.int .i64 0) (.slice none 0 0) := ((h3r.alloc _).below hb2).same (set3_block (by omega))
      have H3 := hide h3
      obtain ⟨r0, r1, r2, g0, g1, g2⟩ := h3
      have hbf : Below w.heap.size w (set3 w2 pb po (.int .i64 u.v) (.int .i64 u.f) (.slice au u.args.length capu)) := below_set3 ((hbw.alloc (by omega) _).trans (hb2.mono (by simp; omega))) (by omega) _ _ _
      have Hbf := hide hbf
      have Hy := hide yin'
      clear hbf yin yin' hinu hrgu hndu hownu hrg hBk h3r
      go_wp2_with fail
      exact bodyPost_ret (v := .agg #[.int .i64 (putT u t place).v, .int .i64 (putT u t place).f, .slice ay (putT u t place).args.length capy]) (by simp [results, Try.results66, go_sem, r0, r1, r2]) rfl ⟨ay, capy, rfl, InP_imp (fun k hk => by omega) (InP_same (fun k hk _ => set3_block (by omega)) Hy.out), below_set3 Hbf.out (by omega) _ _ _⟩

end Go.Proofs.Ytppeedpmofimhaa
