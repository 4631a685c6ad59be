/- The program's putting of a term at a place of a copy. The statements' own comparison of two terms. The document's own At, and the comparison beside an error. The program's At and Put, against what the document says of them. The contracts of the library that the program calls, laid at this program in plain words. The program's Vars: the variables, sorted, each once. What the statements ask in any case. The walk of the statement on what is put and put back. A list of terms of the call's own, and what lies behind each of them. Rising numbers, each once: whichever way they are made, they are the same. No word of the program here. -/
import Derived.Deep.DeepCutAuto
import Derived.Deep.DrawnRows
import Derived.Deep.RegionHeld3
import Derived.Lib.SlicesCompact
import Derived.Shelf.Slices.CompactI
import Derived.Shelf.Slices.In.SortNone
import Derived.Shelf.Sort.Plain
import Derived.Test.YtbkedppkdhfpoabGreatProg
import Derived.Test.YtbkedppkdhfpoabGreatJoined2
namespace Go.Proofs.YtbkedppkdhfpoabGreat
open Go.RowKit
def putT (u : T) : T → List Int → T
  | _, [] => u
  | t, i :: p => ⟨t.v, t.f, t.args.set i.toNat (match t.args[i.toNat]? with | some c => putT u c p | none => u)⟩
theorem putT_at {u t c : T} {i : Int} {p : List Int} (h : t.args[i.toNat]? = some c) : putT u t (i :: p) = ⟨t.v, t.f, t.args.set i.toNat (putT u c p)⟩ := by
  rw [putT, h]
theorem putT_append {u : T} {q : List Int} : ∀ {p : List Int} {t c : T}, atT t p = some c → putT u t (p ++ q) = putT (putT u c q) t p := by
  intro p
  induction p with
  | nil =>
    intro t c h
    simp only [atT, Option.some.injEq] at h
    subst h; rfl
  | cons i p ih =>
    intro t c h
    rw [atT] at h
    by_cases hi : 0 ≤ i ∧ i < t.args.length
    · rw [if_pos hi] at h
      obtain ⟨d, hd, hc⟩ := Option.bind_eq_some_iff.1 h
      rw [List.cons_append, putT_at hd, putT_at hd, ih hc]
    · rw [if_neg hi] at h; cases h
theorem OwnL_inP {w : World} : ∀ (n : Nat) (ts : List T) (b off : Nat) (B : List Nat), T.sz.szL ts ≤ n → OwnL w ts b off B → InP (fun k => k = b ∨ k ∈ B) w ts (some ⟨b, off, none⟩) := by
  intro n
  induction n with
  | zero =>
    intro ts b off B hn h
    cases ts with
    | nil => exact InP_nil
    | cons t ts => have := t.sz_pos; rw [T.szL_cons] at hn; omega
  | succ n ih =>
    intro ts
    induction ts with
    | nil => intro b off B _ _; exact InP_nil
    | cons t ts iht =>
      intro b off B hn h
      rw [T.szL_cons, T.sz_eq] at hn
      obtain ⟨s, Bt, Br, rfl, h0, h1, h2, hown, hr⟩ := OwnL_cons.1 h
      refine InP_cons.2 ⟨b, off, s, rfl, Or.inl rfl, h0, h1, h2, ?_, InP_imp (fun k hk => ?_) (iht b (off + 3) Br (by omega) hr)⟩
      · rcases Own_iff.1 hown with ⟨h3, rfl, _⟩ | ⟨hne, b', B', rfl, rfl, hfr, h3⟩
        · exact In_iff.2 ⟨none, 0, by rw [h3]; rfl, by rw [h3]; exact InP_nil⟩
        · exact In_iff.2 ⟨_, _, rfl, InP_imp (fun k hk => by rcases hk with rfl | hk <;> simp [*]) (ih t.args b' 0 B' (by omega) h3)⟩
      · rcases hk with rfl | hk
        · exact Or.inl rfl
        · exact Or.inr (List.mem_append_right _ hk)
theorem Own_inP {w : World} {t : T} {s : Value} {B : List Nat} (h : t.Own w s B) : t.In (fun k => k ∈ B) w s := by
  rcases Own_iff.1 h with ⟨h3, rfl, _⟩ | ⟨hne, b', B', rfl, rfl, hfr, h3⟩
  · exact In_iff.2 ⟨none, 0, by rw [h3]; rfl, by rw [h3]; exact InP_nil⟩
  · exact In_iff.2 ⟨_, _, rfl, InP_imp (fun k hk => by rcases hk with rfl | hk <;> simp [*]) (OwnL_inP _ t.args b' 0 B' (Nat.le_refl _) h3)⟩
theorem Own_lies {p : Nat → Prop} {w w' : World} {t : T} {s : Value} {B : List Nat} (hp : ∀ k, k ∈ B → p k) (h : t.Own w s B) (hs : ∀ k o v, k ∈ B → w.cell? ⟨k, o, none⟩ = some v → w'.cell? ⟨k, o, none⟩ = some v) : t.In p w' s := by
  obtain ⟨a, cap, rfl, hin⟩ := In_iff.1 (Own_inP h)
  exact In_iff.2 ⟨a, cap, rfl, InP_mono (fun b o v hb hv => ⟨hp b hb, hs b o v hb hv⟩) _ _ _ (Nat.le_refl _) hin⟩
theorem OwnL_lies {p : Nat → Prop} {w w' : World} {ts : List T} : ∀ {b off : Nat} {B : List Nat}, p b → (∀ k, k ∈ B → p k) → OwnL w ts b off B → (∀ o v, off ≤ o → w.cell? ⟨b, o, none⟩ = some v → w'.cell? ⟨b, o, none⟩ = some v) →
    (∀ k o v, k ∈ B → w.cell? ⟨k, o, none⟩ = some v → w'.cell? ⟨k, o, none⟩ = some v) → InP p w' ts (some ⟨b, off, none⟩) := by
  induction ts with
  | nil => intro b off B _ _ _ _ _; exact InP_nil
  | cons t ts ih =>
    intro b off B pb pB h hb hB
    obtain ⟨s, Bt, Br, rfl, h0, h1, h2, hown, hr⟩ := OwnL_cons.1 h
    exact InP_cons.2 ⟨b, off, s, rfl, pb, hb _ _ (Nat.le_refl _) h0, hb _ _ (by omega) h1, hb _ _ (by omega) h2, Own_lies (fun k hk => pB k (List.mem_append_left _ hk)) hown (fun k o v hk => hB k o v (List.mem_append_left _ hk)),
      ih pb (fun k hk => pB k (List.mem_append_right _ hk)) hr (fun o v ho => hb o v (by omega)) (fun k o v hk => hB k o v (List.mem_append_right _ hk))⟩
theorem OwnL_split {p : Nat → Prop} {w : World} {ts : List T} : ∀ {b off i : Nat} {B : List Nat} {c : T}, p b → (∀ k, k ∈ B → p k) → OwnL w ts b off B → (b :: B).Nodup → ts[i]? = some c →
    ∃ si Bi, w.cell? ⟨b, off + i * 3, none⟩ = some (.int .i64 c.v) ∧ w.cell? ⟨b, off + i * 3 + 1, none⟩ = some (.int .i64 c.f) ∧ w.cell? ⟨b, off + i * 3 + 2, none⟩ = some si ∧ c.Own w si Bi ∧ (∀ k, k ∈ Bi → k ∈ B) ∧ Bi.Nodup ∧
      ∀ (w' : World) (x : T) (sx : Value), (∀ k o v, k ∉ Bi → ¬ (k = b ∧ off + i * 3 ≤ o ∧ o < off + i * 3 + 3) → w.cell? ⟨k, o, none⟩ = some v → w'.cell? ⟨k, o, none⟩ = some v) →
        w'.cell? ⟨b, off + i * 3, none⟩ = some (.int .i64 x.v) → w'.cell? ⟨b, off + i * 3 + 1, none⟩ = some (.int .i64 x.f) → w'.cell? ⟨b, off + i * 3 + 2, none⟩ = some sx → x.In p w' sx →
        InP p w' (ts.set i x) (some ⟨b, off, none⟩) := by
  induction ts with
  | nil => intro b off i B c _ _ _ _ h; simp at h
  | cons t ts ih =>
    intro b off i B c pb pB h hnd hi
    obtain ⟨s, Bt, Br, rfl, h0, h1, h2, hown, hr⟩ := OwnL_cons.1 h
    rw [List.nodup_cons, List.nodup_append] at hnd
    obtain ⟨hb, hn1, hn2, hdis⟩ := hnd
    cases i with
    | zero =>
      simp at hi; subst hi
      refine ⟨s, Bt, by simpa using h0, by simpa using h1, by simpa using h2, hown, fun k hk => List.mem_append_left _ hk, hn1, ?_⟩
      intro w' x sx hs c0 c1 c2 hin
      simp only [Nat.zero_mul, Nat.add_zero] at hs c0 c1 c2
      refine InP_cons.2 ⟨b, off, sx, rfl, pb, c0, c1, c2, hin, OwnL_lies pb (fun k hk => pB k (List.mem_append_right _ hk)) hr (fun o v ho => hs b o v (fun hm => hb (List.mem_append_left _ hm)) (by omega)) (fun k o v hk => hs k o v (fun hm => hdis k hm k hk rfl) (fun e => ?_))⟩
      exact hb (List.mem_append_right _ (e.1 ▸ hk))
    | succ i =>
      simp at hi
      obtain ⟨si, Bi, g0, g1, g2, gown, gsub, gnd, grest⟩ := ih pb (fun k hk => pB k (List.mem_append_right _ hk)) hr (List.nodup_cons.2 ⟨fun hm => hb (List.mem_append_right _ hm), hn2⟩) hi
      have e : off + (i + 1) * 3 = off + 3 + i * 3 := by omega
      refine ⟨si, Bi, by rw [e]; exact g0, by rw [e]; exact g1, by rw [e]; exact g2, gown, fun k hk => List.mem_append_right _ (gsub k hk), gnd, ?_⟩
      intro w' x sx hs c0 c1 c2 hin
      rw [e] at hs c0 c1 c2
      have hbi : b ∉ Bi := fun hm => hb (List.mem_append_right _ (gsub b hm))
      refine InP_cons.2 ⟨b, off, s, rfl, pb, hs b off _ hbi (by omega) h0, hs b _ _ hbi (by omega) h1, hs b _ _ hbi (by omega) h2, Own_lies (fun k hk => pB k (List.mem_append_left _ hk)) hown (fun k o v hk => hs k o v (fun hm => hdis k hk k (gsub k hm) rfl) (fun e => ?_)), grest w' x sx hs c0 c1 c2 hin⟩
      exact hb (List.mem_append_left _ (e.1 ▸ hk))
structure Ctx (p : Nat → Prop) (w : World) (m : Nat) (t : T) (place : List Int) (k : Nat) (pb po : Nat) (B : List Nat) (c : T) (s : Value) : Prop where
  at_ : atT t (place.take k) = some c
  c0 : w.cell? ⟨pb, po, none⟩ = some (.int .i64 c.v)
  c1 : w.cell? ⟨pb, po + 1, none⟩ = some (.int .i64 c.f)
  c2 : w.cell? ⟨pb, po + 2, none⟩ = some s
  own : c.Own w s B
  nd : B.Nodup
  nb : pb ∉ B
  hpb : p pb
  hpB : ∀ k, k ∈ B → p k
  fr : ∀ j, w.frozen? ⟨pb, j, none⟩ = false
  put : ∀ (w' : World) (x : T) (sx : Value), (∀ k o v, k ∉ B → ¬ (k = pb ∧ po ≤ o ∧ o < po + 3) → w.cell? ⟨k, o, none⟩ = some v → w'.cell? ⟨k, o, none⟩ = some v) →
    w'.cell? ⟨pb, po, none⟩ = some (.int .i64 x.v) → w'.cell? ⟨pb, po + 1, none⟩ = some (.int .i64 x.f) → w'.cell? ⟨pb, po + 2, none⟩ = some sx → x.In p w' sx →
    ∃ sy, w'.cell? ⟨m, 0, none⟩ = some (.int .i64 (putT x t (place.take k)).v) ∧ w'.cell? ⟨m, 1, none⟩ = some (.int .i64 (putT x t (place.take k)).f) ∧ w'.cell? ⟨m, 2, none⟩ = some sy ∧ (putT x t (place.take k)).In p w' sy
theorem Ctx.start {p : Nat → Prop} {w : World} {m : Nat} {t : T} {place : List Int} {B : List Nat} {s : Value} (h3 : Three w m (.int .i64 t.v) (.int .i64 t.f) s) (hf : ∀ j, w.frozen? ⟨m, j, none⟩ = false) (ho : t.Own w s B) (hn : B.Nodup) (hm : m ∉ B) (pm : p m) (pB : ∀ k, k ∈ B → p k) : Ctx p w m t place 0 m 0 B t s :=
  ⟨rfl, h3.c0, h3.c1, h3.c2, ho, hn, hm, pm, pB, hf, fun _ _ sx _ g0 g1 g2 gin => ⟨sx, g0, g1, g2, gin⟩⟩
theorem Ctx.step {p : Nat → Prop} {w : World} {m : Nat} {t : T} {place : List Int} {k pb po : Nat} {B : List Nat} {c : T} {s : Value} (h : Ctx p w m t place k pb po B c s) (hk : k < place.length) {n : Nat} (hi : place.getD k 0 = (n : Int)) (hn : n < c.args.length) :
    ∃ b c' s' B', s = .slice (some ⟨b, 0, none⟩) c.args.length c.args.length ∧ b ∈ B ∧ (∀ x, x ∈ B' → x ∈ B) ∧ Ctx p w m t place (k + 1) b (n * 3) B' c' s' := by
  obtain ⟨hat, c0, c1, c2, own, nd, nb, pb', pB', fr, put⟩ := h
  rcases Own_iff.1 own with ⟨h3, _, _⟩ | ⟨hne, b, B', rfl, rfl, hfr, h3⟩
  · rw [h3] at hn; simp at hn
  obtain ⟨c', hc'⟩ : ∃ c', c.args[n]? = some c' := ⟨c.args[n], List.getElem?_eq_getElem hn⟩
  obtain ⟨s', Bi, g0, g1, g2, gown, gsub, gnd, grest⟩ := OwnL_split (p := p) (pB' b (by simp)) (fun k hk => pB' k (by simp [hk])) h3 nd hc'
  simp only [Nat.zero_add] at g0 g1 g2 grest
  have hbB : b ∉ B' := (List.nodup_cons.1 nd).1
  have hat' := (atT_step hk hat).1 c' (by rw [hi]; omega) (by rw [hi]; omega) (by rw [hi]; simpa using hc')
  refine ⟨b, c', s', Bi, rfl, by simp, fun x hx => List.mem_cons_of_mem _ (gsub x hx), hat', g0, g1, g2, gown, gnd, fun hm => hbB (gsub b hm), pB' b (by simp), fun k hk => pB' k (by simp [gsub k hk]), hfr, ?_⟩
  intro w' x sx hs e0 e1 e2 hin
  have hsub : ∀ k, k ∉ b :: B' → k ∉ Bi ∧ k ≠ b := fun k hk => ⟨fun hm => hk (List.mem_cons_of_mem _ (gsub k hm)), fun e => hk (by simp [e])⟩
  have hpb := hsub pb nb
  have hx := grest w' x sx hs e0 e1 e2 hin
  have hlen : (c.args.set n x).length = c.args.length := by simp
  obtain ⟨sy, y0, y1, y2, yin⟩ := put w' ⟨c.v, c.f, c.args.set n x⟩ (.slice (some ⟨b, 0, none⟩) c.args.length c.args.length)
    (fun k o v hk' _ hv => hs k o v (hsub k hk').1 (fun e => (hsub k hk').2 e.1) hv)
    (hs pb po _ hpb.1 (fun e => hpb.2 e.1) c0) (hs pb _ _ hpb.1 (fun e => hpb.2 e.1) c1) (hs pb _ _ hpb.1 (fun e => hpb.2 e.1) c2)
    (In_iff.2 ⟨_, c.args.length, by rw [hlen], hx⟩)
  have e : putT x t (place.take (k + 1)) = putT ⟨c.v, c.f, c.args.set n x⟩ t (place.take k) := by
    have hg : place.getD k 0 = place[k] := by rw [List.getD_eq_getElem?_getD, List.getElem?_eq_getElem hk]; rfl
    rw [List.take_add_one, List.getElem?_eq_getElem hk, putT_append hat, ← hg, hi]
    show putT (putT x c [(n : Int)]) t _ = _
    rw [putT_at (i := (n : Int)) (p := []) (c := c') (by simpa using hc')]
    simp [putT]
  rw [e]
  exact ⟨sy, y0, y1, y2, yin⟩
theorem Ctx.finish {p : Nat → Prop} {w w2 : World} {m : Nat} {t u : T} {place : List Int} {pb po : Nat} {B Bu : List Nat} {c : T} {s su : Value} (h : Ctx p w m t place place.length pb po B c s) (hb : Below w.heap.size w w2) (hu : u.Own w2 su Bu) (hr : ∀ k, k ∈ Bu → w.heap.size ≤ k ∧ p k) :
    ∃ sy, (set3 w2 pb po (.int .i64 u.v) (.int .i64 u.f) su).cell? ⟨m, 0, none⟩ = some (.int .i64 (putT u t place).v) ∧ (set3 w2 pb po (.int .i64 u.v) (.int .i64 u.f) su).cell? ⟨m, 1, none⟩ = some (.int .i64 (putT u t place).f) ∧
      (set3 w2 pb po (.int .i64 u.v) (.int .i64 u.f) su).cell? ⟨m, 2, none⟩ = some sy ∧ (putT u t place).In p (set3 w2 pb po (.int .i64 u.v) (.int .i64 u.f) su) sy := by
  have hpb := lt_of_cell h.c0
  have d0 := h.c0
  have d1 := h.c1
  have d2 := h.c2
  rw [← hb.cell (p := ⟨pb, po, none⟩) hpb] at d0
  rw [← hb.cell (p := ⟨pb, po + 1, none⟩) hpb] at d1
  rw [← hb.cell (p := ⟨pb, po + 2, none⟩) hpb] at d2
  have hsame := set3_same (w := w2) (b := pb) (off := po) (u0 := .int .i64 u.v) (u1 := .int .i64 u.f) (u2 := su) (fun j h1 h2 => by
    have : j = po ∨ j = po + 1 ∨ j = po + 2 := by omega
    rcases this with rfl | rfl | rfl
    · exact ⟨_, d0⟩
    · exact ⟨_, d1⟩
    · exact ⟨_, d2⟩)
  have := h.put (set3 w2 pb po (.int .i64 u.v) (.int .i64 u.f) su) u su (fun k o v _ hno hv => ?_) hsame.1 hsame.2.1 hsame.2.2 (Own_lies (fun k hk => (hr k hk).2) hu (fun k o v hk hv => ?_))
  · rw [List.take_length] at this
    exact this
  · have hk := lt_of_cell hv
    rw [← hb.cell (p := ⟨k, o, none⟩) hk] at hv
    by_cases e : k = pb
    · subst e
      rw [set3_cell (by omega)]; exact hv
    · rw [World.cell?_of_block (w := w2) (a := ⟨k, o, none⟩) (set3_block e)]; exact hv
  · have hne : k ≠ pb := by have := hr k hk; omega
    rw [World.cell?_of_block (w := w2) (a := ⟨k, o, none⟩) (set3_block hne)]; exact hv
set_option maxRecDepth 100000 in
set_option maxHeartbeats 400000 in
theorem put_any (t : T) (a : Option Addr) (cap : Nat) (place : List Int) (pa : Option Addr) (pcap : Nat) (u : T) (a2 : Option Addr) (cap2 : Nat) (w : World) (c : T) (hp : Ints w place pa) (hin : InL w t.args a) (hin2 : InL w u.args a2)
    (hl : place.length ≤ 9223372036854775807) (ht : t.sz ≤ 1000) (hu : u.sz ≤ 1000) (hc : atT t place = some c) :
    Calls Tryz.prog 230 #[.agg #[.int .i64 t.v, .int .i64 t.f, .slice a t.args.length cap], .slice pa place.length pcap, .agg #[.int .i64 u.v, .int .i64 u.f, .slice a2 u.args.length cap2]] w fun e w' =>
      ∃ a1 cap1, e = .returned (.agg #[.int .i64 (putT u t place).v, .int .i64 (putT u t place).f, .slice a1 (putT u t place).args.length cap1]) ∧ InP (fun k => w.heap.size ≤ k) w' (putT u t place).args a1 ∧ Below w.heap.size w w' := by
  have Hc := hide hc
  clear hc
  go_enter Tryz.func230, Tryz.ntmps230
  go_wp2_with fail
  refine (copyOf_any (t.sz + 1) t a cap _ (by omega) ht (InP_alloc _ (InP_alloc _ (InP_alloc _ hin)))).mono ?_
  rintro e w1 ⟨s, B, rfl, hown, hnd, hrg, hb1⟩
  obtain ⟨sa, caps, rfl, hins⟩ := Own_in hown
  have hbw : Below w.heap.size w w1 := (((below1 _ _).alloc (by simp) _).alloc (by simp; omega) _).trans (hb1.mono (by simp; omega))
  have hz1 : w.heap.size + 3 ≤ w1.heap.size := by have := hb1.size; simp at this; omega
  have h3u : Three w1 (w.heap.size + 1) (.int .i64 u.v) (.int .i64 u.f) (.slice a2 u.args.length cap2) := ((Three.new _ (by simp)).alloc _).below hb1
  have h3r : Three w1 (w.heap.size + 1 + 1) (.int .i64 0) (.int .i64 0) (.slice none 0 0) := (Three.new _ (by simp)).below hb1
  simp at hrg
  have hst : ∀ e, Ctx (fun k => w.heap.size + 3 ≤ k) (w1.alloc (.cells #[.int .i64 t.v, .int .i64 t.f, .slice sa t.args.length caps] e)) w1.heap.size t place 0 w1.heap.size 0 B t (.slice sa t.args.length caps) := fun e =>
    Ctx.start (Three.new _ rfl) (fun j => frozen_new j rfl) (Own_mono (fun k hk => Below.heap_alloc _ _ _ (hrg k hk).2) hown) hnd (fun hm => by have := hrg _ hm; omega) hz1 (fun x hx => (hrg x hx).1)
  have Hst := hide hst
  clear hst hown hins hb1
  go_wp2_with fail
  go_loop [8, 10, 15] (fun p _ i => ∃ (k pb po : Nat) (Bk : List Nat) (c : T) (sc : Value), k ≤ place.length ∧ i = .int .i64 k ∧ p = .pointer (some ⟨pb, po, none⟩) ∧ w.heap.size + 3 ≤ pb ∧ (∀ x, x ∈ Bk → w.heap.size + 3 ≤ x) ∧
      Ctx (fun k => w.heap.size + 3 ≤ k) (w1.alloc (.cells #[.int .i64 t.v, .int .i64 t.f, .slice sa t.args.length caps] 77)) w1.heap.size t place k pb po Bk c sc) (fun _ _ i => place.length - (intOf i).toNat)
  case atStart => exact ⟨0, w1.heap.size, 0, B, t, _, Nat.zero_le _, rfl, rfl, hz1, fun x hx => (hrg x hx).1, Hst.out _⟩
  case round =>
    obtain ⟨k, pb, po, Bk, ck, sc, hk, rfl, rfl, hpb, hBk, hctx⟩ := hrel
    have Hctx := hide hctx
    clear hctx
    by_cases hlt : k < place.length
    · obtain ⟨b, off, rfl, hcp⟩ := Ints_some hp (by omega)
      have hck : w1.cell? ⟨b, off + k, none⟩ = some (.int .i64 (place.getD k 0)) := by rw [hbw.cell (p := ⟨b, off + k, none⟩) (lt_of_cell (hcp k hlt))]; exact hcp k hlt
      have hbk := lt_of_cell hck
      have hval : 0 ≤ place.getD k 0 ∧ place.getD k 0 < ck.args.length := by
        rcases Classical.em (0 ≤ place.getD k 0 ∧ place.getD k 0 < ck.args.length) with h | h
        · exact h
        · have := (atT_step hlt Hctx.out.at_).2 h
          rw [Hc.out] at this; cases this
      obtain ⟨n, hn⟩ := Int.eq_ofNat_of_zero_le hval.1
      have hn2 : n < ck.args.length := by omega
      obtain ⟨b', c', s', B', hsc, hbB, hsub, hctx'⟩ := Hctx.out.step hlt hn hn2
      have c2 := Hctx.out.c2
      rw [hsc] at c2
      rw [hn] at hck
      have Hctx' := hide hctx'
      have hb3 := hBk b' hbB
      have hB3 : ∀ x, x ∈ B' → w.heap.size + 3 ≤ x := fun x hx => hBk x (hsub x hx)
      have HB3 := hide hB3
      clear hcp hctx' hsub hbB hB3 hBk hn hval hrg
      go_wp2_with fail
      go_round
      case rel => exact ⟨k + 1, b', n * 3, B', c', s', by omega, by go_num, rfl, hb3, HB3, Hctx'⟩
      case measure => simp [intOf]; omega
    · have hk2 : k = place.length := by omega
      subst hk2
      obtain ⟨e0, e1, e2, _, _, _⟩ := h3u
      have hz2 : w.heap.size + 1 < w1.heap.size := by omega
      go_wp2_with fail
      refine (copyOf_any (u.sz + 1) u a2 cap2 _ (by omega) hu (InP_alloc _ (InP_below hbw hin2))).mono ?_
      rintro e w2 ⟨su, Bu, rfl, hownu, hndu, hrgu, hb2⟩
      obtain ⟨au, capu, rfl, hinu⟩ := Own_in hownu
      obtain ⟨sy, y0, y1, y2, yin⟩ := Hctx.out.finish hb2 hownu (fun x hx => ⟨(hrgu x hx).1, by have := (hrgu x hx).1; simp at this; omega⟩)
      obtain ⟨ay, capy, rfl, yin'⟩ := In_iff.1 yin
      have hpbl := lt_of_cell Hctx.out.c0
      have d0 := Hctx.out.c0
      have d1 := Hctx.out.c1
      have d2 := Hctx.out.c2
      have f0 := Hctx.out.fr po
      have f1 := Hctx.out.fr (po + 1)
      have f2 := Hctx.out.fr (po + 2)
      rw [← hb2.cell (p := ⟨pb, po, none⟩) hpbl] at d0
      rw [← hb2.cell (p := ⟨pb, po + 1, none⟩) hpbl] at d1
      rw [← hb2.cell (p := ⟨pb, po + 2, none⟩) hpbl] at d2
      rw [← hb2.frozen (p := ⟨pb, po, none⟩) hpbl] at f0
      rw [← hb2.frozen (p := ⟨pb, po + 1, none⟩) hpbl] at f1
      rw [← hb2.frozen (p := ⟨pb, po + 2, none⟩) hpbl] at f2
      have h3 : Three (set3 w2 pb po (.int .i64 u.v) (.int .i64 u.f) (.slice au u.args.length capu)) (w.heap.size + 1 + 1) (.int .i64 0) (.int .i64 0) (.slice none 0 0) := ((h3r.alloc _).below hb2).same (set3_block (by omega))
      have H3 := hide h3
      obtain ⟨r0, r1, r2, g0, g1, g2⟩ := h3
      have hbf : Below w.heap.size w (set3 w2 pb po (.int .i64 u.v) (.int .i64 u.f) (.slice au u.args.length capu)) := below_set3 ((hbw.alloc (by omega) _).trans (hb2.mono (by simp; omega))) (by omega) _ _ _
      have Hbf := hide hbf
      have Hy := hide yin'
      clear hbf yin yin' hinu hrgu hndu hownu hrg hBk h3r
      go_wp2_with fail
      exact bodyPost_ret (v := .agg #[.int .i64 (putT u t place).v, .int .i64 (putT u t place).f, .slice ay (putT u t place).args.length capy]) (by simp [results, Tryz.results230, go_sem, r0, r1, r2]) rfl ⟨ay, capy, rfl, InP_imp (fun k hk => by omega) (InP_same (fun k hk _ => set3_block (by omega)) Hy.out), below_set3 Hbf.out (by omega) _ _ _⟩
end Go.Proofs.YtbkedppkdhfpoabGreat

namespace Go.Proofs.YtbkedppkdhfpoabGreat
open Go.RowKit
def sameT : T → T → Bool
  | ⟨v, f, args⟩, u => v == u.v && f == u.f && sameL args u.args
  where
  sameL : List T → List T → Bool
    | [], [] => true
    | t :: ts, u :: us => sameT t u && sameL ts us
    | _, _ => false
theorem sameT_eq (t u : T) : sameT t u = (t.v == u.v && t.f == u.f && sameT.sameL t.args u.args) := by cases t; rfl
theorem sameL_cons (t u : T) (ts us : List T) : sameT.sameL (t :: ts) (u :: us) = (sameT t u && sameT.sameL ts us) := rfl
theorem sameL_length : ∀ {ts us : List T}, ts.length ≠ us.length → sameT.sameL ts us = false := by
  intro ts
  induction ts with
  | nil => intro us h; cases us with
    | nil => simp at h
    | cons u us => rfl
  | cons t ts ih => intro us h; cases us with
    | nil => rfl
    | cons u us =>
      rw [sameL_cons, ih (by simpa using h)]; simp
theorem sameL_step : ∀ {ts us : List T} {k : Nat} {t u : T}, ts.length = us.length → ts[k]? = some t → us[k]? = some u →
    sameT.sameL (ts.take (k + 1)) (us.take (k + 1)) = (sameT.sameL (ts.take k) (us.take k) && sameT t u) ∧ (sameT t u = false → sameT.sameL ts us = false) := by
  intro ts
  induction ts with
  | nil => intro us k t u _ h; simp at h
  | cons a ts ih =>
    intro us k t u hl ht hu
    cases us with
    | nil => simp at hu
    | cons b us =>
      cases k with
      | zero =>
        simp at ht hu; subst ht; subst hu
        refine ⟨?_, fun h => by rw [sameL_cons, h]; rfl⟩
        simp [sameL_cons, sameT.sameL]
      | succ k =>
        simp at ht hu hl
        obtain ⟨h1, h2⟩ := ih hl ht hu
        refine ⟨?_, fun h => by rw [sameL_cons, h2 h]; simp⟩
        rw [List.take_succ_cons, List.take_succ_cons, List.take_succ_cons, List.take_succ_cons, sameL_cons, sameL_cons, h1, Bool.and_assoc]
theorem sameT_refl_aux : ∀ (n : Nat), (∀ t : T, t.sz ≤ n → sameT t t = true) ∧ (∀ ts : List T, T.sz.szL ts ≤ n → sameT.sameL ts ts = true) := by
  intro n
  induction n with
  | zero =>
    refine ⟨fun t h => by have := t.sz_pos; omega, fun ts h => ?_⟩
    cases ts with
    | nil => rfl
    | cons t ts => have := t.sz_pos; rw [T.szL_cons] at h; omega
  | succ n ih =>
    have h1 : ∀ t : T, t.sz ≤ n + 1 → sameT t t = true := fun t h => by
      rw [T.sz_eq] at h
      rw [sameT_eq, ih.2 t.args (by omega)]; simp
    refine ⟨h1, fun ts => ?_⟩
    induction ts with
    | nil => intro _; rfl
    | cons t ts iht =>
      intro h
      rw [T.szL_cons] at h
      rw [sameL_cons, h1 t (by omega), iht (by omega)]; rfl
theorem sameT_refl (t : T) : sameT t t = true := (sameT_refl_aux t.sz).1 t (Nat.le_refl _)
attribute [local go_sem ↓] Go.wp_at_zero Go.wp_at_succ
end Go.Proofs.YtbkedppkdhfpoabGreat

namespace Go.Proofs.YtbkedppkdhfpoabGreat
open Go.RowKit
theorem below_drewN {B : Nat} {a w : World} (h : Below B a w) (n : Nat) : Below B a (w.drewN n) := ⟨h.os, h.tape, h.output, h.size, h.block⟩
theorem Ints_tail {w : World} {i : Int} {p : List Int} {b off : Nat} (h : Ints w (i :: p) (some ⟨b, off, none⟩)) : Ints w p (some ⟨b, off + 1, none⟩) := by
  by_cases h0 : p = []
  · exact Or.inl h0
  · rcases h with h | ⟨b', off', he, h⟩
    · cases h
    · simp only [Option.some.injEq, Addr.mk.injEq] at he
      obtain ⟨rfl, rfl, _⟩ := he
      exact Or.inr ⟨b, off + 1, rfl, fun j hj => by
        have := h (j + 1) (by simp; omega)
        rw [show off + (j + 1) = off + 1 + j from by omega] at this
        simpa using this⟩
theorem tail_any {w : World} {i : Int} {p : List Int} {b off cap : Nat} (h : Ints w (i :: p) (some ⟨b, off, none⟩)) (hc : p.length + 1 ≤ cap) :
    ∃ pa, (∀ w' : World, (Instr.slice 22 (.slice (some ⟨b, off, none⟩) (p.length + 1) cap) (some (.int .i64 1)) none none).run Tryz.prog w' = .ok (.slice pa p.length (cap - 1)) w') ∧ Ints w p pa := by
  have ht : Tryz.prog.underlying 22 = some (.slice (Tryz.prog.elem 22)) := by kernel_rfl
  have hsz : ∀ w : World, (sizeOf (Tryz.prog.elem 22)).run Tryz.prog w = .ok 1 w := fun w => by kernel_rfl
  have hrun := fun w' : World => run_slice_l (P := Tryz.prog) w' 22 (some ⟨b, off, none⟩) (p.length + 1) cap ht .i64 1 (by omega) (by omega)
  by_cases h1 : cap = 1
  · subst h1
    have hp : p = [] := List.length_eq_zero_iff.1 (by omega)
    subst hp
    refine ⟨some ⟨b, off, none⟩, fun w' => ?_, Or.inl rfl⟩
    rw [hrun w', hsz]
    simp [sliced]
  · refine ⟨some ⟨b, off + 1, none⟩, fun w' => ?_, Ints_tail h⟩
    rw [hrun w', hsz]
    simp [sliced, h1, Addr.add]
attribute [local go_sem ↓] Go.wp_at_zero Go.wp_at_succ
end Go.Proofs.YtbkedppkdhfpoabGreat

namespace Go.Proofs.YtbkedppkdhfpoabGreat
open Go.RowKit
def zeroT : T := ⟨0, 0, []⟩
def atSpec (ar : List Int) (t : T) (place : List Int) : T × Int :=
  if allErr ar [t] = 0 then (match atT t place with | some u => (u, 0) | none => (zeroT, 5)) else (zeroT, allErr ar [t])
def putSpec (ar : List Int) (t : T) (place : List Int) (u : T) : T × Int :=
  if allErr ar [t, u] = 0 then
    (match atT t place with | some c => if 120 < (t.sz : Int) - c.sz + u.sz then (zeroT, 2) else (putT u t place, 0) | none => (zeroT, 5))
  else (zeroT, allErr ar [t, u])
def Gives (x : T × Int) (e : Ending) (w' : World) : Prop :=
  ∃ a1 cap1, e = .returned (.tuple #[.agg #[.int .i64 x.1.v, .int .i64 x.1.f, .slice a1 x.1.args.length cap1], .int .i64 x.2]) ∧ InL w' x.1.args a1
theorem gives_zero (n : Int) (w' : World) : Gives (zeroT, n) (.returned (.tuple #[.agg #[.int .i64 0, .int .i64 0, .slice none 0 0], .int .i64 n])) w' := ⟨none, 0, rfl, InP_nil⟩
theorem sz_of_ok {ar : List Int} {ts : List T} {t : T} (h : allErr ar ts = 0) (hm : t ∈ ts) : t.sz ≤ 120 := by
  rw [allErr] at h
  by_cases hs : sigErr ar = 0
  · rw [if_pos hs] at h
    clear hs
    induction ts with
    | nil => cases hm
    | cons a ts ih =>
      rw [termsErr] at h
      by_cases h1 : termErr ar a = 0
      · rw [if_pos h1] at h
        rcases List.mem_cons.1 hm with rfl | hm
        · rw [termErr] at h1
          by_cases h2 : 120 < t.sz
          · rw [if_pos h2] at h1; cases h1
          · omega
        · exact ih h hm
      · rw [if_neg h1] at h; exact absurd h h1
  · rw [if_neg hs] at h; exact absurd h hs
theorem atT_sz : ∀ {p : List Int} {t u : T}, atT t p = some u → u.sz ≤ t.sz := by
  intro p
  induction p with
  | nil =>
    intro t u h
    simp only [atT, Option.some.injEq] at h
    subst h; exact Nat.le_refl _
  | cons i p ih =>
    intro t u h
    rw [atT] at h
    by_cases hi : 0 ≤ i ∧ i < t.args.length
    · rw [if_pos hi] at h
      obtain ⟨d, hd, hc⟩ := Option.bind_eq_some_iff.1 h
      have h1 := ih hc
      have h2 := T.szL_mem (List.mem_of_getElem? hd)
      have h3 := T.sz_eq t
      omega
    · rw [if_neg hi] at h; cases h
set_option maxRecDepth 100000 in
set_option maxHeartbeats 400000 in
theorem At_any (ar : List Int) (ga : Option Addr) (gcap : Nat) (t : T) (a : Option Addr) (cap : Nat) (place : List Int) (pa : Option Addr) (pcap : Nat) (w : World) (hg : Ints w ar ga) (hin : InL w t.args a) (hp : Ints w place pa) (hl : place.length ≤ 9223372036854775807) :
    Calls Tryz.prog 175 #[.agg #[.slice ga ar.length gcap], .agg #[.int .i64 t.v, .int .i64 t.f, .slice a t.args.length cap], .slice pa place.length pcap] w fun e w' => Gives (atSpec ar t place) e w' ∧ Below w.heap.size w w' := by
  have Hg := hide (fun o1 o2 o3 o4 => Ints_alloc o4 (Ints_alloc o3 (Ints_alloc o2 (Ints_alloc o1 hg))))
  have Hin := hide (fun o1 o2 o3 e => InP_new1 (n := w.heap.size + 1 + 1 + 1) (cap := cap) e (by simp) trivial (InP_alloc o3 (InP_alloc o2 (InP_alloc o1 hin))))
  go_enter Tryz.func175, Tryz.ntmps175
  go_wp2_with fail
  refine (check_any ar ga gcap [t] _ 1 _ (Hg.out _ _ _ _) (Hin.out _ _ _ _) (by simp)).mono ?_
  rintro e w1 ⟨rfl, hb1⟩
  have hbw : Below w.heap.size w w1 := ((((below1 _ _).alloc (by simp) _).alloc (by simp; omega) _).alloc (by simp; omega) _).trans (hb1.mono (by simp; omega))
  have hz1 : w.heap.size + 4 ≤ w1.heap.size := by have := hb1.size; simp at this; omega
  have h3t : Three w1 (w.heap.size + 1) (.int .i64 t.v) (.int .i64 t.f) (.slice a t.args.length cap) := (((Three.new _ (by simp)).alloc _).alloc _).below hb1
  have h3r : Three w1 (w.heap.size + 1 + 1) (.int .i64 0) (.int .i64 0) (.slice none 0 0) := ((Three.new _ (by simp)).alloc _).below hb1
  clear hb1 Hg Hin
  by_cases hs : allErr ar [t] = 0
  · have hsz := sz_of_ok hs (t := t) (by simp)
    rw [hs]
    obtain ⟨c0, c1, c2, _, _, _⟩ := h3t
    have hspec : atSpec ar t place = (match atT t place with | some u => (u, 0) | none => (zeroT, 5)) := by rw [atSpec, if_pos hs]
    have Hspec := hide hspec
    clear hspec
    go_wp2_with fail
    refine (find_any t a cap place pa pcap _ (Ints_below hbw hp) (InP_below hbw hin) hl).mono ?_
    rintro e w2 ⟨hfound, hb2⟩
    have h3r2 := h3r.below hb2
    have hz2 := hb2.size
    have hbw2 := hbw.trans (hb2.mono (by omega))
    rcases hfound with ⟨u, a1, cap1, hat, rfl, hin1⟩ | ⟨hat, rfl⟩
    · have husz := atT_sz hat
      have hsp2 : atSpec ar t place = (u, 0) := by rw [Hspec.out, hat]
      have Hsp2 := hide hsp2
      clear hsp2 Hspec hat h3r
      obtain ⟨d0, d1, d2, f0, f1, f2⟩ := h3r2
      have hz3 : w.heap.size + 1 + 1 < w2.heap.size := by omega
      go_wp2_with fail
      refine (copyOf_any (u.sz + 1) u a1 cap1 _ (by omega) (by omega) (InP_alloc _ (InP_below hb2 hin1))).mono ?_
      rintro e w3 ⟨s, B, rfl, hown, hnd, hrg, hb3⟩
      obtain ⟨as1, caps, rfl, hins⟩ := Own_in hown
      have h3r3 : Three w3 (w.heap.size + 1 + 1) (.int .i64 0) (.int .i64 0) (.slice none 0 0) := (Three.alloc ⟨d0, d1, d2, f0, f1, f2⟩ _).below hb3
      have hinp := Own_inP hown
      obtain ⟨as2, caps2, he, hinq⟩ := In_iff.1 hinp
      simp only [Value.slice.injEq] at he
      obtain ⟨rfl, _, rfl⟩ := he
      have Hq := hide (InP_imp (q := fun k => w.heap.size + 3 ≤ k) (fun k hk => by have := (hrg k hk).1; simp at this; omega) hinq)
      have Hbf := hide ((hbw2.alloc (by omega) _).trans (hb3.mono (by simp; omega)))
      obtain ⟨r0, r1, r2, g0, g1, g2⟩ := h3r3
      clear hown hnd hrg hb3 hins hinp hinq
      go_wp2_with fail
      exact bodyPost_ret (v := .tuple #[.agg #[.int .i64 u.v, .int .i64 u.f, .slice as1 u.args.length caps], .int .i64 0]) (by simp [results, Tryz.results175, go_sem, r0, r1, r2]) rfl
        ⟨by rw [Hsp2.out]; exact ⟨as1, caps, rfl, InP_imp (fun _ _ => trivial) (InP_same (fun k hk _ => set3_block (by omega)) Hq.out)⟩, below_set3 Hbf.out (by omega) _ _ _⟩
    · have hsp2 : atSpec ar t place = (zeroT, 5) := by rw [Hspec.out, hat]
      have Hsp2 := hide hsp2
      clear hsp2 Hspec hat h3r
      obtain ⟨d0, d1, d2, f0, f1, f2⟩ := h3r2
      have hz3 : w.heap.size + 1 + 1 < w2.heap.size := by omega
      go_wp2_with fail
      exact bodyPost_ret (v := .tuple #[.agg #[.int .i64 0, .int .i64 0, .slice none 0 0], .int .i64 5]) (by simp [results, Tryz.results175, go_sem, d0, d1, d2, hz3]) rfl
        ⟨by rw [Hsp2.out]; exact gives_zero 5 _, (below_set3 hbw2 (by omega) _ _ _).alloc (by rw [set3_size]; omega) _⟩
  · have hs1 : (allErr ar [t] != 0) = true := by simpa using hs
    have hspec : atSpec ar t place = (zeroT, allErr ar [t]) := by rw [atSpec, if_neg hs]
    have Hspec := hide hspec
    clear hspec hs
    obtain ⟨d0, d1, d2, f0, f1, f2⟩ := h3r
    generalize allErr ar [t] = err at *
    go_wp2_with fail
    exact bodyPost_ret (v := .tuple #[.agg #[.int .i64 0, .int .i64 0, .slice none 0 0], .int .i64 err]) (by simp [results, Tryz.results175, go_sem, d0, d1, d2]) rfl
      ⟨by rw [Hspec.out]; exact gives_zero err _, below_set3 hbw (by omega) _ _ _⟩
theorem InP_new2 {p : Nat → Prop} {w : World} {t u : T} {a a2 : Option Addr} {cap cap2 n : Nat} (e : TypeId) (hn : n = w.heap.size) (hp : p w.heap.size) (h : InP p w t.args a) (h2 : InP p w u.args a2) :
    InP p (w.alloc (.cells #[.int .i64 t.v, .int .i64 t.f, .slice a t.args.length cap, .int .i64 u.v, .int .i64 u.f, .slice a2 u.args.length cap2] e)) [t, u] (some ⟨n, 0, none⟩) := by
  subst hn
  exact InP_cons.2 ⟨_, 0, _, rfl, hp, World.cell?_alloc_mark _ _ _ _ _, World.cell?_alloc_mark _ _ _ _ _, World.cell?_alloc_mark _ _ _ _ _, In_iff.2 ⟨a, cap, rfl, InP_alloc _ h⟩,
    InP_cons.2 ⟨_, 3, _, rfl, hp, World.cell?_alloc_mark _ _ _ _ _, World.cell?_alloc_mark _ _ _ _ _, World.cell?_alloc_mark _ _ _ _ _, In_iff.2 ⟨a2, cap2, rfl, InP_alloc _ h2⟩, InP_nil⟩⟩
theorem InP_drew {p : Nat → Prop} {w : World} {ts : List T} {a : Option Addr} (h : InP p w ts a) : InP p w.drew ts a := InP_heap (w := w) rfl h
theorem wrap_ok (x : Int) (h0 : -1000000 ≤ x) (h1 : x ≤ 1000000) : IntKind.i64.wrap x = x := by rw [IntKind.wrap_i64]; omega
theorem size_one (t : T) (n : Nat) (w : World) (ht : t.sz ≤ 120) (h : InL w [t] (some ⟨n, 0, none⟩)) :
    Calls Tryz.prog 229 #[.int .i64 120, .slice (some ⟨n, 0, none⟩) 1 1] w fun e w' => e = .returned (.int .i64 (t.sz : Int)) ∧ Below w.heap.size w w' := by
  have hs1 : T.sz.szL [t] = t.sz := by rw [T.szL_cons, T.szL_nil]; omega
  have := size_any (t.sz + 1) [t] (120 : Int) (some ⟨n, 0, none⟩) 1 w (by rw [hs1]; omega) (by omega) (by omega) h
  rw [hs1, show min (t.sz : Int) (120 + 1) = t.sz from by omega] at this
  exact this
attribute [local go_sem ↓] Go.wp_at_zero Go.wp_at_succ
end Go.Proofs.YtbkedppkdhfpoabGreat

namespace Go.Proofs
open Go.Shelf
def Tryz.lays189_ren : Go.Shelf.Ren := ⟨fun | 189 => 130 | 125 => 173 | 257 => 172 | 128 => 222 | 129 => 223 | 294 => 213 | 295 => 214 | 296 => 215 | 297 => 216 | 298 => 217 | 299 => 218 | 216 => 219 | 300 => 220 | 301 => 221 | 328 => 252 | 329 => 253 | 330 => 254 | 331 => 255 | 332 => 256 | 215 => 257 | 343 => 285 | n => n, fun | 28 => 22 | 3 => 3 | 46 => 218 | 0 => 0 | 51 => 267 | 53 => 269 | 4 => 4 | 183 => 260 | 182 => 259 | 131 => 264 | 5 => 5 | 9 => 9 | 218 => 290 | 222 => 294 | 228 => 321 | 229 => 322 | n => n, fun | n => n⟩
theorem Tryz.lays189 : Go.Proofs.Lays.n189 Tryz.prog Tryz.lays189_ren := {
  mixed := by kernel_rfl
  f125 := Tryz.func173.trans (congrArg some (by kernel_rfl))
  f128 := Tryz.func222.trans (congrArg some (by kernel_rfl))
  f129 := Tryz.func223.trans (congrArg some (by kernel_rfl))
  f189 := Tryz.func130.trans (congrArg some (by kernel_rfl))
  f215 := Tryz.func257.trans (congrArg some (by kernel_rfl))
  f216 := Tryz.func219.trans (congrArg some (by kernel_rfl))
  f257 := Tryz.func172.trans (congrArg some (by kernel_rfl))
  f294 := Tryz.func213.trans (congrArg some (by kernel_rfl))
  f295 := Tryz.func214.trans (congrArg some (by kernel_rfl))
  f296 := Tryz.func215.trans (congrArg some (by kernel_rfl))
  f297 := Tryz.func216.trans (congrArg some (by kernel_rfl))
  f298 := Tryz.func217.trans (congrArg some (by kernel_rfl))
  f299 := Tryz.func218.trans (congrArg some (by kernel_rfl))
  f300 := Tryz.func220.trans (congrArg some (by kernel_rfl))
  f301 := Tryz.func221.trans (congrArg some (by kernel_rfl))
  f328 := Tryz.func252.trans (congrArg some (by kernel_rfl))
  f329 := Tryz.func253.trans (congrArg some (by kernel_rfl))
  f330 := Tryz.func254.trans (congrArg some (by kernel_rfl))
  f331 := Tryz.func255.trans (congrArg some (by kernel_rfl))
  f332 := Tryz.func256.trans (congrArg some (by kernel_rfl))
  f343 := Tryz.func285.trans (congrArg some (by kernel_rfl))
  t0 := Tryz.underlying0
  a0 := Tryz.isAgg0
  z0 := Tryz.sizeOf0
  v0 := Tryz.zeroValue0
  t3 := Tryz.underlying3
  a3 := Tryz.isAgg3
  z3 := Tryz.sizeOf3
  v3 := Tryz.zeroValue3
  t4 := Tryz.underlying4
  a4 := Tryz.isAgg4
  z4 := Tryz.sizeOf4
  v4 := Tryz.zeroValue4
  t5 := Tryz.underlying5
  a5 := Tryz.isAgg5
  z5 := Tryz.sizeOf5
  v5 := Tryz.zeroValue5
  t9 := Tryz.underlying9
  a9 := Tryz.isAgg9
  z9 := Tryz.sizeOf9
  v9 := Tryz.zeroValue9
  t28 := Tryz.underlying22
  a28 := Tryz.isAgg22
  z28 := Tryz.sizeOf22
  v28 := Tryz.zeroValue22
  t46 := Tryz.underlying218
  a46 := Tryz.isAgg218
  z46 := Tryz.sizeOf218
  v46 := Tryz.zeroValue218
  t51 := Tryz.underlying267
  a51 := Tryz.isAgg267
  z51 := Tryz.sizeOf267
  v51 := Tryz.zeroValue267
  t53 := Tryz.underlying269
  a53 := Tryz.isAgg269
  z53 := Tryz.sizeOf269
  v53 := Tryz.zeroValue269
  t131 := Tryz.underlying264
  a131 := Tryz.isAgg264
  z131 := Tryz.sizeOf264
  v131 := Tryz.zeroValue264
  t182 := Tryz.underlying259
  a182 := Tryz.isAgg259
  z182 := Tryz.sizeOf259
  v182 := Tryz.zeroValue259
  t183 := Tryz.underlying260
  a183 := Tryz.isAgg260
  z183 := Tryz.sizeOf260
  v183 := Tryz.zeroValue260
  t218 := Tryz.underlying290
  a218 := Tryz.isAgg290
  z218 := Tryz.sizeOf290
  v218 := Tryz.zeroValue290
  t222 := Tryz.underlying294
  a222 := Tryz.isAgg294
  z222 := Tryz.sizeOf294
  v222 := Tryz.zeroValue294
  t228 := Tryz.underlying321
  a228 := Tryz.isAgg321
  z228 := Tryz.sizeOf321
  v228 := Tryz.zeroValue321
  t229 := Tryz.underlying322
  a229 := Tryz.isAgg322
  z229 := Tryz.sizeOf322
  v229 := Tryz.zeroValue322 }
open Go.Sort Go.RowKit in
theorem Tryz.slices_Sort_int (blk off cap : Nat) (zs : List Int) (w : World) (hH : Holds (Value.int .i64) w blk off zs.toArray) (hblk : blk < w.heap.size) (hsz : zs.length < 4611686018427387904) :
    Calls Tryz.prog 130 #[.slice (some ⟨blk, off, none⟩) zs.length cap] w fun e w' =>
      e = .returned (.tuple #[]) ∧ ∃ n os, w' = grow (putRow (Value.int .i64) (Sort.ahead w n) blk off (zs.mergeSort fun x y => decide (x ≤ y)).toArray) os := Any.slices_Sort_int Tryz.lays189 blk off cap zs w hH hblk hsz
def Tryz.laysNm220_ren : Go.Shelf.Ren := ⟨fun | 20 => 131 | n => n, fun | 22 => 22 | 3 => 3 | 4 => 4 | 0 => 0 | n => n, fun | n => n⟩
theorem Tryz.laysNm220 : Go.Proofs.Lays2.n20 Tryz.prog Tryz.laysNm220_ren := {
  mixed := by kernel_rfl
  f20 := Tryz.func131.trans (congrArg some (by kernel_rfl))
  t0 := Tryz.underlying0
  a0 := Tryz.isAgg0
  z0 := Tryz.sizeOf0
  v0 := Tryz.zeroValue0
  t3 := Tryz.underlying3
  a3 := Tryz.isAgg3
  z3 := Tryz.sizeOf3
  v3 := Tryz.zeroValue3
  t4 := Tryz.underlying4
  a4 := Tryz.isAgg4
  z4 := Tryz.sizeOf4
  v4 := Tryz.zeroValue4
  t22 := Tryz.underlying22
  a22 := Tryz.isAgg22
  z22 := Tryz.sizeOf22
  v22 := Tryz.zeroValue22
  i3 := by kernel_rfl }
open Go.RowKit Go.Lib Go.Sort in
theorem Tryz.slices_Compact_int (blk off cap : Nat) (zs : List Int) (w : World) (hH : Holds (Value.int .i64) w blk off zs.toArray) (hsz : zs.length ≤ 9223372036854775807) (hcap : zs.length ≤ cap) :
    Calls Tryz.prog 131 #[.slice (some ⟨blk, off, none⟩) zs.length cap] w fun e w' => e = .returned (.slice (some ⟨blk, off, none⟩) (Lib.compact zs).length cap) ∧ ∃ q, w' = putRow (Value.int .i64) (Sort.ahead w q) blk off (Lib.compact zs ++ List.replicate (zs.length - (Lib.compact zs).length) 0).toArray := Any.slices_Compact_int Tryz.laysNm220 blk off cap zs w hH hsz hcap
open Go.RowKit Go.Lib Go.Sort in
theorem Tryz.slices_Compact_int_empty (a : Option Addr) (cap : Nat) (w : World) :
    Calls Tryz.prog 131 #[.slice a 0 cap] w fun e w' => e = .returned (.slice a 0 cap) ∧ w' = w := Any.slices_Compact_int_empty Tryz.laysNm220 a cap w
open Go.RowKit Go.Sort in
theorem Tryz.slices_Sort_int_none (p : Option Addr) (cap : Nat) (w : World) :
    Calls Tryz.prog 130 #[.slice p 0 cap] w fun e w' => e = .returned (.tuple #[]) ∧ w' = w := Any.slices_Sort_int_none Tryz.lays189 p cap w
end Go.Proofs

namespace Go.Proofs.YtbkedppkdhfpoabGreat
open Go.RowKit
theorem putRow_block {α : Type} [Inhabited α] {enc : α → Value} {w : World} {blk off k : Nat} {d : Array α} (h : k ≠ blk) : (Sort.putRow enc w blk off d).heap[k]? = w.heap[k]? := by
  simp [Sort.putRow, Sort.mapBlock, Array.getElem?_modify, Ne.symm h]
theorem holds_own {w : World} {B g cap : Nat} {zs : List Int} (h : w.ownsRow B 3 1 (.slice (some ⟨g, 0, none⟩) zs.length cap) zs.length (zs.map (Value.int .i64))) (hn : 0 < zs.length) : Sort.Holds (Value.int .i64) w g 0 zs.toArray ∧ g < w.heap.size ∧ zs.length ≤ cap := by
  rcases h.2 with ⟨_, h0⟩ | ⟨g', cap', cur, he, hb, hg, hc, hm, hs, ht⟩
  · omega
  simp only [Value.slice.injEq, Option.some.injEq, Addr.mk.injEq, and_true, true_and] at he
  obtain ⟨rfl, rfl⟩ := he
  refine ⟨fun j hj => ?_, ?_, hc⟩
  · have hj' : j < zs.length := by simpa using hj
    have e1 : cur[j]? = some (.int .i64 zs[j]) := by
      have : (cur.toList.take (zs.length * 1))[j]? = some (.int .i64 zs[j]) := by rw [ht]; simp [hj']
      rw [List.getElem?_take_of_lt (by omega)] at this
      simpa using this
    constructor
    · simp only [World.cell?, hg, Nat.zero_add]
      simp [e1, hj']
    · simp [World.frozen?, hg]
  · rcases Nat.lt_or_ge g w.heap.size with h | h
    · exact h
    · rw [Array.getElem?_eq_none h] at hg; cases hg
theorem sort_any (g cap : Nat) (zs : List Int) (w : World) (hH : Sort.Holds (Value.int .i64) w g 0 zs.toArray) (hg : g < w.heap.size) (hn : zs.length ≤ 2000) :
    Calls Tryz.prog 130 #[.slice (some ⟨g, 0, none⟩) zs.length cap] w fun e w' => e = .returned (.tuple #[]) ∧ Keeps g noFoot w w' ∧ Sort.Holds (Value.int .i64) w' g 0 (zs.mergeSort fun x y => decide (x ≤ y)).toArray := by
  refine (Tryz.slices_Sort_int g 0 cap zs w hH hg (by omega)).mono ?_
  rintro e w' ⟨rfl, n, os, rfl⟩
  refine ⟨rfl, ⟨rfl, rfl, rfl, by simp, fun k hk hkg _ => ?_, fun _ h => h.elim⟩, ?_⟩
  · rw [Sort.heap_grow_old _ _ (by simpa using hk), putRow_block hkg]; rfl
  · refine Sort.holds_grow _ _ _ _ _ _ (by simpa using hg) (Sort.holds_putRow _ _ _ _ zs.toArray _ hH (by simp))
theorem compact_le (zs : List Int) : (Lib.compact zs).length ≤ zs.length := by
  unfold Lib.compact Lib.compactUpTo
  rw [List.length_map]
  exact Nat.le_trans (List.length_filter_le _ _) (by simp)
theorem compact_any (g cap : Nat) (zs : List Int) (w : World) (hH : Sort.Holds (Value.int .i64) w g 0 zs.toArray) (hcap : zs.length ≤ cap) (hn : zs.length ≤ 2000) :
    Calls Tryz.prog 131 #[.slice (some ⟨g, 0, none⟩) zs.length cap] w fun e w' => e = .returned (.slice (some ⟨g, 0, none⟩) (Lib.compact zs).length cap) ∧ Keeps g noFoot w w' ∧ Ints w' (Lib.compact zs) (some ⟨g, 0, none⟩) := by
  refine (Tryz.slices_Compact_int g 0 cap zs w hH (by omega) hcap).mono ?_
  rintro e w' ⟨rfl, q, rfl⟩
  have hle := compact_le zs
  refine ⟨rfl, ⟨rfl, rfl, rfl, by simp, fun k hk hkg _ => ?_, fun _ h => h.elim⟩, Or.inr ⟨g, 0, rfl, fun i hi => ?_⟩⟩
  · rw [putRow_block hkg]; rfl
  · have h1 := Sort.cell?_putRow (Value.int .i64) (Sort.ahead w q) g 0 zs.toArray (Lib.compact zs ++ List.replicate (zs.length - (Lib.compact zs).length) 0).toArray hH (by simp; omega) i (by simp; omega)
    rw [h1]
    congr 1
    simp [List.getElem?_append_left hi, List.getD]
theorem eg168 (args : Array Value) (w : World) : (callFunc 168 args).run Tryz.prog w = .ok (.enter 168 args) w := by kernel_rfl
theorem look_vars (x B : Nat) (ts : List T) (a : Option Addr) (cap : Nat) (w : World) (hxB : x < B) (h1000 : T.sz.szL ts ≤ 1000) (hf : Foot x B slFoot w) (hin : InP (fun k => k < B ∧ k ≠ x) w ts a) (hst : VarsAt x B w []) :
    Calls Tryz.prog 167 #[.func (.func 168) #[] #[.pointer (some ⟨x, 0, none⟩)], .slice a ts.length cap] w fun e w' =>
      e = .returned (.bool (lookT.lookL varStep [] ts).2) ∧ VarsAt x B w' (lookT.lookL varStep [] ts).1 ∧ Keeps x slFoot w w' :=
  look_any varStep 168 #[.pointer (some ⟨x, 0, none⟩)] x B slFoot (VarsAt x B) eg168 List.length 1000 (fun s t => by
      show (if t.v = 0 then s else s ++ [t.v]).length ≤ _
      split <;> simp) (fun _ _ _ _ h => h.below (below1 _ _))
    (fun w' s t' a' cap' hlt hf' h => varsC_any x B w' s t' a' cap' hxB hf'.hB hlt h) (T.sz.szL ts + 1) ts a cap w [] (by omega) h1000 (by simpa using h1000) hf hin hst
def allVars (t : T) : List Int := (lookT.lookL varStep [] [t]).1
def varsT (t : T) : List Int := Lib.compact ((allVars t).mergeSort fun x y => decide (x ≤ y))
def varsSpec (ar : List Int) (t : T) : List Int := if allErr ar [t] = 0 then varsT t else []
def GivesInts (zs : List Int) (err : Int) (e : Ending) (w' : World) : Prop :=
  ∃ a1 cap1, e = .returned (.tuple #[.slice a1 zs.length cap1, .int .i64 err]) ∧ Ints w' zs a1
def GivesNums (zs : List Int) (err : Int) (e : Ending) (w' : World) : Prop :=
  ∃ a1 cap1, e = .returned (.tuple #[.slice a1 zs.length cap1, .int .i64 err]) ∧ Ints w' zs a1 ∧ ((a1 = none ∧ cap1 = 0) ∨ ∃ g, a1 = some ⟨g, 0, none⟩)
theorem allVars_le (t : T) : (allVars t).length ≤ t.sz := by
  have := (look_mu (step := varStep) (mu := List.length) (fun s t => by
      show (if t.v = 0 then s else s ++ [t.v]).length ≤ _
      split <;> simp) _).2 [t] [] (Nat.le_refl _)
  rw [T.szL_cons, T.szL_nil] at this
  simpa [allVars] using this
theorem Below.of_keepsF {x B : Nat} {F : Option Obj → Nat → Prop} {W w' : World} (h : Keeps x F W w') (hx : B ≤ x) (hB : B ≤ W.heap.size) (hF : ∀ k, F W.heap[x]? k → B ≤ k) : Below B W w' :=
  ⟨h.os, h.tape, h.output, h.size, fun k hk => h.block k (by omega) (by omega) (fun hk' => by have := hF k hk'; omega)⟩
set_option maxRecDepth 100000 in
set_option maxHeartbeats 1000000 in
theorem Vars_nums (ar : List Int) (ga : Option Addr) (gcap : Nat) (t : T) (a : Option Addr) (cap : Nat) (w : World) (hg : Ints w ar ga) (hin : InL w t.args a) (hszok : allErr ar [t] = 0 → t.sz ≤ 120) :
    Calls Tryz.prog 123 #[.agg #[.slice ga ar.length gcap], .agg #[.int .i64 t.v, .int .i64 t.f, .slice a t.args.length cap]] w fun e w' =>
      GivesNums (varsSpec ar t) (allErr ar [t]) e w' ∧ Below w.heap.size w w' := by
  have hmf : ∀ (fn : Fn) (first cap : Array Value) (w : World), (Instr.makeFunc fn first cap).run Tryz.prog w = .ok (.func fn first cap) w := fun _ _ _ _ => rfl
  have Hg := hide (fun o1 o2 o3 => Ints_alloc o3 (Ints_alloc o2 (Ints_alloc o1 hg)))
  have Hin := hide (fun o1 o2 e => InP_new1 (n := w.heap.size + 1 + 1) (cap := cap) e (by simp) trivial (InP_alloc o2 (InP_alloc o1 hin)))
  have hs1 : T.sz.szL [t] = t.sz := by rw [T.szL_cons, T.szL_nil]; omega
  have Hs1 := hide hs1
  clear hg hs1
  go_enter Tryz.func123, Tryz.ntmps123
  go_wp2_with fail
  refine (check_any ar ga gcap [t] _ 1 _ (Hg.out _ _ _) (Hin.out _ _ _) (by simp)).mono ?_
  rintro e w1 ⟨rfl, hb1⟩
  have hbw : Below w.heap.size w w1 := (((below1 _ _).alloc (by simp) _).alloc (by simp; omega) _).trans (hb1.mono (by simp; omega))
  have hz1 : w.heap.size + 1 < w1.heap.size := by have := hb1.size; simp at this; omega
  have h3t : Three w1 (w.heap.size + 1) (.int .i64 t.v) (.int .i64 t.f) (.slice a t.args.length cap) := ((Three.new _ (by simp)).alloc _).below hb1
  clear hb1
  by_cases hs : allErr ar [t] = 0
  · have hsz := hszok hs
    have hsp : varsSpec ar t = varsT t := by rw [varsSpec, if_pos hs]
    have Hsp := hide hsp
    have Hs := hide hs
    rw [hs]
    obtain ⟨d0, d1, d2, _, _, _⟩ := h3t
    have hin1 := InP_lt (InP_below hbw hin)
    have hin2 : ∀ e1 e2, InP (fun k => k < w1.heap.size + 2 ∧ k ≠ w1.heap.size) ((w1.alloc (.cells #[.slice none 0 0] e1)).alloc (.cells #[.int .i64 t.v, .int .i64 t.f, .slice a t.args.length cap] e2)) [t] (some ⟨w1.heap.size + 1, 0, none⟩) :=
      fun e1 e2 => InP_new1 e2 (by simp) (by constructor <;> simp) (InP_alloc _ (InP_imp (fun k h => by omega) hin1))
    have hst : ∀ o2, VarsAt w1.heap.size (w1.heap.size + 2) ((w1.alloc (.cells #[.slice none 0 0] 22)).alloc o2) [] := fun o2 =>
      VarsAt.below ⟨.slice none 0 0, heap_alloc_new w1 _, ⟨rfl, Or.inl ⟨rfl, rfl⟩⟩⟩ (below1 _ _)
    have hft : ∀ o2, Foot w1.heap.size (w1.heap.size + 2) slFoot ((w1.alloc (.cells #[.slice none 0 0] 22)).alloc o2) := fun o2 =>
      ⟨by simp; omega, by simp, fun k hk => by
        rw [Below.heap_alloc _ _ _ (by simp), foot_of (heap_alloc_new w1 _)] at hk; cases hk⟩
    have Hin2 := hide hin2
    have Hst := hide hst
    have Hft := hide hft
    clear hin1 hin2 hst hft hs hsp
    go_wp2_with fail
    refine (look_vars _ (w1.heap.size + 2) [t] _ 1 _ (by omega) (by rw [Hs1.out]; omega) (Hft.out _) (Hin2.out _ _) (Hst.out _)).mono ?_
    rintro e w2 ⟨rfl, hvars, hkeep⟩
    have hb2 : Below w.heap.size w w2 := ((hbw.alloc (by omega) _).alloc (by simp; omega) _).trans (Below.of_keepsF hkeep (by omega) (by simp; omega) (fun k hk => by have := (Hft.out _).rng k hk; omega))
    have hsz2 := hkeep.size
    simp at hsz2
    have hle := allVars_le t
    change VarsAt w1.heap.size (w1.heap.size + 2) w2 (allVars t) at hvars
    obtain ⟨v, hv, hown⟩ := hvars
    obtain ⟨va, vc, rfl⟩ := own_shape hown
    have cv : w2.cell? ⟨w1.heap.size, 0, none⟩ = some (.slice va (allVars t).length vc) := by simp [World.cell?, hv]
    have Hv := hide hv
    have Hown := hide hown
    clear hkeep hv hown Hft Hin2 Hst
    clear hszok
    by_cases hnil : (allVars t).length = 0
    · have hv0 : varsSpec ar t = [] := by
        rw [Hsp.out, varsT, List.length_eq_zero_iff.1 hnil, List.mergeSort_nil]; rfl
      have Hv0 := hide hv0
      have Hvn : Hid ((va = none ∧ vc = 0) ∨ ∃ g, va = some ⟨g, 0, none⟩) := by
        rcases Hown.out.2 with ⟨h, _⟩ | ⟨g, cap, cur, h, _⟩
        · simp only [Value.slice.injEq] at h; exact Or.inl ⟨h.1, h.2.2⟩
        · simp only [Value.slice.injEq] at h; exact Or.inr ⟨g, h.1⟩
      rw [hnil] at cv
      clear hnil hv0
      go_wp2_with fail
      refine (Tryz.slices_Sort_int_none va vc _).mono ?_
      rintro e w3 ⟨rfl, rfl⟩
      go_wp2_with fail
      refine (Tryz.slices_Compact_int_empty va vc _).mono ?_
      rintro e w4 ⟨rfl, rfl⟩
      go_wp2_with fail
      go_ret2
      exact ⟨by rw [Hv0.out, Hs.out]; exact ⟨va, vc, rfl, Or.inl rfl, Hvn.out⟩, hb2⟩
    · have hpos : 0 < (allVars t).length := by omega
      obtain ⟨g, cap2, hform, hBg, hglt⟩ := Hown.out.form hpos
      simp only [Value.slice.injEq, true_and] at hform
      obtain ⟨rfl, rfl⟩ := hform
      obtain ⟨hH, _, hcap⟩ := holds_own Hown.out hpos
      have HH := hide hH
      have hlen : ((allVars t).mergeSort fun x y => decide (x ≤ y)).length = (allVars t).length := List.length_mergeSort _
      have Hlen := hide hlen
      clear hH hlen hnil
      go_wp2_with fail
      refine (sort_any g vc (allVars t) _ HH.out hglt (by omega)).mono ?_
      rintro e w3 ⟨rfl, hk3, hH3⟩
      have hz3 := hk3.size
      have cv3 : w3.cell? ⟨w1.heap.size, 0, none⟩ = some (.slice (some ⟨g, 0, none⟩) (allVars t).length vc) := by
        rw [World.cell?_of_block (w := w2) (a := ⟨w1.heap.size, 0, none⟩) (hk3.block w1.heap.size (by omega) (by omega) (fun h => h))]; exact cv
      have Hb3 := hide (hb2.trans (Below.of_keeps (B := w.heap.size) hk3 (by omega) (by have := hb2.size; omega)))
      have hH3' := hide hH3
      clear hk3 hH3
      go_wp2_with fail
      have hcm := compact_any g vc ((allVars t).mergeSort fun x y => decide (x ≤ y)) w3 hH3'.out (by rw [Hlen.out]; exact hcap) (by rw [Hlen.out]; omega)
      rw [Hlen.out] at hcm
      refine hcm.mono ?_
      rintro e w4 ⟨rfl, hk4, hI⟩
      clear hcm
      have hsp4 : varsSpec ar t = Lib.compact ((allVars t).mergeSort fun x y => decide (x ≤ y)) := Hsp.out
      have Hsp4 := hide hsp4
      have Hb4 := hide (Hb3.out.trans (Below.of_keeps (B := w.heap.size) hk4 (by omega) (by have := Hb3.out.size; omega)))
      have HI := hide hI
      clear hsp4 hk4 hI
      go_wp2_with fail
      go_ret2
      exact ⟨by rw [Hsp4.out, Hs.out]; exact ⟨_, vc, rfl, HI.out, Or.inr ⟨_, rfl⟩⟩, Hb4.out⟩
  · have hs1 : (allErr ar [t] != 0) = true := by simpa using hs
    have hsp : varsSpec ar t = [] := by rw [varsSpec, if_neg hs]
    have Hsp := hide hsp
    clear hs hsp hszok
    go_wp2_with fail
    go_ret2
    exact ⟨by rw [Hsp.out]; exact ⟨none, 0, rfl, Or.inl rfl, Or.inl ⟨rfl, rfl⟩⟩, hbw⟩
theorem Vars_any (ar : List Int) (ga : Option Addr) (gcap : Nat) (t : T) (a : Option Addr) (cap : Nat) (w : World) (hg : Ints w ar ga) (hin : InL w t.args a) (hszok : allErr ar [t] = 0 → t.sz ≤ 120) :
    Calls Tryz.prog 123 #[.agg #[.slice ga ar.length gcap], .agg #[.int .i64 t.v, .int .i64 t.f, .slice a t.args.length cap]] w fun e w' =>
      GivesInts (varsSpec ar t) (allErr ar [t]) e w' ∧ Below w.heap.size w w' :=
  (Vars_nums ar ga gcap t a cap w hg hin hszok).mono fun _ _ ⟨⟨a1, c1, h1, h2, _⟩, hb⟩ => ⟨⟨a1, c1, h1, h2⟩, hb⟩
end Go.Proofs.YtbkedppkdhfpoabGreat

namespace Go.Proofs.YtbkedppkdhfpoabGreat
open Go.RowKit
set_option maxRecDepth 100000 in
set_option maxHeartbeats 400000 in
theorem small_any (w : World) : Calls Tryz.prog 61 #[] w fun e w' => ∃ n, e = .returned (.agg #[.slice (some ⟨n, 0, none⟩) 2 2]) ∧ Ints w' [0, 1] (some ⟨n, 0, none⟩) ∧ Below w.heap.size w w' := by
  go_enter Tryz.func61, Tryz.ntmps61
  go_wp2_with fail
  exact bodyPost_ret (v := .agg #[.slice (some ⟨w.heap.size + 1, 0, none⟩) 2 2]) (by simp [results, Tryz.results61, go_sem]) rfl ⟨w.heap.size + 1, rfl, Or.inr ⟨_, _, rfl, fun i hi => by
    have : i = 0 ∨ i = 1 := by simp at hi; omega
    rcases this with rfl | rfl
    · exact cell_new 0 (by simp)
    · exact cell_new 1 (by simp)⟩, below2 _ _ _⟩
set_option maxRecDepth 100000 in
set_option maxHeartbeats 400000 in
theorem fn_any (n : Int) (a : Option Addr) (len cap : Nat) (w : World) : Calls Tryz.prog 60 #[.int .i64 n, .slice a len cap] w fun e w' => e = .returned (.agg #[.int .i64 0, .int .i64 n, .slice a len cap]) ∧ Below w.heap.size w w' := by
  go_enter Tryz.func60, Tryz.ntmps60
  go_wp2_with fail
  exact bodyPost_ret (v := .agg #[.int .i64 0, .int .i64 n, .slice a len cap]) (by simp [results, Tryz.results60, go_sem]) rfl ⟨rfl, below1 _ _⟩
set_option maxRecDepth 100000 in
set_option maxHeartbeats 400000 in
theorem va_any (n : Int) (w : World) : Calls Tryz.prog 59 #[.int .i64 n] w fun e w' => e = .returned (.agg #[.int .i64 n, .int .i64 0, .slice none 0 0]) ∧ Below w.heap.size w w' := by
  go_enter Tryz.func59, Tryz.ntmps59
  go_wp2_with fail
  exact bodyPost_ret (v := .agg #[.int .i64 n, .int .i64 0, .slice none 0 0]) (by simp [results, Tryz.results59, go_sem]) rfl ⟨rfl, below1 _ _⟩
theorem InP_newT {p : Nat → Prop} {w : World} {v f : Int} {t : T} {n : Nat} (e : TypeId) (hn : n = w.heap.size) (hp : p w.heap.size) (ht : t = ⟨v, f, []⟩) :
    InP p (w.alloc (.cells #[.int .i64 v, .int .i64 f, .slice none 0 0] e)) [t] (some ⟨n, 0, none⟩) := by
  subst ht
  exact InP_new1 (t := ⟨v, f, []⟩) (a := none) (cap := 0) e hn hp InP_nil
attribute [local go_sem ↓] Go.wp_at_zero Go.wp_at_succ
end Go.Proofs.YtbkedppkdhfpoabGreat

namespace Go.Proofs.YtbkedppkdhfpoabGreat
open Go.RowKit
def okP (ar : List Int) : T → Prop
  | ⟨v, f, args⟩ => partErr ar v f args.length = 0 ∧ okL args
  where
  okL : List T → Prop
    | [] => True
    | t :: ts => okP ar t ∧ okL ts
theorem okP_iff {ar : List Int} {t : T} : okP ar t ↔ partErr ar t.v t.f t.args.length = 0 ∧ okP.okL ar t.args := by cases t; exact Iff.rfl
theorem okL_cons {ar : List Int} {t : T} {ts : List T} : okP.okL ar (t :: ts) ↔ okP ar t ∧ okP.okL ar ts := Iff.rfl
theorem okL_mem {ar : List Int} {ts : List T} : okP.okL ar ts ↔ ∀ t, t ∈ ts → okP ar t := by
  induction ts with
  | nil => simp [okP.okL]
  | cons t ts ih => rw [okL_cons, ih]; simp
theorem look_ok {ar : List Int} : ∀ (n : Nat), (∀ (t : T) (s : Int), t.sz ≤ n → okP ar t → lookT (partStep ar) s t = (0, true)) ∧ (∀ (ts : List T) (s : Int), T.sz.szL ts ≤ n → okP.okL ar ts → ∃ s', lookT.lookL (partStep ar) s ts = (s', true) ∧ (ts ≠ [] → s' = 0)) := by
  intro n
  induction n with
  | zero =>
    refine ⟨fun t s hn => by have := t.sz_pos; omega, fun ts s hn _ => ?_⟩
    cases ts with
    | nil => exact ⟨s, rfl, fun h => absurd rfl h⟩
    | cons t ts => have := t.sz_pos; rw [T.szL_cons] at hn; omega
  | succ n ih =>
    have h1 : ∀ (t : T) (s : Int), t.sz ≤ n + 1 → okP ar t → lookT (partStep ar) s t = (0, true) := fun t s hn hok => by
      rw [T.sz_eq] at hn
      obtain ⟨hp, hl⟩ := okP_iff.1 hok
      obtain ⟨s', hs', _⟩ := ih.2 t.args s (by omega) hl
      rw [lookT_eq, hs']
      simp [partStep, hp]
    refine ⟨h1, fun ts => ?_⟩
    induction ts with
    | nil => intro s _ _; exact ⟨s, rfl, fun h => absurd rfl h⟩
    | cons t ts iht =>
      intro s hn hok
      rw [T.szL_cons] at hn
      obtain ⟨hp, hl⟩ := okL_cons.1 hok
      rw [lookL_cons, h1 t s (by omega) hp]
      obtain ⟨s', hs', h0⟩ := iht 0 (by omega) hl
      refine ⟨s', by simpa using hs', fun _ => ?_⟩
      cases ts with
      | nil => rw [lookL_nil] at hs'; simp at hs'; exact hs'.symm
      | cons a b => exact h0 (by simp)
theorem look_not {ar : List Int} : ∀ (n : Nat), (∀ (t : T) (s : Int), t.sz ≤ n → ((lookT (partStep ar) s t).2 = true → okP ar t) ∧ ((lookT (partStep ar) s t).2 = false → (lookT (partStep ar) s t).1 ≠ 0)) ∧
    (∀ (ts : List T) (s : Int), T.sz.szL ts ≤ n → ((lookT.lookL (partStep ar) s ts).2 = true → okP.okL ar ts) ∧ ((lookT.lookL (partStep ar) s ts).2 = false → (lookT.lookL (partStep ar) s ts).1 ≠ 0)) := by
  intro n
  induction n with
  | zero =>
    refine ⟨fun t s hn => by have := t.sz_pos; omega, fun ts s hn => ?_⟩
    cases ts with
    | nil => exact ⟨fun _ => trivial, fun h => by cases h⟩
    | cons t ts => have := t.sz_pos; rw [T.szL_cons] at hn; omega
  | succ n ih =>
    have h1 : ∀ (t : T) (s : Int), t.sz ≤ n + 1 → ((lookT (partStep ar) s t).2 = true → okP ar t) ∧ ((lookT (partStep ar) s t).2 = false → (lookT (partStep ar) s t).1 ≠ 0) := fun t s hn => by
      rw [T.sz_eq] at hn
      obtain ⟨h2, h3⟩ := ih.2 t.args s (by omega)
      rw [lookT_eq]
      by_cases h : (lookT.lookL (partStep ar) s t.args).2 = false
      · rw [if_pos h]
        exact ⟨fun h' => (by cases h'), fun _ => h3 h⟩
      · rw [if_neg h]
        have hl := h2 (by simpa using h)
        refine ⟨fun h' => okP_iff.2 ⟨by simpa [partStep] using h', hl⟩, fun h' => by simpa [partStep] using h'⟩
    refine ⟨h1, fun ts => ?_⟩
    induction ts with
    | nil => intro s _; exact ⟨fun _ => trivial, fun h => by cases h⟩
    | cons t ts iht =>
      intro s hn
      rw [T.szL_cons] at hn
      obtain ⟨h2, h3⟩ := h1 t s (by omega)
      obtain ⟨h4, h5⟩ := iht (lookT (partStep ar) s t).1 (by omega)
      rw [lookL_cons]
      by_cases h : (lookT (partStep ar) s t).2 = false
      · rw [if_pos h]
        exact ⟨fun h' => (by cases h'), fun _ => h3 h⟩
      · rw [if_neg h]
        exact ⟨fun h' => okL_cons.2 ⟨h2 (by simpa using h), h4 h'⟩, h5⟩
theorem termErr_iff {ar : List Int} {t : T} : termErr ar t = 0 ↔ t.sz ≤ 120 ∧ okP ar t := by
  rw [termErr]
  by_cases h : 120 < t.sz
  · rw [if_pos h]; constructor
    · intro h'; cases h'
    · intro h'; omega
  · rw [if_neg h]
    constructor
    · intro h'
      refine ⟨by omega, ?_⟩
      obtain ⟨h2, h3⟩ := (look_not (ar := ar) _).2 [t] 0 (Nat.le_refl _)
      rcases Bool.eq_false_or_eq_true (lookT.lookL (partStep ar) 0 [t]).2 with h4 | h4
      · exact (okL_cons.1 (h2 h4)).1
      · exact absurd h' (h3 h4)
    · intro h'
      obtain ⟨s', hs', h0⟩ := (look_ok (ar := ar) _).2 [t] 0 (Nat.le_refl _) (okL_cons.2 ⟨h'.2, trivial⟩)
      rw [hs', h0 (by simp)]
theorem allErr_iff {ar : List Int} {ts : List T} : allErr ar ts = 0 ↔ sigErr ar = 0 ∧ ∀ t, t ∈ ts → t.sz ≤ 120 ∧ okP ar t := by
  have h1 : termsErr ar ts = 0 ↔ ∀ t, t ∈ ts → t.sz ≤ 120 ∧ okP ar t := by
    induction ts with
    | nil => simp [termsErr]
    | cons t ts ih =>
      rw [termsErr]
      by_cases h : termErr ar t = 0
      · rw [if_pos h, ih]; simp [termErr_iff.1 h]
      · rw [if_neg h]
        constructor
        · intro h'; exact absurd h' h
        · intro h'; exact absurd (termErr_iff.2 (h' t (by simp))) h
  rw [allErr]
  by_cases hs : sigErr ar = 0
  · rw [if_pos hs, h1]; simp [hs]
  · rw [if_neg hs]; simp [hs]
end Go.Proofs.YtbkedppkdhfpoabGreat

namespace Go.Proofs.YtbkedppkdhfpoabGreat
open Go.RowKit
def Kids (p : Nat → Prop) (w : World) : List T → List Value → Prop
  | [], cs => cs = []
  | t :: ts, cs => ∃ a cap rest, cs = .int .i64 t.v :: .int .i64 t.f :: .slice a t.args.length cap :: rest ∧ InP p w t.args a ∧ Kids p w ts rest
theorem Kids_append {p : Nat → Prop} {w : World} {ts us : List T} : ∀ {cs ds : List Value}, Kids p w ts cs → Kids p w us ds → Kids p w (ts ++ us) (cs ++ ds) := by
  induction ts with
  | nil => intro cs ds h1 h2; rw [show cs = [] from h1]; exact h2
  | cons t ts ih =>
    intro cs ds h1 h2
    obtain ⟨a, cap, rest, rfl, h0, h⟩ := h1
    exact ⟨a, cap, rest ++ ds, rfl, h0, ih h h2⟩
theorem Kids_mono {p q : Nat → Prop} {w w' : World} {ts : List T} (hs : ∀ k, p k → k < w.heap.size → q k ∧ w'.heap[k]? = w.heap[k]?) : ∀ {cs : List Value}, Kids p w ts cs → Kids q w' ts cs := by
  induction ts with
  | nil => intro cs h; exact h
  | cons t ts ih =>
    intro cs h
    obtain ⟨a, cap, rest, rfl, h0, h⟩ := h
    exact ⟨a, cap, rest, rfl, InP_mono (fun b o v hp hv => ⟨(hs b hp (lt_of_cell hv)).1, by rw [World.cell?_of_block (w := w) (a := ⟨b, o, none⟩) (hs b hp (lt_of_cell hv)).2]; exact hv⟩) _ _ _ (Nat.le_refl _) h0, ih h⟩
theorem Kids_in {p : Nat → Prop} {w : World} {g : Nat} (hpg : p g) {ts : List T} : ∀ {off : Nat} {cs : List Value}, Kids p w ts cs → (∀ j u, cs[j]? = some u → w.cell? ⟨g, off + j, none⟩ = some u) → InP p w ts (some ⟨g, off, none⟩) := by
  induction ts with
  | nil => intro off cs _ _; exact InP_nil
  | cons t ts ih =>
    intro off cs h hc
    obtain ⟨a, cap, rest, rfl, h0, h⟩ := h
    refine InP_cons.2 ⟨g, off, .slice a t.args.length cap, rfl, hpg, hc 0 _ rfl, hc 1 _ rfl, hc 2 _ rfl, In_iff.2 ⟨a, cap, rfl, h0⟩, ih h fun j u hu => ?_⟩
    rw [show off + 3 + j = off + (j + 3) from by omega]
    exact hc (j + 3) u (by simpa using hu)
end Go.Proofs.YtbkedppkdhfpoabGreat

namespace Go.Proofs.YtbkedppkdhfpoabGreat
theorem rising_ext : ∀ {a b : List Int}, a.Pairwise (· < ·) → b.Pairwise (· < ·) → (∀ x, x ∈ a ↔ x ∈ b) → a = b := by
  intro a
  induction a with
  | nil =>
    intro b _ _ h
    cases b with
    | nil => rfl
    | cons y ys => have := (h y).2 List.mem_cons_self; cases this
  | cons x xs ih =>
    intro b ha hb h
    cases b with
    | nil => have := (h x).1 List.mem_cons_self; cases this
    | cons y ys =>
      have ha := List.pairwise_cons.1 ha
      have hb := List.pairwise_cons.1 hb
      have hxy : x = y := by
        rcases List.mem_cons.1 ((h x).1 List.mem_cons_self) with e | e
        · exact e
        · rcases List.mem_cons.1 ((h y).2 List.mem_cons_self) with e2 | e2
          · exact e2.symm
          · have := ha.1 y e2; have := hb.1 x e; omega
      subst hxy
      rw [ih ha.2 hb.2 (fun z => ?_)]
      constructor
      · intro hz
        rcases List.mem_cons.1 ((h z).1 (List.mem_cons_of_mem _ hz)) with e | e
        · have := ha.1 z hz; omega
        · exact e
      · intro hz
        rcases List.mem_cons.1 ((h z).2 (List.mem_cons_of_mem _ hz)) with e | e
        · have := hb.1 z hz; omega
        · exact e
def spot (x : Int) (out : List Int) : Nat → Nat
  | 0 => 0
  | n + 1 => if out.getD n 0 > x then spot x out n else n + 1
def rise1 (out : List Int) (x : Int) : List Int := out.take (spot x out out.length) ++ x :: out.drop (spot x out out.length)
def rising (l : List Int) : List Int := l.foldl rise1 []
theorem compact_facts (zs : List Int) (h : zs.Pairwise (· ≤ ·)) : (Lib.compact zs).Pairwise (· < ·) ∧ ∀ x, x ∈ Lib.compact zs ↔ x ∈ zs := by
  have hg : ∀ j (hj : j < zs.length), zs.toArray[j]! = zs[j] := fun j hj => by
    rw [getElem!_pos _ _ (by simpa using hj)]; simp
  have key : ∀ m, m ≤ zs.length → (Lib.compactUpTo zs.toArray m).Pairwise (· < ·) ∧ ∀ x, x ∈ Lib.compactUpTo zs.toArray m ↔ x ∈ zs.take m := by
    intro m
    induction m with
    | zero => intro _; exact ⟨by rw [Lib.compactUpTo]; simp, fun x => by rw [Lib.compactUpTo]; simp⟩
    | succ m ih =>
      intro hm
      obtain ⟨h1, h2⟩ := ih (by omega)
      have ht : zs.take (m + 1) = zs.take m ++ [zs[m]] := by rw [List.take_add_one, List.getElem?_eq_getElem (by omega)]; rfl
      rw [Lib.compactUpTo_succ, ht]
      have hle : ∀ j (hj : j < m), zs[j] ≤ zs[m - 1] := fun j hj => by
        rcases Nat.lt_or_ge j (m - 1) with h3 | h3
        · exact List.pairwise_iff_getElem.1 h j (m - 1) (by omega) (by omega) h3
        · have : j = m - 1 := by omega
          subst this; exact Int.le_refl _
      by_cases hk : m = 0 ∨ zs.toArray[m]! ≠ zs.toArray[m - 1]!
      · rw [if_pos (by simpa [Lib.keeps] using hk), hg m (by omega)]
        refine ⟨List.pairwise_append.2 ⟨h1, List.pairwise_singleton _ _, fun a ha b hb => ?_⟩, fun x => by rw [List.mem_append, List.mem_append, h2]⟩
        have hb : b = zs[m] := by simpa using hb
        subst hb
        obtain ⟨j, hj, rfl⟩ := List.mem_iff_getElem.1 ((h2 a).1 ha)
        rw [List.length_take] at hj
        rw [List.getElem_take]
        rcases hk with hk | hk
        · omega
        · rw [hg m (by omega), hg (m - 1) (by omega)] at hk
          have h4 := hle j (by omega)
          have h5 := List.pairwise_iff_getElem.1 h (m - 1) m (by omega) (by omega) (by omega)
          omega
      · have hm0 : 0 < m := by omega
        have he : zs[m] = zs[m - 1] := by
          rw [← hg m (by omega), ← hg (m - 1) (by omega)]
          rcases Classical.em (zs.toArray[m]! = zs.toArray[m - 1]!) with e | e
          · exact e
          · exact absurd (Or.inr e) hk
        rw [if_neg (by simpa [Lib.keeps] using hk), List.append_nil]
        refine ⟨h1, fun x => ?_⟩
        rw [h2, List.mem_append, List.mem_singleton]
        constructor
        · exact Or.inl
        · rintro (h | rfl)
          · exact h
          · rw [he]
            refine List.mem_iff_getElem.2 ⟨m - 1, by rw [List.length_take]; omega, by rw [List.getElem_take]⟩
  obtain ⟨h1, h2⟩ := key zs.length (Nat.le_refl _)
  exact ⟨h1, fun x => by rw [Lib.compact, h2, List.take_length]⟩
theorem sort_facts (zs : List Int) : (zs.mergeSort fun x y => decide (x ≤ y)).Pairwise (· ≤ ·) ∧ ∀ x, x ∈ (zs.mergeSort fun x y => decide (x ≤ y)) ↔ x ∈ zs := by
  refine ⟨(List.pairwise_mergeSort (le := fun x y : Int => decide (x ≤ y)) (fun a b c h1 h2 => by simp only [decide_eq_true_eq] at *; omega) (fun a b => by simp only [Bool.or_eq_true, decide_eq_true_eq]; omega) zs).imp (fun h => by simpa using h), fun x => List.mem_mergeSort⟩
end Go.Proofs.YtbkedppkdhfpoabGreat
