/- The table of the document's own order: one row more, and its start. -/
import Derived.Test.YthlcghimjfgedaaGrefP
import Derived.Test.YthlcghimjfgedaaOrdLaw
namespace Go.Proofs.Ythlcghimjfgedaa
open Go.RowKit

/-- One row more, of nothing true yet. -/
theorem TT.row {K R C n : Nat} {rb : Nat → Nat} {w : World} {M : Nat → Nat → Bool} (h : TT K R C n rb w M) (hn : n < R) : TT K R C (n + 1) (fun i => if i = n then w.heap.size else rb i) ((w.setCell ⟨K, n, none⟩ (.slice (some ⟨w.heap.size, 0, none⟩) C C)).alloc (.cells (rowB C) 4)) (fun i j => if i = n then false else M i j) := by
  have hlK := h.ltK
  have hs : (w.setCell ⟨K, n, none⟩ (.slice (some ⟨w.heap.size, 0, none⟩) C C)).heap.size = w.heap.size := by simp [World.setCell]
  have eK : ∀ k, ((w.setCell ⟨K, n, none⟩ (.slice (some ⟨w.heap.size, 0, none⟩) C C)).alloc (.cells (rowB C) 4)).cell? ⟨K, k, none⟩ = (w.setCell ⟨K, n, none⟩ (.slice (some ⟨w.heap.size, 0, none⟩) C C)).cell? ⟨K, k, none⟩ := fun k => cell_alloc_lt (by rw [hs]; exact hlK)
  have eN : ((w.setCell ⟨K, n, none⟩ (.slice (some ⟨w.heap.size, 0, none⟩) C C)).alloc (.cells (rowB C) 4)).heap[w.heap.size]? = some (.cells (rowB C) 4) := by
    have h9 := heap_alloc_new (w.setCell ⟨K, n, none⟩ (.slice (some ⟨w.heap.size, 0, none⟩) C C)) (.cells (rowB C) 4)
    rw [hs] at h9; exact h9
  have eR : ∀ i, i < n → ((w.setCell ⟨K, n, none⟩ (.slice (some ⟨w.heap.size, 0, none⟩) C C)).alloc (.cells (rowB C) 4)).heap[rb i]? = w.heap[rb i]? := fun i hi => by
    have h1 := h.gtK i hi
    have h2 := h.lt i hi
    rw [Below.heap_alloc _ _ _ (by rw [hs]; exact h2)]
    exact Below.heap_setCell _ _ _ _ (show rb i ≠ K by omega)
  refine ⟨fun i hi => ?_, fun i hi => ?_, fun i => ?_, fun i j hi hj => ?_, fun i j hi => ?_, fun i hi => ?_, fun i hi => ?_, fun i j hi hj he => ?_, by rw [World.size_alloc, hs]; omega⟩
  · rw [eK]
    by_cases e : i = n
    · subst e
      obtain ⟨v, hv⟩ := h.ex i hn
      rw [World.cell?_setCell_same _ _ _ hv, if_pos rfl]
    · rw [World.cell?_setCell_other _ _ _ _ (addr_ne (by omega)), if_neg e]; exact h.rows i (by omega)
  · rw [eK]
    obtain ⟨v, hv⟩ := h.ex i hi
    by_cases e : i = n
    · subst e; exact ⟨_, World.cell?_setCell_same _ _ _ hv⟩
    · exact ⟨v, by rw [World.cell?_setCell_other _ _ _ _ (addr_ne (by omega))]; exact hv⟩
  · rw [World.frozen?_of_block (w := w.setCell ⟨K, n, none⟩ (.slice (some ⟨w.heap.size, 0, none⟩) C C)) (a := ⟨K, i, none⟩) (Below.heap_alloc _ _ _ (by rw [hs]; exact hlK)), World.frozen?_setCell]; exact h.frK i
  · by_cases e : i = n
    · simp only [if_pos e]
      rw [cell_new j hs.symm]; exact rowB_at hj
    · simp only [if_neg e]
      rw [World.cell?_of_block (w := w) (a := ⟨rb i, j, none⟩) (eR i (by omega))]; exact h.ent i j (by omega) hj
  · by_cases e : i = n
    · simp only [if_pos e]
      exact frozen_of_heap eN j
    · simp only [if_neg e]
      rw [World.frozen?_of_block (w := w) (a := ⟨rb i, j, none⟩) (eR i (by omega))]; exact h.fr i j (by omega)
  · by_cases e : i = n
    · simp only [if_pos e]; exact hlK
    · simp only [if_neg e]; exact h.gtK i (by omega)
  · rw [World.size_alloc, hs]
    by_cases e : i = n
    · simp only [if_pos e]; omega
    · simp only [if_neg e]; have := h.lt i (by omega); omega
  · by_cases e : i = n
    · by_cases e2 : j = n
      · omega
      · simp only [if_pos e, if_neg e2] at he
        have := h.lt j (by omega); omega
    · by_cases e2 : j = n
      · simp only [if_neg e, if_pos e2] at he
        have := h.lt i (by omega); omega
      · simp only [if_neg e, if_neg e2] at he
        exact h.inj i j (by omega) (by omega) he
theorem TT.start (WB : World) (R C : Nat) : TT WB.heap.size R C 0 (fun _ => 0) (WB.alloc (.cells (rowT R) 113)) (fun _ _ => false) := by
  refine ⟨fun i hi => by omega, fun i hi => ?_, fun i => frozen_new i rfl, fun i j hi => by omega, fun i j hi => by omega, fun i hi => by omega, fun i hi => by omega, fun i j hi => by omega, by simp⟩
  rw [cell_new i rfl]
  have h : i < (rowT R).size := by rw [rowT, size_madeCells]; omega
  exact ⟨(rowT R)[i], Array.getElem?_eq_getElem h⟩

end Go.Proofs.Ythlcghimjfgedaa
