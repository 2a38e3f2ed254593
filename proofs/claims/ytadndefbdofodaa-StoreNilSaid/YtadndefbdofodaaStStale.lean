/- The document's Put: its second loop, in memory. -/
import Derived.Test.YtadndefbdofodaaStPutP
namespace Go.Proofs.Ytadndefbdofodaa
open Go.RowKit

/-- The store's list when k of its series have been looked at. -/
def stL (owner : Int) (l : List Smp) (k : Nat) (L : List One) : List One := (L.take k).map (staleB owner l) ++ L.drop k
section
variable {B : Nat} {w : World} {rv : Nat} {v : Value} {most : Nat} {L : List One} {r : List Sn × List One} {o : Value} {W W' : World} {owner : Int} {l : List Smp}
theorem stL_zero : stL owner l 0 L = L := rfl
theorem stL_all : stL owner l L.length L = L.map (staleB owner l) := by simp [stL]
theorem stL_len (k : Nat) : (stL owner l k L).length = L.length := by
  simp only [stL, List.length_append, List.length_map, List.length_take, List.length_drop]
  omega
theorem stL_at {k : Nat} {y : One} (h : L[k]? = some y) : (stL owner l k L)[k]? = some y := by
  have hk := (List.getElem?_eq_some_iff.1 h).1
  unfold stL
  rw [List.getElem?_append_right (by simp; omega)]
  simp only [List.length_map, List.length_take, List.getElem?_drop]
  rw [show k + (k - min k L.length) = k by omega]
  exact h
theorem stL_next {k : Nat} {y : One} (h : L[k]? = some y) : stL owner l (k + 1) L = (stL owner l k L).set k (staleB owner l y) := by
  have hk := (List.getElem?_eq_some_iff.1 h).1
  have h2 : L[k] = y := (List.getElem?_eq_some_iff.1 h).2
  unfold stL
  rw [List.take_add_one, h, List.drop_eq_getElem_cons hk, h2, List.set_append_right _ _ (by simp; omega)]
  simp [show k - min k L.length = 0 by omega]
theorem stL_keep {k : Nat} {y : One} (h : L[k]? = some y) (he : staleB owner l y = y) : stL owner l (k + 1) L = stL owner l k L := by
  rw [stL_next h, he]
  have e := stL_at (owner := owner) (l := l) h
  obtain ⟨hk, e⟩ := List.getElem?_eq_some_iff.1 e
  rw [← e]
  exact List.set_getElem_self hk
theorem amongB_next {k : Nat} {x : Smp} (h : l[k]? = some x) (n : ByteArray) : amongB (l.take (k + 1)) n = (amongB (l.take k) n || eqN x.name n) := by
  unfold amongB
  rw [List.take_add_one, h]
  simp
/-- A series goes stale. -/
theorem RefS.live (h : RefS B W rv v most L) {g k c : Nat} {y : One} (hv : v = .slice (some ⟨g, 0, none⟩) L.length c) (hy : L[k]? = some y) : RefS B (W.setCell ⟨g, k * 7 + 1 + 4, none⟩ (.bool false)) rv v most (L.set k ⟨y.name, ⟨y.l.s, false, y.l.own⟩⟩) := by
  have ht := Turns.setCell (F := [g]) W ⟨g, k * 7 + 1 + 4, none⟩ (.bool false) (by simp)
  have hg : rv ∉ [g] := fun hm => h.ne (by rw [hv]; simpa [ownB, Value.ownBlock] using hm)
  refine ⟨(ht.block rv h.lt hg).trans h.head, ?_, h.low, h.ne⟩
  have h3 := h.own
  rw [hv] at h3 ⊢
  unfold EK.Own at h3 ⊢
  rw [List.length_set, flatO_live L k y false hy]
  exact own_cell h3 _ _
theorem PutI.live {v' : Value} {g k c : Nat} {y : One} (h : PutI B w rv v most r o W) (hS : RefS B W rv v' most r.2) (h2 : ∀ i ∈ ownB v', i ∈ ownB v ∨ w.heap.size ≤ i) (h3 : ∀ i ∈ ownB o, i ∉ ownB v') (hv : v' = .slice (some ⟨g, 0, none⟩) r.2.length c) (hy : r.2[k]? = some y) :
    PutI B w rv v most (r.1, r.2.set k ⟨y.name, ⟨y.l.s, false, y.l.own⟩⟩) o (W.setCell ⟨g, k * 7 + 1 + 4, none⟩ (.bool false)) := by
  have ht := Turns.setCell (F := [g]) W ⟨g, k * 7 + 1 + 4, none⟩ (.bool false) (by simp)
  have hg : g ∈ ownB v' := by rw [hv]; simp [ownB, Value.ownBlock]
  refine ⟨h.out.turns ht (fun i hi hm => ?_), ⟨v', hS.live hv hy, h2, h3⟩, h.tt.trans ht (fun i hi => ?_), h.low⟩
  · rw [List.mem_singleton] at hm
    subst hm
    exact h3 i (by unfold ownB; rw [hi]; simp) hg
  · rw [List.mem_singleton] at hi
    subst hi
    exact (h2 i hg).imp (List.mem_cons_of_mem _) id
end
end Go.Proofs.Ytadndefbdofodaa
