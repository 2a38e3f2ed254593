/- The world that something stands on, and blocks beside it that stay. -/
import Derived.Test.YtjkkpdflijjllaaTurns
namespace Go.Proofs.Ytjkkpdflijjllaa
open Go.RowKit

/-- The world that a pair stands on, blocks beside it, and a world in which they lie as they lie. -/
structure Base where
  w : World
  K : List Nat
  Z : World
abbrev Base.plain (w : World) : Base := ⟨w, [], w⟩
/-- What is beside it stays. -/
def Stay (b : Base) (X : World) (G : List Nat) : Prop := b.Z.heap.size ≤ X.heap.size ∧ ∀ k ∈ b.K, k < b.Z.heap.size ∧ k ∉ G ∧ X.heap[k]? = b.Z.heap[k]?
theorem Stay.next {b : Base} {X Y : World} {G G' H : List Nat} (h : Stay b X G) (ht : Turns H X Y) (hH : ∀ i ∈ H, i ∈ G) (hG : ∀ i ∈ G', i ∈ G ∨ X.heap.size ≤ i) : Stay b Y G' := by
  obtain ⟨h1, h2⟩ := h
  refine ⟨Nat.le_trans h1 ht.size, fun k hk => ?_⟩
  obtain ⟨a, c, d⟩ := h2 k hk
  refine ⟨a, fun hm => ?_, (ht.block k (by omega) fun hm => c (hH k hm)).trans d⟩
  rcases hG k hm with h | h
  · exact c h
  · omega
theorem Stay.pre {b : Base} {X Y : World} {G : List Nat} (h : Stay b X G) (ht : Turns [] X Y) : Stay b Y G := h.next ht (by simp) fun _ h => .inl h
theorem Stay.plain {w X : World} (h : w.heap.size ≤ X.heap.size) (G : List Nat) : Stay (.plain w) X G := ⟨h, by simp⟩
theorem Stay.mono {b : Base} {X : World} {G G' : List Nat} (h : Stay b X G) (hG : ∀ i ∈ G', i ∈ G) : Stay b X G' := ⟨h.1, fun k hk => ⟨(h.2 k hk).1, fun hm => (h.2 k hk).2.1 (hG k hm), (h.2 k hk).2.2⟩⟩
/-- Blocks that are new are held from now on. -/
theorem Stay.hold {b : Base} {X Y : World} {G : List Nat} (h : Stay b X G) (ht : Turns [] X Y) (K : List Nat) (hK : ∀ k ∈ K, X.heap.size ≤ k ∧ k < Y.heap.size) (hG : ∀ i ∈ G, i < X.heap.size) : Stay ⟨b.w, K ++ b.K, Y⟩ Y G := by
  refine ⟨Nat.le_refl _, fun k hk => ?_⟩
  rcases List.mem_append.1 hk with hk | hk
  · exact ⟨(hK k hk).2, fun hm => by have := hG k hm; have := (hK k hk).1; omega, rfl⟩
  · obtain ⟨a, c, d⟩ := h.2 k hk
    have := h.1
    have := ht.size
    exact ⟨by show k < Y.heap.size; omega, c, rfl⟩
theorem Stay.block {b : Base} {X : World} {G : List Nat} (h : Stay b X G) {k : Nat} (hk : k ∈ b.K) : X.heap[k]? = b.Z.heap[k]? := (h.2 k hk).2.2
theorem Stay.cell {b : Base} {X : World} {G : List Nat} (h : Stay b X G) {k : Nat} (hk : k ∈ b.K) (j : Nat) : X.cell? ⟨k, j, none⟩ = b.Z.cell? ⟨k, j, none⟩ := World.cell?_of_block (a := ⟨k, j, none⟩) (h.block hk)
/-- Where all but some blocks may have been turned. -/
theorem turns_but {w X Z : World} (hX : Turns [] w X) (hZ : Turns [] w Z) (hs : X.heap.size ≤ Z.heap.size) {K : List Nat} (hK : ∀ k ∈ K, Z.heap[k]? = X.heap[k]?) : Turns ((List.range X.heap.size).filter fun i => decide (i ∉ K)) X Z :=
  ⟨hZ.os.trans hX.os.symm, hZ.tape.trans hX.tape.symm, hZ.output.trans hX.output.symm, hs, fun i hi hn => by
    refine hK i ?_
    apply Classical.byContradiction
    intro hm
    exact hn (List.mem_filter.2 ⟨List.mem_range.2 hi, by simpa using hm⟩)⟩
theorem not_but {X : World} {K : List Nat} {i : Nat} (hi : i ∈ K) : i ∉ (List.range X.heap.size).filter fun i => decide (i ∉ K) := fun hm => by
  have := (List.mem_filter.1 hm).2
  simp [hi] at this
end Go.Proofs.Ytjkkpdflijjllaa
