/- The document's Put: how far its first loop has come. -/
import Derived.Test.YtadndefbdofodaaStAny
namespace Go.Proofs.Ytadndefbdofodaa
open Go.RowKit

/-- How far the first loop has come: what it answers so far and the store's list. -/
structure PutI (B : Nat) (w : World) (rv : Nat) (v : Value) (most : Nat) (r : List Sn × List One) (o : Value) (W : World) : Prop where
  out : nK.Own w.heap.size W o r.1
  old : ∃ v', RefS B W rv v' most r.2 ∧ (∀ i ∈ ownB v', i ∈ ownB v ∨ w.heap.size ≤ i) ∧ ∀ i ∈ ownB o, i ∉ ownB v'
  tt : Turns (rv :: ownB v) w W
  low : rv < w.heap.size
section
variable {B : Nat} {w : World} {rv : Nat} {v : Value} {most : Nat} {L : List One} {r : List Sn × List One} {o : Value} {W W' : World}
theorem PutI.start (h : RefS B w rv v most L) : PutI B w rv v most ([], L) (.slice none 0 0) w :=
  ⟨World.ownsRow_nil _ _ _ _, ⟨v, h, fun i hi => .inl hi, fun i hi => by simp [ownB, Value.ownBlock] at hi⟩, Turns.refl _ _, h.lt⟩
theorem PutI.rvo (h : PutI B w rv v most r o W) : rv ∉ ownB o := fun hm => by have := (h.out.foot rv hm).1; have := h.low; omega
theorem PutI.next (h : PutI B w rv v most r o W) (ht : Turns [] W W') : PutI B w rv v most r o W' := by
  obtain ⟨v', h1, h2, h3⟩ := h.old
  exact ⟨h.out.turns ht (by simp), ⟨v', h1.pre ht, h2, h3⟩, h.tt.trans ht (by simp), h.low⟩
theorem PutI.one {v' : Value} {q : Sn × List One} {e : Ending} (h : PutI B w rv v most r o W) (h2 : ∀ i ∈ ownB v', i ∈ ownB v ∨ w.heap.size ≤ i) (h3 : ∀ i ∈ ownB o, i ∉ ownB v') (hq : OneR B W rv v' most q e W') : PutI B w rv v most (r.1, q.2) o W' := by
  obtain ⟨_, v1, hS, hT, hF⟩ := hq
  have hr := h.rvo
  refine ⟨h.out.turns hT (fun g hg => ?_), ⟨v1, hS, fun i hi => ?_, fun i hi hm => ?_⟩, h.tt.trans hT (fun i hi => ?_), h.low⟩
  · have hm : g ∈ ownB o := by unfold ownB; rw [hg]; simp
    rw [List.mem_cons]
    rintro (rfl | h4)
    · exact hr hm
    · exact h3 g hm h4
  · rcases hF i hi with h4 | h4
    · exact h2 i h4
    · exact .inr (Nat.le_trans h.tt.size h4)
  · rcases hF i hm with h4 | h4
    · exact h3 i hi h4
    · have := (h.out.foot i hi).2; omega
  · rw [List.mem_cons] at hi
    rcases hi with rfl | h4
    · exact .inl (List.mem_cons_self ..)
    · exact (h2 i h4).imp (List.mem_cons_of_mem _) id
theorem PutI.app {o' : Value} {l2 : List Sn} (h : PutI B w rv v most r o W) (ho : nK.Own w.heap.size W' o' (r.1 ++ l2)) (ht : Turns (ownB o) W W') (hf : ∀ i ∈ ownB o', i ∈ ownB o ∨ i = W.heap.size) : PutI B w rv v most (r.1 ++ l2, r.2) o' W' := by
  obtain ⟨v', h1, h2, h3⟩ := h.old
  refine ⟨ho, ⟨v', h1.turns ht h.rvo (fun i hi hm => h3 i hm hi), h2, fun i hi hm => ?_⟩, h.tt.trans ht (fun i hi => .inr (h.out.foot i hi).1), h.low⟩
  rcases hf i hi with h4 | h4
  · exact h3 i h4 hm
  · have := (h1.own.foot i hm).2; omega
theorem putsP_take (most : Nat) (owner : Int) {l : List Smp} {k : Nat} {x : Smp} (hx : l[k]? = some x) (L : List One) : putsP most owner (l.take (k + 1)) L = ((putsP most owner (l.take k) L).1 ++ [(oneP most owner x (putsP most owner (l.take k) L).2).1], (oneP most owner x (putsP most owner (l.take k) L).2).2) := by
  rw [List.take_add_one, hx]
  exact putsP_snoc most owner x _ L
theorem putsP_len (most : Nat) (owner : Int) : ∀ (l : List Smp) (L : List One), (putsP most owner l L).1.length = l.length ∧ (putsP most owner l L).2.length ≤ L.length + l.length
  | [], L => ⟨rfl, Nat.le_refl _⟩
  | x :: l, L => by
    have h1 := oneP_len most owner x L
    have h2 := putsP_len most owner l (oneP most owner x L).2
    simp only [putsP, List.length_cons]
    omega
end
end Go.Proofs.Ytadndefbdofodaa
