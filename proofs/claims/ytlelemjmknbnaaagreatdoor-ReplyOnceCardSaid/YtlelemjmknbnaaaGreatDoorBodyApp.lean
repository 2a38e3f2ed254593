/- A decoder whose line, or body, grows. -/
import Derived.Test.YtlelemjmknbnaaaGreatDoorBodySize
namespace Go.Proofs.YtlelemjmknbnaaaGreatDoor
open Go.RowKit

theorem wpList_append_bytesT {w : World} {ops : Array Oper} {rest : List Oper} {o : Oper} {a : Act} {Q : Exit → Act → World → Prop} (hgd : o.guard = none) (s x : Operand)
    (ho : o.op = .call { callee := .builtin .append, args := #[s, x], argTypes := #[22, 22] })
    (base : Nat) (v : Value) (l1 : List UInt8) (hs : a.eval s = v) (hown : Owned base w v l1)
    (B : Nat) (A : Option Addr) (l2 : List UInt8) (c : Nat) (hx : a.eval x = .slice A l2.length c) (hr : BReads w B A l2) (hc : A = none → c = 0)
    (hlen : l1.length + l2.length ≤ 1000000) (hbase : base ≤ w.heap.size)
    (h : ∀ v' w', Owned base w' v' (l1 ++ l2) → Turns (ownB v) w w' → (v'.ownBlock = v.ownBlock ∨ v'.ownBlock = some w.heap.size) → wpList Tryz.prog ops Q rest (a.put o.dst v') w') : wpList Tryz.prog ops Q (o :: rest) a w := by
  obtain ⟨i0, hi, hz0, hz1, hz2⟩ := info_parts Tryz.infoU8
  cases A with
  | none =>
    have h0 := hr.hnone rfl
    have hc0 := hc rfl
    obtain rfl := List.eq_nil_of_length_eq_zero h0
    refine wpList_append_own_none hgd s x 22 ho base 5 i0 1 Tryz.underlying22 hi v l1.length (l1.map bcell) hs hown (by rw [hx, hc0]; rfl) (h v w ?_ (Turns.refl _ _) (.inl rfl))
    rw [List.append_nil]
    exact hown
  | some ad =>
    refine wpList_append_own_at w hgd s x 22 ho base 5 i0 (.int .u8 0) 1 1 Tryz.underlying22 hi hz0 hz1 hz2 rfl (by decide) v l1.length (l1.map bcell) hs hown ad l2.length c (l2.map bcell) hx (by simp) (hr.cells ad rfl) (bcell_one l2) (by unfold maxLen; omega) (by omega) hbase ?_
    intro v' w' h1 h2 _ h4
    refine h v' w' ?_ (Turns.of_grown h2) h4
    unfold Owned
    rw [map_append_len, List.map_append]
    exact h1
theorem ownB_mem {v : Value} {g : Nat} (h : v.ownBlock = some g) : g ∈ ownB v := by unfold ownB; rw [h]; simp
theorem ownB_new {v v' : Value} {n : Nat} (h : v'.ownBlock = v.ownBlock ∨ v'.ownBlock = some n) : ∀ i ∈ ownB v', i ∈ ownB v ∨ i = n := by
  intro i hi
  unfold ownB at hi ⊢
  rcases h with h | h
  · rw [h] at hi; exact .inl hi
  · rw [h] at hi; exact .inr (by simpa using hi)
namespace DecR
variable {B : Nat} {w w1 w2 : World} {p : Nat} {d : Dc} {lv bv nv v' : Value}
theorem grownLine (h : DecR B w p d lv bv nv) {l : List UInt8} (h1 : Turns [] w w1) (ho : Owned B w2 v' l) (ht : Turns (ownB lv) w1 w2) (hl : v'.ownBlock = lv.ownBlock ∨ v'.ownBlock = some w1.heap.size) :
    DecR B (w2.setCell ⟨p, 4, none⟩ v') p { d with line := l } v' bv nv ∧ Turns (foot p lv bv) w (w2.setCell ⟨p, 4, none⟩ v') ∧ ∀ g ∈ foot p v' bv, g ∈ foot p lv bv ∨ w.heap.size ≤ g := by
  have hT : Turns (ownB lv) w w2 := (h1.mono (G := ownB lv) (by simp)).trans ht (fun i hi => .inl hi)
  have hn := ownB_new hl
  have hs1 := h1.size
  have hp : p ∉ ownB v' := fun hm => by
    rcases hn p hm with h' | h'
    · exact h.offL h'
    · have := h.lt; omega
  have hS : Turns [p] w2 (w2.setCell ⟨p, 4, none⟩ v') := Turns.setCell _ _ _ (List.mem_singleton.2 rfl)
  refine ⟨⟨heap_setCell_same _ p 4 _ _ _ ((hT.block p h.lt h.offL).trans h.head), h.low, ho.turns hS (fun g hg hm => hp (by rw [List.mem_singleton] at hm; subst hm; exact ownB_mem hg)), (h.body.turns hT (fun g hg hm => h.apart g hm (ownB_mem hg))).turns hS (fun g hg hm => h.offB (by rw [List.mem_singleton] at hm; subst hm; exact ownB_mem hg)), hp, h.offB, fun g hg hb => ?_⟩, ?_, fun g hg => ?_⟩
  · rcases hn g hg with h' | h'
    · exact h.apart g h' hb
    · have := (h.ltF g (by simp [foot, hb])).2
      omega
  · exact (hT.mono (fun i hi => by simp [foot, hi])).trans (hS.mono (G := foot p lv bv) (by simp [foot])) (fun i hi => .inl hi)
  · unfold foot at hg ⊢
    rw [List.mem_cons, List.mem_append] at hg
    rcases hg with rfl | hg | hg
    · simp
    · rcases hn g hg with h' | h'
      · exact .inl (by simp [h'])
      · exact .inr (by omega)
    · exact .inl (by simp [hg])
theorem grownBody (h : DecR B w p d lv bv nv) {l : List UInt8} (h1 : Turns [] w w1) (ho : Owned B w2 v' l) (ht : Turns (ownB bv) w1 w2) (hn : ∀ i ∈ ownB v', i ∈ ownB bv ∨ i = w1.heap.size) :
    DecR B (w2.setCell ⟨p, 6, none⟩ v') p { d with body := l } lv v' nv ∧ Turns (foot p lv bv) w (w2.setCell ⟨p, 6, none⟩ v') ∧ ∀ g ∈ foot p lv v', g ∈ foot p lv bv ∨ w.heap.size ≤ g := by
  have hT : Turns (ownB bv) w w2 := (h1.mono (G := ownB bv) (by simp)).trans ht (fun i hi => .inl hi)
  have hs1 := h1.size
  have hp : p ∉ ownB v' := fun hm => by
    rcases hn p hm with h' | h'
    · exact h.offB h'
    · have := h.lt; omega
  have hS : Turns [p] w2 (w2.setCell ⟨p, 6, none⟩ v') := Turns.setCell _ _ _ (List.mem_singleton.2 rfl)
  refine ⟨⟨heap_setCell_same _ p 6 _ _ _ ((hT.block p h.lt h.offB).trans h.head), h.low, (h.line.turns hT (fun g hg hm => h.apart g (ownB_mem hg) hm)).turns hS (fun g hg hm => h.offL (by rw [List.mem_singleton] at hm; subst hm; exact ownB_mem hg)), ho.turns hS (fun g hg hm => hp (by rw [List.mem_singleton] at hm; subst hm; exact ownB_mem hg)), h.offL, hp, fun g hg hb => ?_⟩, ?_, fun g hg => ?_⟩
  · rcases hn g hb with h' | h'
    · exact h.apart g hg h'
    · have := (h.ltF g (by simp [foot, hg])).2
      omega
  · exact (hT.mono (fun i hi => by simp [foot, hi])).trans (hS.mono (G := foot p lv bv) (by simp [foot])) (fun i hi => .inl hi)
  · unfold foot at hg ⊢
    rw [List.mem_cons, List.mem_append] at hg
    rcases hg with rfl | hg | hg
    · simp
    · exact .inl (by simp [hg])
    · rcases hn g hg with h' | h'
      · exact .inl (by simp [h'])
      · exact .inr (by omega)
end DecR
/-- What a state leaves: the decoder's cells, and what takes the next byte. -/
def StP (B : Nat) (w : World) (p : Nat) (lv bv : Value) (K : List Nat) (d : Dc) (e : Ending) (w' : World) : Prop :=
  ∃ v lv' bv' nv' K', e = .returned v ∧ DecR B w' p d lv' bv' nv' ∧ NxV w' v d.nx K' ∧ Turns (foot p lv bv) w w' ∧ (∀ g ∈ foot p lv' bv', g ∈ foot p lv bv ∨ w.heap.size ≤ g) ∧ (∀ g ∈ K', g ∈ K ∨ w.heap.size ≤ g) ∧ ∀ g ∈ K', g ∉ foot p lv' bv'
end Go.Proofs.YtlelemjmknbnaaaGreatDoor
