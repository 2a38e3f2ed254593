/- How far the document's Clock has come: its windows, what closed. -/
import Derived.Test.YtjkkpdflijjllaaWnAddQ
namespace Go.Proofs.Ytjkkpdflijjllaa
open Go.RowKit

structure CloL (B : Nat) (w : World) (rv : Nat) (G : List Nat) (K : List Nat) (v4 : Value) (S4 : Ws) (vl : Value) (Rl : List Rw) (Ll : List Wn) (W : World) : Prop where
  ref : RefW B W rv K v4 S4
  own : wK.Own w.heap.size W vl Rl
  rds : WRds W K Rl Ll
  tt : Turns [rv] w W
  foot : ∀ i ∈ K, i ∈ G ∨ w.heap.size ≤ i
  ap : ∀ i ∈ ownB vl, i ∉ K
  lt : rv < w.heap.size ∧ B ≤ w.heap.size
def lenV : Value → Nat
  | .slice _ n _ => n
  | _ => 0
section
variable {B : Nat} {w W W' : World} {rv : Nat} {G K : List Nat} {v4 : Value} {S4 : Ws} {vl : Value} {Rl : List Rw} {Ll : List Wn}
theorem CloL.start {v : Value} {S : Ws} (h : RefW B w rv G v S) (hB : B ≤ w.heap.size) : CloL B w rv G G v S (.slice none 0 0) [] [] w :=
  ⟨h, World.ownsRow_nil _ _ _ _, .nil, Turns.refl _ _, fun i hi => .inl hi, by simp [ownB, Value.ownBlock], h.lt, hB⟩
theorem CloL.next (h : CloL B w rv G K v4 S4 vl Rl Ll W) (ht : Turns [] W W') : CloL B w rv G K v4 S4 vl Rl Ll W' :=
  ⟨h.ref.pre ht, h.own.turns ht (by simp), h.rds.turns ht (by simp), h.tt.trans ht (by simp), h.foot, h.ap, h.lt⟩
theorem CloL.first (h : CloL B w rv G K v4 S4 vl Rl Ll W) {K' : List Nat} {v' : Value} {S' : Ws} (hr : RefW B W' rv K' v' S') (ht : Turns [rv] W W') (hK : ∀ i ∈ K, i ∈ K') (hK' : ∀ i ∈ K', i ∈ K ∨ W.heap.size ≤ i) : CloL B w rv G K' v' S' vl Rl Ll W' := by
  have hn : ∀ i ∈ K, i ∉ [rv] := fun i hi hm => h.ref.ne (by rw [List.mem_singleton] at hm; rw [← hm]; exact hi)
  have hlt := h.lt
  have hs := h.tt.size
  refine ⟨hr, h.own.turns ht (fun i hi hm => ?_), (h.rds.turns ht hn).mono hK, h.tt.after ht (fun i hi => hi), fun i hi => ?_, fun i hi hi' => ?_, h.lt⟩
  · have := (h.own.foot i (by simp [ownB, hi])).1
    rw [List.mem_singleton] at hm
    omega
  · rcases hK' i hi with h1 | h1
    · exact h.foot i h1
    · exact .inr (by omega)
  · have := (h.own.foot i hi).2
    rcases hK' i hi' with h1 | h1
    · exact h.ap i hi h1
    · omega
theorem CloL.app (h : CloL B w rv G K v4 S4 vl Rl Ll W) {vl' : Value} {R2 : List Rw} {L2 : List Wn} (hown : wK.Own w.heap.size W' vl' (Rl ++ R2)) (ht : Turns (ownB vl) W W') (hf : ∀ i ∈ ownB vl', i ∈ ownB vl ∨ i = W.heap.size) (h2 : WRds W K R2 L2) : CloL B w rv G K v4 S4 vl' (Rl ++ R2) (Ll ++ L2) W' := by
  have hK : ∀ i ∈ K, i ∉ ownB vl := fun i hi hm => h.ap i hm hi
  have hlt := h.lt
  have hrv : rv ∉ ownB vl := fun hi => by have := (h.own.foot _ hi).1; omega
  refine ⟨h.ref.turns ht hrv hK, hown, (h.rds.turns ht hK).append (h2.turns ht hK), h.tt.trans ht fun i hi => .inr (h.own.foot i hi).1, h.foot, fun i hi hi' => ?_, h.lt⟩
  rcases hf i hi with h1 | h1
  · exact h.ap i h1 hi'
  · have := (h.ref.foot i hi').2; omega
theorem CloL.floor (h : CloL B w rv G K v4 S4 vl Rl Ll W) (n : Int) : CloL B w rv G K v4 { S4 with floor := n } vl Rl Ll (W.setCell ⟨rv, 4, none⟩ (.int .i64 n)) := by
  have ht : Turns [rv] W (W.setCell ⟨rv, 4, none⟩ (.int .i64 n)) := Turns.setCell _ _ _ (by simp)
  exact h.first (h.ref.put 4 _ rfl rfl) ht (fun i hi => hi) fun i hi => .inl hi
theorem CloL.fin (h : CloL B w rv G K v4 S4 vl Rl Ll W) : ∃ H, WnL W H vl Ll ∧ RefW B W rv K v4 S4 ∧ Turns [rv] w W ∧ (∀ i ∈ K, i ∈ G ∨ w.heap.size ≤ i) ∧ ∀ i ∈ H, i ∈ G ∨ w.heap.size ≤ i :=
  ⟨ownB vl ++ K, WnL.built h.own (h.rds.mono fun i hi => List.mem_append.2 (.inr hi)) fun i hi => List.mem_append.2 (.inl hi), h.ref, h.tt, h.foot, fun i hi => by
    rcases List.mem_append.1 hi with h1 | h1
    · exact .inr (h.own.foot i h1).1
    · exact h.foot i h1⟩
end
end Go.Proofs.Ytjkkpdflijjllaa
