/- What a call turns: the blocks that may change (for a seat that has no slices of bytes: fill it under the name Turns). -/
import Derived.Test.YtjkkpdflijjllaaProg
import Derived.WalkKit
import Derived.WalkSpells
import Derived.WalkLawsBesides
import Derived.Lib.Hide
import Derived.Laws.BitsAllLaws
import Derived.Laws.AppendOwn
import Derived.OwnWalk
import Derived.Deep.DeepCutAuto
import Derived.Deep.CutBlock
import Derived.Laws.AppendOwnNone
import Derived.Maps.OwnSet
import Derived.Maps.AppendAt
import Derived.OneCell
import Derived.BigQuiet
import Derived.Deep.QuietTactic
namespace Go.Proofs.Ytjkkpdflijjllaa
open Go.RowKit

theorem add_plain' (b off j : Nat) : (⟨b, off, none⟩ : Addr).add j = ⟨b, off + j, none⟩ := by
  unfold Addr.add
  split <;> simp_all
theorem below_alloc {B : Nat} {w : World} (h : B ≤ w.heap.size) (o : Obj) : Below B w (w.alloc o) := (Below.refl _ _).alloc h o
theorem le_alloc {B : Nat} {w : World} (h : B ≤ w.heap.size) (o : Obj) : B ≤ (w.alloc o).heap.size := Nat.le_trans h (by simp)
/-! What a call turns -/
structure Turns (F : List Nat) (w w' : World) : Prop where
  os : w'.os = w.os
  tape : w'.tape = w.tape
  output : w'.output = w.output
  size : w.heap.size ≤ w'.heap.size
  block : ∀ i, i < w.heap.size → i ∉ F → w'.heap[i]? = w.heap[i]?
theorem Turns.refl (F : List Nat) (w : World) : Turns F w w := ⟨rfl, rfl, rfl, Nat.le_refl _, fun _ _ _ => rfl⟩
theorem Turns.trans {F G : List Nat} {w w1 w2 : World} (h : Turns F w w1) (h2 : Turns G w1 w2) (hG : ∀ i ∈ G, i ∈ F ∨ w.heap.size ≤ i) : Turns F w w2 :=
  ⟨h2.os.trans h.os, h2.tape.trans h.tape, h2.output.trans h.output, Nat.le_trans h.size h2.size, fun i hi hn =>
    (h2.block i (Nat.lt_of_lt_of_le hi h.size) (fun hm => by rcases hG i hm with h' | h'; exact hn h'; omega)).trans (h.block i hi hn)⟩
theorem Turns.mono {F G : List Nat} {w w' : World} (h : Turns F w w') (hF : ∀ i ∈ F, i ∈ G) : Turns G w w' := ⟨h.os, h.tape, h.output, h.size, fun i hi hn => h.block i hi (fun hm => hn (hF i hm))⟩
theorem Turns.of_below {B : Nat} {w w' : World} (h : Below B w w') (hB : w.heap.size ≤ B) : Turns [] w w' := ⟨h.os, h.tape, h.output, h.size, fun i hi _ => h.block i (by omega)⟩
theorem Turns.of_grown {w w' : World} {row : Option Nat} (h : w.grownBy w' row) : Turns row.toList w w' := ⟨h.os, h.tape, h.output, h.size, fun i hi hn => h.block i hi (fun e => hn (by rw [← e]; simp))⟩
theorem Turns.below {F : List Nat} {w w' : World} {B : Nat} (h : Turns F w w') (hF : ∀ i ∈ F, B ≤ i) (hB : B ≤ w.heap.size) : Below B w w' := ⟨h.os, h.tape, h.output, h.size, fun i hi => h.block i (by omega) (fun hm => by have := hF i hm; omega)⟩
theorem Turns.alloc {F : List Nat} (w : World) (o : Obj) : Turns F w (w.alloc o) := (Turns.of_below (below_alloc (Nat.le_refl _) o) (Nat.le_refl _)).mono (by simp)
theorem Turns.setCell {F : List Nat} (w : World) (a : Addr) (v : Value) (ha : a.block ∈ F) : Turns F w (w.setCell a v) :=
  ⟨rfl, rfl, rfl, by simp, fun i _ hn => Below.heap_setCell _ _ _ _ (fun e => hn (e ▸ ha))⟩
theorem Turns.drew {F : List Nat} {w w' : World} (h : Turns F w w') : Turns F w w'.drew := ⟨h.os, h.tape, h.output, h.size, h.block⟩
theorem Turns.drewN {F : List Nat} {w w' : World} (h : Turns F w w') (n : Nat) : Turns F w (w'.drewN n) := ⟨h.os, h.tape, h.output, h.size, h.block⟩
theorem Turns.then {F : List Nat} {w w1 w2 : World} (h : Turns F w w1) (h2 : Turns F w1 w2) : Turns F w w2 := h.trans h2 fun _ hi => .inl hi
theorem Turns.after {F G : List Nat} {w w1 w2 : World} (h : Turns F w w1) (h2 : Turns G w1 w2) (hG : ∀ i ∈ G, i ∈ F) : Turns F w w2 := h.trans h2 fun i hi => .inl (hG i hi)
theorem Turns.cell {F : List Nat} {w w' : World} (h : Turns F w w') {b : Nat} (hb : b < w.heap.size) (hF : b ∉ F) (j : Nat) : w'.cell? ⟨b, j, none⟩ = w.cell? ⟨b, j, none⟩ := World.cell?_of_block (a := ⟨b, j, none⟩) (h.block b hb hF)
theorem Turns.frozen {F : List Nat} {w w' : World} (h : Turns F w w') {b : Nat} (hb : b < w.heap.size) (hF : b ∉ F) (j : Nat) : w'.frozen? ⟨b, j, none⟩ = w.frozen? ⟨b, j, none⟩ := by
  unfold World.frozen?
  simp only [h.block b hb hF]
def ownB (v : Value) : List Nat := v.ownBlock.toList
end Go.Proofs.Ytjkkpdflijjllaa
