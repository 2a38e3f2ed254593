/- A decoder that takes bytes just laid; bounds of a new one. -/
import Derived.Test.YtlelemjmknbnaaaGreatDoorBodyDk
import Derived.Test.YtlelemjmknbnaaaGreatDoorHeadLit
namespace Go.Proofs.YtlelemjmknbnaaaGreatDoor
open Go.RowKit

theorem push_lit {B : Nat} {W : World} {p : Nat} {d : Dc} {R : List Nat} (h : Dk B W p d R) (l : List UInt8) (C : Array Value) (fr : Nat × Nat) (q n : Nat) (hC : C = (l.map bcell).toArray) (hq : q = W.heap.size) (hn : n = l.length) (hb : Bnd d l.length) (hm : GX W) (hB : 1 < B) :
    Calls Tryz.prog 17 #[.pointer (some ⟨p, 0, none⟩), .slice (some ⟨q, 0, none⟩) n n] (W.alloc (.cells C 5 fr)) fun e w' => e = .returned (.int .i64 ((d.push l).1 : Int)) ∧ ∃ R', Dk B w' p (d.push l).2 R' ∧ Turns R W w' ∧ ∀ g ∈ R', g ∈ R ∨ W.heap.size ≤ g := by
  subst hn
  have hba := below_alloc (B := W.heap.size) (w := W) (Nat.le_refl _) (.cells C 5 fr)
  refine (push_dk (h.below hba) (lit_reads' W q 5 l C fr hC hq) (Nat.le_refl _) (fun a e hm => ?_) hb (hm.grown hba) hB).mono fun e w' hh => ?_
  · cases e
    have := h.lt _ hm
    simp at this
    omega
  · obtain ⟨he, R', h1, h2, h3⟩ := hh
    exact ⟨he, R', h1, ((Turns.of_below hba (Nat.le_refl _)).mono (by simp)).trans h2 (fun i hi => .inl hi), fun g hg => (h3 g hg).imp id (fun h => by simp at h; omega)⟩
theorem GX.lt {w : World} (h : GX w) : 1 < w.heap.size := by
  obtain ⟨-, ev, h1, -⟩ := h
  simpa using World.block_lt_of_cell? w ⟨1, 0, none⟩ h1
theorem bnd_made {len : Int} {ch : Bool} {room n : Nat} (hr : room < 9223372036854775808) (hn : n ≤ 100000) : Bnd (Dc.made len ch room) n := by
  unfold Dc.made
  split
  · exact ⟨by simpa using hn, by simp; omega, by simp; omega, by show 0 < 9223372036854775808; decide, hr⟩
  · split
    · exact ⟨by simpa using hn, by simp; omega, by simp; omega, hr, by show 0 < 9223372036854775808; decide⟩
    · split
      · exact ⟨by simpa using hn, by simp; omega, by simp; omega, by show 0 < 9223372036854775808; decide, by show 0 < 9223372036854775808; decide⟩
      · exact ⟨by simpa using hn, by simp; omega, by simp; omega, by show len.toNat < _; omega, by show 0 < 9223372036854775808; decide⟩
end Go.Proofs.YtlelemjmknbnaaaGreatDoor
