/- Bytes that were just laid. -/
import Derived.Test.YtlelemjmknbnaaaGreatDoorHeadParse
namespace Go.Proofs.YtlelemjmknbnaaaGreatDoor
open Go.RowKit

theorem lit_reads' (w : World) (p : Nat) (t : TypeId) (l : List UInt8) (C : Array Value) (fr : Nat × Nat) (hC : C = (l.map bcell).toArray) (hp : p = w.heap.size) : BReads (w.alloc (.cells C t fr)) (w.alloc (.cells C t fr)).heap.size (some ⟨p, 0, none⟩) l := by
  subst hC hp
  exact (lit_reads w t l fr).more (by simp)
/-- Parse of bytes that were just laid. -/
theorem parse_lit (w : World) (p n : Nat) (l : List UInt8) (C : Array Value) (fr : Nat × Nat) (hC : C = (l.map bcell).toArray) (hp : p = w.heap.size) (hn : n = l.length) (hl : l.length ≤ 1000000) (hm : MX w) :
    Calls Tryz.prog 25 #[.slice (some ⟨p, 0, none⟩) n n] (w.alloc (.cells C 5 fr)) fun e w' => e = .returned (PsV (parseL l)) ∧ Below w.heap.size w w' := by
  subst hn
  exact (parse_any (lit_reads' w p _ l C fr hC hp) (Nat.le_refl _) (fun h => by cases h) hl (hm.grown (below_alloc (Nat.le_refl _) _))).mono fun e w' h => ⟨h.1, (below_alloc (Nat.le_refl _) _).trans (h.2.mono (by simp))⟩
end Go.Proofs.YtlelemjmknbnaaaGreatDoor
