/- Words for what a store tells, and for blocks that lie as they lay. -/
import Derived.Test.YtcjmieofmogeiaaStAlike
import Derived.Test.YtcjmieofmogeiaaStPt
import Derived.RangeFuncKeeps
import Derived.Test.YtcjmieofmogeiaaBase
namespace Go.Proofs.Ytcjmieofmogeiaa
open Go.RowKit

/-- These blocks lie as they lay. -/
def KeepL (bs : List Nat) (W W' : World) : Prop := ∀ b ∈ bs, W'.heap[b]? = W.heap[b]?
theorem KeepL.t {bs : List Nat} {A B C : World} (h : KeepL bs A B) (k : KeepL bs B C) : KeepL bs A C := fun b hb => (k b hb).trans (h b hb)
theorem KeepL.put {bs : List Nat} {w : World} (hb : ∀ b ∈ bs, b < w.heap.size) (W : World) (l : Nat) (o o' : Obj) (hl : w.heap.size ≤ l) (_ : W.heap[l]? = some o) (_ : o.isCells = false) (_ : o.isWalk = false) : KeepL bs W (W.putObj l o') :=
  fun b hm => World.putObj_heap_other (by have := hb b hm; omega)
theorem KeepL.of {bs : List Nat} {F : List Nat} {A B : World} (h : Turns F A B) (hb : ∀ b ∈ bs, b < A.heap.size ∧ b ∉ F) : KeepL bs A B := fun b hm => h.block b (hb b hm).1 (hb b hm).2
def zLst : Lst := ⟨⟨⟨#[]⟩, 0, 0, false⟩, false, 0⟩
/-- What Get tells. -/
def getP (n : ByteArray) (L : List One) : Lst × Bool :=
  match ofN n L with
  | none => (zLst, false)
  | some i => match L[i]? with
    | none => (zLst, false)
    | some y => (y.l, true)
def liveP (L : List One) : Nat := (L.filter fun y => y.l.live).length
def encOne (y : One) : Array Value := #[.string y.name, y.l.val']
end Go.Proofs.Ytcjmieofmogeiaa
