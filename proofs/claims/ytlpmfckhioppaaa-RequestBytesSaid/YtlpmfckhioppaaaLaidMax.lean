/- The variable internal/bytealg.MaxLen holds some int in every world in which a row begins; a slice's capacity. -/
import Derived.Test.YtlpmfckhioppaaaReqSl
import Derived.Test.YtlpmfckhioppaaaOpenBytes
import Derived.HandedShaped
namespace Go.Proofs.Ytlpmfckhioppaaa
open Go.ChangeShapes Go.WideShapes Go.ChangeAt Go.RowKit

theorem mx_of {W : World} (h : W.ShapedOpen Try.prog) : MX W ∧ 0 < W.heap.size := by
  obtain ⟨m, hm⟩ := Try.laysM185.s1_3 W h
  exact ⟨⟨m, hm⟩, Nat.lt_of_le_of_lt (Nat.zero_le _) (World.block_lt_of_cell? _ _ hm)⟩
theorem cap_of {H : Type} {enc : TypeId × Value → H} {W : World} {a : Option Addr} {len cap : Nat} {d : DataW H} {p : List MemPlace}
    (h : DataW.Trod enc Try.prog W 0 (fun _ => true) true 30 (.slice a len cap) d p) : len ≤ cap := by
  obtain ⟨fuel, hf⟩ := h
  rcases open_ints Try.underlying30 Try.underlying5 (by kernel_rfl) hf with ⟨hcs, _⟩ | ⟨x, l, c, zs, hcs, _, hl, hm, hz, _, hcell, hwz⟩
  · simp [Value.cells] at hcs
    omega
  · simp [Value.cells] at hcs
    omega
end Go.Proofs.Ytlpmfckhioppaaa
