/- What the rows' worlds give: internal/bytealg.MaxLen holds some int; a slice's capacity. -/
import Derived.Test.YtlelemjmknbnaaaGreatDoorHeadSl
import Derived.Test.YtlelemjmknbnaaaGreatDoorOpenBytes
import Derived.Test.YtlelemjmknbnaaaGreatDoorCards
import Derived.Test.YtlelemjmknbnaaaGreatDoorTie
import Derived.LaidLaws
import Derived.LaidHandle
import Derived.LaidMore
import Derived.Lay
import Derived.SevenTiedAt
import Derived.ChangeSame
import Derived.ChangeVars
import Derived.JoinedOf
import Derived.RowKitTokens
import Derived.HandedShaped
namespace Go.Proofs.YtlelemjmknbnaaaGreatDoor
open Go.ChangeShapes Go.WideShapes Go.ChangeAt Go.RowKit

theorem mx_of {W : World} (h : W.ShapedOpen Tryz.prog) : MX W := by
  obtain ⟨m, hm⟩ := Tryz.laysM185.s1_3 W h
  exact ⟨m, hm⟩
theorem cap_of {H : Type} {enc : TypeId × Value → H} {W : World} {a : Option Addr} {len cap : Nat} {d : DataW H} {p : List MemPlace}
    (h : DataW.Trod enc Tryz.prog W 0 (fun _ => true) true 22 (.slice a len cap) d p) : len ≤ cap := by
  obtain ⟨fuel, hf⟩ := h
  rcases open_ints Tryz.underlying22 Tryz.underlying5 (by kernel_rfl) hf with ⟨hcs, _⟩ | ⟨x, l, c, zs, hcs, _, hl, hm, hz, _, hcell, hwz⟩
  · simp [Value.cells] at hcs
    omega
  · simp [Value.cells] at hcs
    omega
end Go.Proofs.YtlelemjmknbnaaaGreatDoor
