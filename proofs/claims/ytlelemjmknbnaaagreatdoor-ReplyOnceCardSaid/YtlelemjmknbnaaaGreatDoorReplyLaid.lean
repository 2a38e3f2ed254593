/- What the rows lay: strconv.ErrSyntax holds an error. -/
import Derived.Test.YtlelemjmknbnaaaGreatDoorReplyNilW
import Derived.Test.YtlelemjmknbnaaaGreatDoorHeadLaid
import Derived.Stop.LaidErr
namespace Go.Proofs.YtlelemjmknbnaaaGreatDoor
open Go.ChangeShapes Go.WideShapes Go.ChangeAt Go.RowKit

theorem synT : Tryz.prog.globalNamed "strconv.ErrSyntax" = some 1 := by kernel_rfl
theorem synType : (Tryz.prog.globals[1]?).map (·.type) = some 63 := by kernel_rfl
theorem synStar : "*" ++ "errors.errorString" = "*errors.errorString" := by decide
theorem synRow (u : TypeId) (h : Tryz.prog.typeName? 3 u = some "*errors.errorString") : u = 152 :=
  typeName_ptr_named (nm := "errors.errorString") (by rw [synStar]; kernel_rfl) (by kernel_rfl) (by decide) u (by rw [synStar]; exact h)
theorem cellsES : Tryz.prog.cellsOf 154 = 1 := by kernel_rfl
theorem cellsStr : Tryz.prog.cellsOf 9 = 1 := by kernel_rfl
theorem ex_of {W : World} (h : laidMetH Tryz.prog Rows.replyNilRow.laid W) : EX W := by
  rw [MakeChecks.laidMetH_plain _ _ _ (by kernel_rfl)] at h
  have h1 := laidMet.tail (laidMet.tail (laidMet.tail (laidMet.tail (laidMet.tail h))))
  obtain ⟨a, s, hv, -, -, -⟩ := laid_sentinel h1 synT synType Tryz.underlying63 synRow Tryz.underlying152 Tryz.underlying154 rfl rfl Tryz.underlying9 cellsES cellsStr
  exact ⟨_, by simpa using World.var?_cell synT hv 0, .inr ⟨_, _, rfl⟩⟩
end Go.Proofs.YtlelemjmknbnaaaGreatDoor
