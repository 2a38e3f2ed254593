/- What the rows lay: strconv.ErrSyntax holds an error. -/
import Derived.Test.YtnkpdnbnheffeaaDoorBodyNilW
import Derived.Test.YtnkpdnbnheffeaaDoorHeadLaid
import Derived.Stop.LaidErr
namespace Go.Proofs.YtnkpdnbnheffeaaDoor
open Go.ChangeShapes Go.WideShapes Go.ChangeAt Go.RowKit

theorem synT : Tryd.prog.globalNamed "strconv.ErrSyntax" = some 1 := by kernel_rfl
theorem synType : (Tryd.prog.globals[1]?).map (·.type) = some 90 := by kernel_rfl
theorem synStar : "*" ++ "errors.errorString" = "*errors.errorString" := by decide
theorem synRow (u : TypeId) (h : Tryd.prog.typeName? 3 u = some "*errors.errorString") : u = 134 :=
  typeName_ptr_named (nm := "errors.errorString") (by rw [synStar]; kernel_rfl) (by kernel_rfl) (by decide) u (by rw [synStar]; exact h)
theorem cellsES : Tryd.prog.cellsOf 136 = 1 := by kernel_rfl
theorem cellsStr : Tryd.prog.cellsOf 9 = 1 := by kernel_rfl
theorem ex_of {W : World} (h : laidMetH Tryd.prog Rows.bodyNilRow.laid W) : EX W := by
  rw [MakeChecks.laidMetH_plain _ _ _ (by kernel_rfl)] at h
  have h1 := laidMet.tail (laidMet.tail (laidMet.tail (laidMet.tail (laidMet.tail h))))
  obtain ⟨a, s, hv, -, -, -⟩ := laid_sentinel h1 synT synType Tryd.underlying90 synRow Tryd.underlying134 Tryd.underlying136 rfl rfl Tryd.underlying9 cellsES cellsStr
  exact ⟨_, by simpa using World.var?_cell synT hv 0, .inr ⟨_, _, rfl⟩⟩
end Go.Proofs.YtnkpdnbnheffeaaDoor
