/- A target's name, joined; a step of FNV-1a. -/
import Derived.Test.YtnbghappfclnjaaLabMetric
import Derived.Test.YtnbghappfclnjaaCfPlain
namespace Go.Proofs.Ytnbghappfclnjaa
open Go.RowKit

theorem tag_join (t : Tg) : t.job ++ ⟨#[0]⟩ ++ t.host ++ ⟨#[0]⟩ ++ t.path = ⟨(tagL t.job.data.toList t.host.data.toList t.path.data.toList).toArray⟩ := by
  apply ba_eq
  simp [tagL]
theorem fnv_mul (n : Nat) (c : UInt8) : IntKind.u64.wrap (((n ^^^ c.toNat : Nat) : Int) * 1099511628211) = ((fnvS n c : Nat) : Int) := by
  have h : (((n ^^^ c.toNat : Nat) : Int) * 1099511628211) = (((n ^^^ c.toNat) * 1099511628211 : Nat) : Int) := by omega
  rw [h]
  unfold fnvS
  generalize (n ^^^ c.toNat) * 1099511628211 = x
  simp [IntKind.wrap, IntKind.bits, IntKind.signed]
end Go.Proofs.Ytnbghappfclnjaa
