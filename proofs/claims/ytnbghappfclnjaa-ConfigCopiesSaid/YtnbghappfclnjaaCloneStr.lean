/- strings.Clone. -/
import Derived.Test.YtnbghappfclnjaaBytes
import Derived.Test.YtnbghappfclnjaaShelf
namespace Go.Proofs.Ytnbghappfclnjaa
open Go.RowKit

set_option maxHeartbeats 400000 in
theorem clone_str (s : ByteArray) (w : World) (hs : s.size ≤ 1000000) :
    Calls Try.prog 23 #[.string s] w fun e w' => e = .returned (.string s) ∧ Below w.heap.size w w' := by
  have HC := Lib.hid (Try.stringslite_Clone s w (by omega))
  go_enter Try.func23, Try.ntmps23
  go_wp2_with fail
  refine (Hid.out HC).mono ?_
  rintro e w1 ⟨rfl, hb⟩
  go_wp2
  go_ret
  exact ⟨rfl, hb⟩

end Go.Proofs.Ytnbghappfclnjaa
