/- strings.Clone. -/
import Derived.Test.YtnbghappfclnjaaGreatBytes
import Derived.Test.YtnbghappfclnjaaGreatShelf
namespace Go.Proofs.YtnbghappfclnjaaGreat
open Go.RowKit

set_option maxHeartbeats 400000 in
theorem clone_str (s : ByteArray) (w : World) (hs : s.size ≤ 1000000) :
    Calls Tryz.prog 61 #[.string s] w fun e w' => e = .returned (.string s) ∧ Below w.heap.size w w' := by
  have HC := Lib.hid (Tryz.stringslite_Clone s w (by omega))
  go_enter Tryz.func61, Tryz.ntmps61
  go_wp2_with fail
  refine (Hid.out HC).mono ?_
  rintro e w1 ⟨rfl, hb⟩
  go_wp2
  go_ret
  exact ⟨rfl, hb⟩

end Go.Proofs.YtnbghappfclnjaaGreat
