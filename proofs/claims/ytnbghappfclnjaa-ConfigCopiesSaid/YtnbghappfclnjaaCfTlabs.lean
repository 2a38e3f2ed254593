/- A target's labels, plainly. -/
import Derived.Test.YtnbghappfclnjaaLabName
import Derived.Test.YtnbghappfclnjaaCfPlain
namespace Go.Proofs.Ytnbghappfclnjaa
open Go.RowKit

def tlabs (t : Tg) : List Lbl := [([105, 110, 115, 116, 97, 110, 99, 101], t.host.data.toList), ([106, 111, 98], t.job.data.toList)]
def tlabsR (t : Tg) : List Lbl := [([106, 111, 98], t.job.data.toList), ([105, 110, 115, 116, 97, 110, 99, 101], t.host.data.toList)]
theorem strV_of (T : ByteArray) : strV T.data.toList = .string T := by unfold strV; rw [Lib.mk_data]
theorem tlabs_small {t : Tg} (hj : t.job.size ≤ 1000000) (hh : t.host.size ≤ 1000000) : smallL (tlabs t) := by
  rw [Lib.size_eq] at hj hh
  intro x hx
  simp [tlabs] at hx
  rcases hx with rfl | rfl
  · exact ⟨by simp, hh⟩
  · exact ⟨by simp, hj⟩
theorem tlabsR_small {t : Tg} (hj : t.job.size ≤ 1000000) (hh : t.host.size ≤ 1000000) : smallL (tlabsR t) := by
  rw [Lib.size_eq] at hj hh
  intro x hx
  simp [tlabsR] at hx
  rcases hx with rfl | rfl
  · exact ⟨by simp, hj⟩
  · exact ⟨by simp, hh⟩
end Go.Proofs.Ytnbghappfclnjaa
