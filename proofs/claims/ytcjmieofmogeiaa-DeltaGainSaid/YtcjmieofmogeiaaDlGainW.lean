/- DeltaGain, walked. -/
import Derived.Test.YtcjmieofmogeiaaDlPlaysW
namespace Go.Proofs.Ytcjmieofmogeiaa
open Go.RowKit

theorem gainL_in (a v : Int) (ha : -9223372036854775808 ≤ a ∧ a ≤ 9223372036854775807) (hv : -9223372036854775808 ≤ v ∧ v ≤ 9223372036854775807) : 0 ≤ (gainL a v).1 ∧ (gainL a v).1 ≤ 9223372036854775807 := by
  unfold gainL
  repeat' split
  all_goals (simp only; omega)
set_option maxRecDepth 100000 in
set_option maxHeartbeats 4000000 in
theorem deltaGain_any (C : MeC) (a v : Int) (w : World) (ha : -9223372036854775808 ≤ a ∧ a ≤ 9223372036854775807) (hv : -9223372036854775808 ≤ v ∧ v ≤ 9223372036854775807) :
    Calls Try.prog 5 #[.int .i64 a, .int .i64 v] w (FinD w) := by
  have HG := Lib.hid (C.gain a v w ha hv)
  have HR := Lib.hid (fun W => rgain_any a v ha hv W)
  have HK := Lib.hid (fun W => knownM_any C W)
  obtain ⟨h0, h1⟩ := gainL_in a v ha hv
  generalize gainL a v = z at *
  obtain ⟨n, r⟩ := z
  simp only at HG HR h0 h1
  clear ha hv
  have e1 : (n == n) = true := by simp
  have e2 : (r == r) = true := by simp
  have e3 : decide (0 ≤ n) = true := by simpa using h0
  go_enter Try.func5, Try.ntmps5
  go_wp2_with fail
  refine HG.out.mono ?_
  rintro e w1 ⟨rfl, t1⟩
  have HT := Lib.hid t1
  clear t1
  go_wp2_with fail
  refine (HR.out _).mono ?_
  rintro e w2 ⟨rfl, rfl⟩
  go_wp2_with fail
  refine (HK.out _).mono ?_
  rintro e w3 ⟨rfl, t3⟩
  have HT3 := Lib.hid (HT.out.then t3)
  clear t3
  go_wp2
  go_ret
  exact ⟨rfl, HT3.out⟩
end Go.Proofs.Ytcjmieofmogeiaa
