/- One act, by both: Set. -/
import Derived.Test.YtaepgcicgmbbeaaWhDoQ
namespace Go.Proofs.Ytaepgcicgmbbeaa
open Go.RowKit

section
variable {w : Base} {X : World} {bw rv : Nat} {T : Int} {L : List Fi}
set_option maxRecDepth 100000 in
set_option maxHeartbeats 4000000 in
theorem do_1 (h : PairW w X bw rv T L) (hok : WOk T L) (hL : L.length ≤ 900) (i a : Int) (hid : -9223372036854775808 ≤ i ∧ i ≤ 9223372036854775807) (hat : -9223372036854775808 ≤ a ∧ a ≤ 9223372036854775807) :
    Calls Try.prog 9 #[.pointer (some ⟨bw, 0, none⟩), .pointer (some ⟨rv, 0, none⟩), .agg #[.int .i64 1, .int .i64 i, .int .i64 a]] X (DoP w bw rv L) := by
  have HP := Lib.hid (fun r X' (hq : DoQ w X bw rv T T L (setL T L i a).2 #[.int .i64 1, .int .i64 i, .int .i64 a] false r X') => doq_set hq hok hid hat hL)
  have HR := Lib.hid (fun p X' (hq : DoQ w X bw rv T T L (setL T L i a).2 #[.int .i64 1, .int .i64 i, .int .i64 a] p false X') => doq_rset hq hok hL)
  have HE := Lib.hid (And.intro (hok.set (at' := a) hid) (setL_len T L i a))
  have hq0 := DoQ.start h T (setL T L i a).2 #[.int .i64 1, .int .i64 i, .int .i64 a]
  obtain ⟨X1, hX1⟩ : ∃ X1, X1 = X.alloc (.cells #[.int .i64 1, .int .i64 i, .int .i64 a] 32) := ⟨_, rfl⟩
  rw [← hX1] at hq0
  have HQ0 := Lib.hid hq0
  have n0 := hq0.cells.1
  have n1 := hq0.cells.2.1
  have n2 := hq0.cells.2.2
  generalize (setL T L i a).2 = L' at *
  generalize (setL T L i a).1 = rr at *
  clear h hok hL hid hat hq0
  go_enter Try.func9, Try.ntmps9
  go_wp2
  rw [← hX1]
  clear hX1
  go_region_law (first | (go_simp; go_at_call 15; refine (HP.out _ _ (by first | exact HQ0.out.drew | exact HQ0.out | exact HQ1.out.drew | exact HQ1.out)).mono ?_; rintro e X2 ⟨rfl, hq1⟩; have HQ1 := Lib.hid hq1; obtain ⟨c0, c1, c2⟩ := hq1.cells; clear hq1) | (go_simp; go_at_call 22; refine (HR.out _ _ (by first | exact HQ0.out.drew | exact HQ0.out | exact HQ1.out.drew | exact HQ1.out)).mono ?_; rintro e X2 ⟨rfl, hq1⟩; have HQ1 := Lib.hid hq1; obtain ⟨c0, c1, c2⟩ := hq1.cells; clear hq1))
  all_goals
    go_wp2
    go_ret
    exact ⟨by first | rfl | simp | exact congrArg (fun b => Ending.returned (.bool b)) (beq_self_eq_true _), _, _, HQ1.out.done, HE.out.1, HE.out.2⟩
end
end Go.Proofs.Ytaepgcicgmbbeaa
