/- One act, by both: Set, from now on. -/
import Derived.Test.YtaepgcicgmbbeaaWhDoQ
import Derived.Deep.RegionHeld3
namespace Go.Proofs.Ytaepgcicgmbbeaa
open Go.RowKit

section
variable {w : Base} {X : World} {bw rv : Nat} {T : Int} {L : List Fi}
set_option maxRecDepth 100000 in
set_option maxHeartbeats 4000000 in
theorem do_4 (h : PairW w X bw rv T L) (hok : WOk T L) (hL : L.length ≤ 900) (i a : Int) (hid : -9223372036854775808 ≤ i ∧ i ≤ 9223372036854775807) :
    Calls Try.prog 9 #[.pointer (some ⟨bw, 0, none⟩), .pointer (some ⟨rv, 0, none⟩), .agg #[.int .i64 4, .int .i64 i, .int .i64 a]] X (DoP w bw rv L) := by
  obtain ⟨s, hs⟩ : ∃ s, s = wrap64 (T + a) := ⟨_, rfl⟩
  have hat : -9223372036854775808 ≤ s ∧ s ≤ 9223372036854775807 := by rw [hs]; exact wrap_in _
  have HP := Lib.hid (fun r X' (hq : DoQ w X bw rv T T L (setL T L i s).2 #[.int .i64 4, .int .i64 i, .int .i64 a] false r X') => doq_set hq hok hid hat hL)
  have HR := Lib.hid (fun p X' (hq : DoQ w X bw rv T T L (setL T L i s).2 #[.int .i64 4, .int .i64 i, .int .i64 a] p false X') => doq_rset hq hok hL)
  have HW : Hid (∀ r X', DoQ w X bw rv T T L (setL T L i s).2 #[.int .i64 4, .int .i64 i, .int .i64 a] false r X' → Calls Try.prog 20 #[.pointer (some ⟨bw, 0, none⟩)] X' fun e w' => e = .returned (.int .i64 T) ∧ X' = w') := Lib.hid (fun r X' hq => by
    obtain ⟨F, A, c, a1, _⟩ := hq
    exact now_any a1)
  have HE := Lib.hid (And.intro (hok.set (at' := s) hid) (setL_len T L i s))
  have hq0 := DoQ.start h T (setL T L i s).2 #[.int .i64 4, .int .i64 i, .int .i64 a]
  obtain ⟨X1, hX1⟩ : ∃ X1, X1 = X.alloc (.cells #[.int .i64 4, .int .i64 i, .int .i64 a] 32) := ⟨_, rfl⟩
  rw [← hX1] at hq0
  have HQ0 := Lib.hid hq0
  have n0 := hq0.cells.1
  have n1 := hq0.cells.2.1
  have n2 := hq0.cells.2.2
  have n3 := hq0.now
  generalize (setL T L i s).2 = L' at *
  generalize (setL T L i s).1 = rr at *
  have hsw : wrap64 (T + a) = s := hs.symm
  have hsw2 : IntKind.i64.wrap (T + a) = s := by
    rw [hs]
    simp [wrap64, IntKind.wrap, IntKind.bits, IntKind.signed]
    split <;> omega
  clear h hok hL hid hq0 hat hs
  go_enter Try.func9, Try.ntmps9
  go_wp2
  rw [← hX1]
  clear hX1
  refine wp_region_noPanic ?_
  go_region_held (fun w' => w'.cell? ⟨X.heap.size, 1, none⟩ = some (.int .i64 i) ∧ w'.cell? ⟨X.heap.size, 2, none⟩ = some (.int .i64 a) ∧ w'.cell? ⟨rv, 0, none⟩ = some (.int .i64 T)) (first | exact ⟨n1, n2, n3⟩ | exact ⟨c1, c2, c3⟩ | assumption) (first | (go_at_call 15; refine (HP.out _ _ (by first | exact HQ0.out.drew | exact HQ1.out)).mono ?_; rintro e X2 ⟨rfl, hq1⟩; have HQ1 := Lib.hid hq1; obtain ⟨c0, c1, c2⟩ := hq1.cells; have c3 := hq1.now; clear hq1) | (go_at_call 22; refine (HR.out _ _ (by first | exact HQ0.out.drew | exact HQ1.out)).mono ?_; rintro e X2 ⟨rfl, hq1⟩; have HQ1 := Lib.hid hq1; obtain ⟨c0, c1, c2⟩ := hq1.cells; have c3 := hq1.now; clear hq1) | (go_at_call 20; refine (HW.out _ _ (by first | exact HQ0.out.drew | exact HQ1.out)).mono ?_; rintro e X2 ⟨rfl, rfl⟩))
  all_goals
    refine NoPanic.normal ?_
    go_wp2
    go_ret
    exact ⟨by first | rfl | simp | exact congrArg (fun b => Ending.returned (.bool b)) (beq_self_eq_true _), _, _, HQ1.out.done, HE.out.1, HE.out.2⟩
end
end Go.Proofs.Ytaepgcicgmbbeaa
