/- Sums and differences: the program's and the document's, both saturate. -/
import Derived.Test.YtmbdggbppbkojaaDoorFixBase
namespace Go.Proofs.YtmbdggbppbkojaaDoor
open Go.RowKit

/-- A number brought within 64 bits, and whether it was beyond them. -/
def sat (x : Int) : Int × Bool :=
  if x > 9223372036854775807 then (9223372036854775807, true) else if x < -9223372036854775808 then (-9223372036854775808, true) else (x, false)
theorem sat_in (x : Int) (h0 : -9223372036854775808 ≤ x) (h1 : x ≤ 9223372036854775807) : sat x = (x, false) := by
  unfold sat; rw [if_neg (by omega), if_neg (by omega)]
theorem sat_most (x : Int) (h : x > 9223372036854775807) : sat x = (9223372036854775807, true) := by unfold sat; rw [if_pos h]
theorem sat_least (x : Int) (h : x < -9223372036854775808) : sat x = (-9223372036854775808, true) := by unfold sat; rw [if_neg (by omega), if_pos h]
theorem wrap_big (x : Int) (h : x > 9223372036854775807) (h2 : x ≤ 18446744073709551615) : decide (wrap64 x < 0) = true := by
  apply decide_eq_true; simp only [wrap64]; omega
theorem wrap_low (x : Int) (h : x < -9223372036854775808) (h2 : -18446744073709551616 ≤ x) : decide (wrap64 x < 0) = false := by
  apply decide_eq_false; simp only [wrap64]; omega

section
variable (a b : Int) (w : World) (a0 : -9223372036854775808 ≤ a) (a1 : a ≤ 9223372036854775807) (b0 : -9223372036854775808 ≤ b) (b1 : b ≤ 9223372036854775807)
include a0 a1 b0 b1

set_option maxHeartbeats 400000 in
theorem add_in (h0 : -9223372036854775808 ≤ a + b) (h1 : a + b ≤ 9223372036854775807) :
    Calls Tryd.prog 13 #[.int .i64 a, .int .i64 b] w fun e w' => e = .returned (.tuple #[.int .i64 (a + b), .bool false]) ∧ w = w' := by
  by_cases ha : a < 0 <;> by_cases hb : b < 0
  · have hda : decide (a < 0) = true := by simp; omega
    have hdb : decide (b < 0) = true := by simp; omega
    have hds : decide (a + b < 0) = true := by simp; omega
    go_enter Tryd.func13, Tryd.ntmps13
    go_wp2
    go_ret2
    exact ⟨rfl, rfl⟩
  · have hda : decide (a < 0) = true := by simp; omega
    have hdb : decide (b < 0) = false := by simp; omega
    go_enter Tryd.func13, Tryd.ntmps13
    go_wp2
    go_ret2
    exact ⟨rfl, rfl⟩
  · have hda : decide (a < 0) = false := by simp; omega
    have hdb : decide (b < 0) = true := by simp; omega
    go_enter Tryd.func13, Tryd.ntmps13
    go_wp2
    go_ret2
    exact ⟨rfl, rfl⟩
  · have hda : decide (a < 0) = false := by simp; omega
    have hdb : decide (b < 0) = false := by simp; omega
    have hds : decide (a + b < 0) = false := by simp; omega
    go_enter Tryd.func13, Tryd.ntmps13
    go_wp2
    go_ret2
    exact ⟨rfl, rfl⟩
set_option maxHeartbeats 400000 in
theorem add_most (h : a + b > 9223372036854775807) :
    Calls Tryd.prog 13 #[.int .i64 a, .int .i64 b] w fun e w' => e = .returned (.tuple #[.int .i64 9223372036854775807, .bool true]) ∧ w = w' := by
  have hw := wrap_big (a + b) h (by omega)
  have hda : decide (a < 0) = false := by simp; omega
  have hdb : decide (b < 0) = false := by simp; omega
  go_enter Tryd.func13, Tryd.ntmps13
  go_wp2_with (go_at_call 32; refine (end_any _ _).mono ?_; rintro e w' ⟨rfl, rfl⟩)
  go_ret2
  exact ⟨rfl, rfl⟩
set_option maxHeartbeats 400000 in
theorem add_least (h : a + b < -9223372036854775808) :
    Calls Tryd.prog 13 #[.int .i64 a, .int .i64 b] w fun e w' => e = .returned (.tuple #[.int .i64 (-9223372036854775808), .bool true]) ∧ w = w' := by
  have hw := wrap_low (a + b) h (by omega)
  have hda : decide (a < 0) = true := by simp; omega
  have hdb : decide (b < 0) = true := by simp; omega
  go_enter Tryd.func13, Tryd.ntmps13
  go_wp2_with (go_at_call 32; refine (end_any _ _).mono ?_; rintro e w' ⟨rfl, rfl⟩)
  go_ret2
  exact ⟨rfl, rfl⟩
theorem add_any :
    Calls Tryd.prog 13 #[.int .i64 a, .int .i64 b] w fun e w' => e = .returned (.tuple #[.int .i64 (sat (a + b)).1, .bool (sat (a + b)).2]) ∧ w = w' := by
  by_cases h : a + b > 9223372036854775807
  · rw [sat_most _ h]; exact add_most a b w a0 a1 b0 b1 h
  · by_cases h2 : a + b < -9223372036854775808
    · rw [sat_least _ h2]; exact add_least a b w a0 a1 b0 b1 h2
    · rw [sat_in _ (by omega) (by omega)]; exact add_in a b w a0 a1 b0 b1 (by omega) (by omega)

set_option maxHeartbeats 400000 in
theorem sub_in (h0 : -9223372036854775808 ≤ a - b) (h1 : a - b ≤ 9223372036854775807) :
    Calls Tryd.prog 15 #[.int .i64 a, .int .i64 b] w fun e w' => e = .returned (.tuple #[.int .i64 (a - b), .bool false]) ∧ w = w' := by
  by_cases ha : a < 0 <;> by_cases hb : b < 0
  · have hda : decide (a < 0) = true := by simp; omega
    have hdb : decide (b < 0) = true := by simp; omega
    go_enter Tryd.func15, Tryd.ntmps15
    go_wp2
    go_ret2
    exact ⟨rfl, rfl⟩
  · have hda : decide (a < 0) = true := by simp; omega
    have hdb : decide (b < 0) = false := by simp; omega
    have hds : decide (a - b < 0) = true := by simp; omega
    go_enter Tryd.func15, Tryd.ntmps15
    go_wp2
    go_ret2
    exact ⟨rfl, rfl⟩
  · have hda : decide (a < 0) = false := by simp; omega
    have hdb : decide (b < 0) = true := by simp; omega
    have hds : decide (a - b < 0) = false := by simp; omega
    go_enter Tryd.func15, Tryd.ntmps15
    go_wp2
    go_ret2
    exact ⟨rfl, rfl⟩
  · have hda : decide (a < 0) = false := by simp; omega
    have hdb : decide (b < 0) = false := by simp; omega
    go_enter Tryd.func15, Tryd.ntmps15
    go_wp2
    go_ret2
    exact ⟨rfl, rfl⟩
set_option maxHeartbeats 400000 in
theorem sub_most (h : a - b > 9223372036854775807) :
    Calls Tryd.prog 15 #[.int .i64 a, .int .i64 b] w fun e w' => e = .returned (.tuple #[.int .i64 9223372036854775807, .bool true]) ∧ w = w' := by
  have hw := wrap_big (a - b) h (by omega)
  have hda : decide (a < 0) = false := by simp; omega
  have hdb : decide (b < 0) = true := by simp; omega
  go_enter Tryd.func15, Tryd.ntmps15
  go_wp2_with (go_at_call 32; refine (end_any _ _).mono ?_; rintro e w' ⟨rfl, rfl⟩)
  go_ret2
  exact ⟨rfl, rfl⟩
set_option maxHeartbeats 400000 in
theorem sub_least (h : a - b < -9223372036854775808) :
    Calls Tryd.prog 15 #[.int .i64 a, .int .i64 b] w fun e w' => e = .returned (.tuple #[.int .i64 (-9223372036854775808), .bool true]) ∧ w = w' := by
  have hw := wrap_low (a - b) h (by omega)
  have hda : decide (a < 0) = true := by simp; omega
  have hdb : decide (b < 0) = false := by simp; omega
  go_enter Tryd.func15, Tryd.ntmps15
  go_wp2_with (go_at_call 32; refine (end_any _ _).mono ?_; rintro e w' ⟨rfl, rfl⟩)
  go_ret2
  exact ⟨rfl, rfl⟩
theorem sub_any :
    Calls Tryd.prog 15 #[.int .i64 a, .int .i64 b] w fun e w' => e = .returned (.tuple #[.int .i64 (sat (a - b)).1, .bool (sat (a - b)).2]) ∧ w = w' := by
  by_cases h : a - b > 9223372036854775807
  · rw [sat_most _ h]; exact sub_most a b w a0 a1 b0 b1 h
  · by_cases h2 : a - b < -9223372036854775808
    · rw [sat_least _ h2]; exact sub_least a b w a0 a1 b0 b1 h2
    · rw [sat_in _ (by omega) (by omega)]; exact sub_in a b w a0 a1 b0 b1 (by omega) (by omega)

set_option maxHeartbeats 1000000 in
theorem radd_any :
    Calls Tryd.prog 14 #[.int .i64 a, .int .i64 b] w fun e w' => e = .returned (.tuple #[.int .i64 (sat (a + b)).1, .bool (sat (a + b)).2]) ∧ w = w' := by
  by_cases hb : b > 0
  · by_cases h : a > 9223372036854775807 - b
    · rw [sat_most _ (by omega)]
      go_enter Tryd.func14, Tryd.ntmps14
      go_wp2
      go_ret2
      exact ⟨rfl, rfl⟩
    · rw [sat_in _ (by omega) (by omega)]
      go_enter Tryd.func14, Tryd.ntmps14
      go_wp2
      go_ret2
      exact ⟨rfl, rfl⟩
  · by_cases hb2 : b < 0
    · by_cases h : a < -9223372036854775808 - b
      · rw [sat_least _ (by omega)]
        go_enter Tryd.func14, Tryd.ntmps14
        go_wp2
        go_ret2
        exact ⟨rfl, rfl⟩
      · rw [sat_in _ (by omega) (by omega)]
        go_enter Tryd.func14, Tryd.ntmps14
        go_wp2
        go_ret2
        exact ⟨rfl, rfl⟩
    · rw [sat_in _ (by omega) (by omega)]
      go_enter Tryd.func14, Tryd.ntmps14
      go_wp2
      go_ret2
      exact ⟨rfl, rfl⟩
set_option maxHeartbeats 1000000 in
theorem rsub_any :
    Calls Tryd.prog 16 #[.int .i64 a, .int .i64 b] w fun e w' => e = .returned (.tuple #[.int .i64 (sat (a - b)).1, .bool (sat (a - b)).2]) ∧ w = w' := by
  by_cases hb : b < 0
  · by_cases h : a > 9223372036854775807 + b
    · rw [sat_most _ (by omega)]
      go_enter Tryd.func16, Tryd.ntmps16
      go_wp2
      go_ret2
      exact ⟨rfl, rfl⟩
    · rw [sat_in _ (by omega) (by omega)]
      go_enter Tryd.func16, Tryd.ntmps16
      go_wp2
      go_ret2
      exact ⟨rfl, rfl⟩
  · by_cases hb2 : b > 0
    · by_cases h : a < -9223372036854775808 + b
      · rw [sat_least _ (by omega)]
        go_enter Tryd.func16, Tryd.ntmps16
        go_wp2
        go_ret2
        exact ⟨rfl, rfl⟩
      · rw [sat_in _ (by omega) (by omega)]
        go_enter Tryd.func16, Tryd.ntmps16
        go_wp2
        go_ret2
        exact ⟨rfl, rfl⟩
    · rw [sat_in _ (by omega) (by omega)]
      go_enter Tryd.func16, Tryd.ntmps16
      go_wp2
      go_ret2
      exact ⟨rfl, rfl⟩
end
end Go.Proofs.YtmbdggbppbkojaaDoor
