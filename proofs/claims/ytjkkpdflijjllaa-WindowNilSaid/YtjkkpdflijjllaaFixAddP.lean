/- The program's Add. -/
import Derived.Test.YtjkkpdflijjllaaProg
import Derived.WalkKit
import Derived.WalkSpells
import Derived.WalkLawsBesides
import Derived.Deep.QuietTactic
import Derived.BigQuiet
import Derived.Lib.Hide
namespace Go.Proofs.Ytjkkpdflijjllaa
open Go.RowKit

theorem ret_bool {a b : Bool} (h : a = b) : Ending.returned (.bool a) = .returned (.bool b) := by rw [h]
theorem ret_int {k : IntKind} {a b : Int} (h : a = b) : Ending.returned (.int k a) = .returned (.int k b) := by rw [h]
theorem ret_pair {k : IntKind} {a b : Int} {c d : Bool} (h : a = b) (h' : c = d) : Ending.returned (.tuple #[.int k a, .bool c]) = .returned (.tuple #[.int k b, .bool d]) := by rw [h, h']

set_option maxHeartbeats 400000 in
theorem end_any (b : Bool) (w : World) :
    Calls Try.prog 52 #[.bool b] w fun e w' => e = .returned (.int .i64 (if b then -9223372036854775808 else 9223372036854775807)) ∧ w = w' := by
  cases b
  · go_enter Try.func52, Try.ntmps52
    go_wp2
    go_ret
    exact ⟨rfl, rfl⟩
  · go_enter Try.func52, Try.ntmps52
    go_wp2
    go_ret
    exact ⟨rfl, rfl⟩

end Go.Proofs.Ytjkkpdflijjllaa

namespace Go.Proofs.Ytjkkpdflijjllaa
open Go.RowKit

/-- A number brought within 64 bits, and whether it was beyond them. -/
def sat (x : Int) : Int × Bool :=
  if x > 9223372036854775807 then (9223372036854775807, true) else if x < -9223372036854775808 then (-9223372036854775808, true) else (x, false)
theorem sat_in (x : Int) (h0 : -9223372036854775808 ≤ x) (h1 : x ≤ 9223372036854775807) : sat x = (x, false) := by
  unfold sat; rw [if_neg (by omega), if_neg (by omega)]
theorem sat_most (x : Int) (h : x > 9223372036854775807) : sat x = (9223372036854775807, true) := by unfold sat; rw [if_pos h]
theorem sat_least (x : Int) (h : x < -9223372036854775808) : sat x = (-9223372036854775808, true) := by unfold sat; rw [if_neg (by omega), if_pos h]
theorem wrap_big (x : Int) (h : x > 9223372036854775807) (h2 : x ≤ 18446744073709551615) : decide (wrap64 x < 0) = true := by
  apply decide_eq_true; simp only [wrap64]; omega
theorem wrap_low (x : Int) (h : x < -9223372036854775808) (h2 : -18446744073709551616 ≤ x) : decide (wrap64 x < 0) = false := by
  apply decide_eq_false; simp only [wrap64]; omega

end Go.Proofs.Ytjkkpdflijjllaa

namespace Go.Proofs.Ytjkkpdflijjllaa
open Go.RowKit

section
variable (a b : Int) (w : World) (a0 : -9223372036854775808 ≤ a) (a1 : a ≤ 9223372036854775807) (b0 : -9223372036854775808 ≤ b) (b1 : b ≤ 9223372036854775807)
include a0 a1 b0 b1

set_option maxHeartbeats 400000 in
theorem add_in (h0 : -9223372036854775808 ≤ a + b) (h1 : a + b ≤ 9223372036854775807) :
    Calls Try.prog 46 #[.int .i64 a, .int .i64 b] w fun e w' => e = .returned (.tuple #[.int .i64 (a + b), .bool false]) ∧ w = w' := by
  by_cases ha : a < 0 <;> by_cases hb : b < 0
  · have hda : decide (a < 0) = true := by simp; omega
    have hdb : decide (b < 0) = true := by simp; omega
    have hds : decide (a + b < 0) = true := by simp; omega
    go_enter Try.func46, Try.ntmps46
    go_wp2
    go_ret2
    exact ⟨rfl, rfl⟩
  · have hda : decide (a < 0) = true := by simp; omega
    have hdb : decide (b < 0) = false := by simp; omega
    go_enter Try.func46, Try.ntmps46
    go_wp2
    go_ret2
    exact ⟨rfl, rfl⟩
  · have hda : decide (a < 0) = false := by simp; omega
    have hdb : decide (b < 0) = true := by simp; omega
    go_enter Try.func46, Try.ntmps46
    go_wp2
    go_ret2
    exact ⟨rfl, rfl⟩
  · have hda : decide (a < 0) = false := by simp; omega
    have hdb : decide (b < 0) = false := by simp; omega
    have hds : decide (a + b < 0) = false := by simp; omega
    go_enter Try.func46, Try.ntmps46
    go_wp2
    go_ret2
    exact ⟨rfl, rfl⟩
set_option maxHeartbeats 400000 in
theorem add_most (h : a + b > 9223372036854775807) :
    Calls Try.prog 46 #[.int .i64 a, .int .i64 b] w fun e w' => e = .returned (.tuple #[.int .i64 9223372036854775807, .bool true]) ∧ w = w' := by
  have hw := wrap_big (a + b) h (by omega)
  have hda : decide (a < 0) = false := by simp; omega
  have hdb : decide (b < 0) = false := by simp; omega
  go_enter Try.func46, Try.ntmps46
  go_wp2_with (go_at_call 52; refine (end_any _ _).mono ?_; rintro e w' ⟨rfl, rfl⟩)
  go_ret2
  exact ⟨rfl, rfl⟩
set_option maxHeartbeats 400000 in
theorem add_least (h : a + b < -9223372036854775808) :
    Calls Try.prog 46 #[.int .i64 a, .int .i64 b] w fun e w' => e = .returned (.tuple #[.int .i64 (-9223372036854775808), .bool true]) ∧ w = w' := by
  have hw := wrap_low (a + b) h (by omega)
  have hda : decide (a < 0) = true := by simp; omega
  have hdb : decide (b < 0) = true := by simp; omega
  go_enter Try.func46, Try.ntmps46
  go_wp2_with (go_at_call 52; refine (end_any _ _).mono ?_; rintro e w' ⟨rfl, rfl⟩)
  go_ret2
  exact ⟨rfl, rfl⟩
theorem add_any :
    Calls Try.prog 46 #[.int .i64 a, .int .i64 b] w fun e w' => e = .returned (.tuple #[.int .i64 (sat (a + b)).1, .bool (sat (a + b)).2]) ∧ w = w' := by
  by_cases h : a + b > 9223372036854775807
  · rw [sat_most _ h]; exact add_most a b w a0 a1 b0 b1 h
  · by_cases h2 : a + b < -9223372036854775808
    · rw [sat_least _ h2]; exact add_least a b w a0 a1 b0 b1 h2
    · rw [sat_in _ (by omega) (by omega)]; exact add_in a b w a0 a1 b0 b1 (by omega) (by omega)

end
end Go.Proofs.Ytjkkpdflijjllaa
