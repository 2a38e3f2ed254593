/- Contracts of the small functions of package fix: isSign, isDigit, end, size, signed. -/
import Derived.Test.YtmbdggbppbkojaaDoorProg
import Derived.WalkKit
import Derived.WalkSpells
import Derived.WalkLawsBesides
import Derived.Deep.QuietTactic
import Derived.BigQuiet
import Derived.Lib.Hide
namespace Go.Proofs.YtmbdggbppbkojaaDoor
open Go.RowKit

theorem ret_bool {a b : Bool} (h : a = b) : Ending.returned (.bool a) = .returned (.bool b) := by rw [h]
theorem ret_int {k : IntKind} {a b : Int} (h : a = b) : Ending.returned (.int k a) = .returned (.int k b) := by rw [h]
theorem ret_pair {k : IntKind} {a b : Int} {c d : Bool} (h : a = b) (h' : c = d) : Ending.returned (.tuple #[.int k a, .bool c]) = .returned (.tuple #[.int k b, .bool d]) := by rw [h, h']

def isSignB (r : Int) : Bool := decide (r = 43 ∨ r = 45)
def isDigitB (r : Int) : Bool := decide (48 ≤ r ∧ r ≤ 57)

set_option maxHeartbeats 400000 in
theorem isSign_any (r : Int) (w : World) :
    Calls Tryd.prog 36 #[.int .i32 r] w fun e w' => e = .returned (.bool (isSignB r)) ∧ w = w' := by
  by_cases h1 : r = 43
  · have h1' : (r == 43) = true := by simp [h1]
    have hb : isSignB r = true := by simp [isSignB, h1]
    have HB := Lib.hid hb
    clear h1 hb
    go_enter Tryd.func36, Tryd.ntmps36
    go_wp2
    go_ret
    exact ⟨ret_bool HB.out.symm, rfl⟩
  · have h1' : (r == 43) = false := by simp [h1]
    have hb : isSignB r = (r == 45) := by simp [isSignB, h1]; rfl
    have HB := Lib.hid hb
    clear h1 hb
    go_enter Tryd.func36, Tryd.ntmps36
    go_wp2
    go_ret
    exact ⟨ret_bool HB.out.symm, rfl⟩

set_option maxHeartbeats 400000 in
theorem isDigit_any (r : Int) (w : World) :
    Calls Tryd.prog 38 #[.int .i32 r] w fun e w' => e = .returned (.bool (isDigitB r)) ∧ w = w' := by
  by_cases h1 : 48 ≤ r
  · by_cases h2 : r ≤ 57
    · have HB := Lib.hid (show isDigitB r = true by simp [isDigitB]; omega)
      go_enter Tryd.func38, Tryd.ntmps38
      go_wp2
      go_ret
      exact ⟨ret_bool HB.out.symm, rfl⟩
    · have HB := Lib.hid (show isDigitB r = false by simp [isDigitB]; omega)
      go_enter Tryd.func38, Tryd.ntmps38
      go_wp2
      go_ret
      exact ⟨ret_bool HB.out.symm, rfl⟩
  · have h1' : decide (48 ≤ r) = false := by simpa using h1
    have HB := Lib.hid (show isDigitB r = false by simp [isDigitB]; omega)
    go_enter Tryd.func38, Tryd.ntmps38
    go_wp2
    go_ret
    exact ⟨ret_bool HB.out.symm, rfl⟩

theorem size_neg_eq (n : Int) (h0 : -9223372036854775808 ≤ n) (hn : n < 0) : IntKind.u64.wrap (-IntKind.u64.wrap n) = n.natAbs := by
  simp only [IntKind.wrap_u64]; omega
set_option maxHeartbeats 400000 in
theorem size_any (n : Int) (w : World) (h0 : -9223372036854775808 ≤ n) (h1 : n ≤ 9223372036854775807) :
    Calls Tryd.prog 28 #[.int .i64 n] w fun e w' => e = .returned (.int .u64 n.natAbs) ∧ w = w' := by
  by_cases hn : n < 0
  · go_enter Tryd.func28, Tryd.ntmps28
    go_wp2
    go_ret
    exact ⟨ret_int (size_neg_eq n h0 hn), rfl⟩
  · go_enter Tryd.func28, Tryd.ntmps28
    go_wp2
    go_ret
    exact ⟨ret_int (by omega), rfl⟩
set_option maxHeartbeats 400000 in
theorem end_any (b : Bool) (w : World) :
    Calls Tryd.prog 32 #[.bool b] w fun e w' => e = .returned (.int .i64 (if b then -9223372036854775808 else 9223372036854775807)) ∧ w = w' := by
  cases b
  · go_enter Tryd.func32, Tryd.ntmps32
    go_wp2
    go_ret
    exact ⟨rfl, rfl⟩
  · go_enter Tryd.func32, Tryd.ntmps32
    go_wp2
    go_ret
    exact ⟨rfl, rfl⟩

/-- What 'signed' comes to. -/
def sgn (n : Nat) (b : Bool) : Int × Bool :=
  if b then (if n > 9223372036854775808 then (-9223372036854775808, true) else (-(n : Int), false))
  else (if n > 9223372036854775807 then (9223372036854775807, true) else ((n : Int), false))
theorem sgn_neg_big (n : Nat) (h : (n : Int) > 9223372036854775808) : sgn n true = (-9223372036854775808, true) := by
  simp only [sgn, if_true]; rw [if_pos (by omega)]
theorem sgn_neg_small (n : Nat) (h : ¬ (n : Int) > 9223372036854775808) : sgn n true = (-(n : Int), false) := by
  simp only [sgn, if_true]; rw [if_neg (by omega)]
theorem sgn_pos_big (n : Nat) (h : (n : Int) > 9223372036854775807) : sgn n false = (9223372036854775807, true) := by
  simp only [sgn]; simp; omega
theorem sgn_pos_small (n : Nat) (h : ¬ (n : Int) > 9223372036854775807) : sgn n false = ((n : Int), false) := by
  simp only [sgn]; simp; omega
theorem wrap_neg_eq (n : Nat) (h : ¬ (n : Int) > 9223372036854775808) : wrap64 (IntKind.u64.wrap (-(n : Int))) = -(n : Int) := by
  simp only [wrap64, IntKind.wrap_u64]; omega

set_option maxHeartbeats 400000 in
theorem signed_any (n : Nat) (b : Bool) (w : World) (h1 : (n : Int) ≤ 18446744073709551615) :
    Calls Tryd.prog 35 #[.int .u64 n, .bool b] w fun e w' => e = .returned (.tuple #[.int .i64 (sgn n b).1, .bool (sgn n b).2]) ∧ w = w' := by
  cases b
  · by_cases hn : (n : Int) > 9223372036854775807
    · have HS := Lib.hid (sgn_pos_big n hn)
      go_enter Tryd.func35, Tryd.ntmps35
      go_wp2_with (go_at_call 32; refine (end_any _ _).mono ?_; rintro e w' ⟨rfl, rfl⟩)
      go_ret2
      exact ⟨ret_pair (by rw [HS.out]) (by rw [HS.out]), rfl⟩
    · have HS := Lib.hid (sgn_pos_small n hn)
      go_enter Tryd.func35, Tryd.ntmps35
      go_wp2
      go_ret2
      exact ⟨ret_pair (by rw [HS.out]) (by rw [HS.out]), rfl⟩
  · by_cases hn : (n : Int) > 9223372036854775808
    · have HS := Lib.hid (sgn_neg_big n hn)
      go_enter Tryd.func35, Tryd.ntmps35
      go_wp2_with (go_at_call 32; refine (end_any _ _).mono ?_; rintro e w' ⟨rfl, rfl⟩)
      go_ret2
      exact ⟨ret_pair (by rw [HS.out]) (by rw [HS.out]), rfl⟩
    · have HS := Lib.hid (sgn_neg_small n hn)
      have HW := Lib.hid (wrap_neg_eq n hn)
      go_enter Tryd.func35, Tryd.ntmps35
      go_wp2
      go_ret2
      exact ⟨ret_pair (by rw [HS.out]; exact HW.out) (by rw [HS.out]), rfl⟩
end Go.Proofs.YtmbdggbppbkojaaDoor
