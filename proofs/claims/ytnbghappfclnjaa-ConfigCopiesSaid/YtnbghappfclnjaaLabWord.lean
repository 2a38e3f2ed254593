/- Words and metrics' names: the program's. -/
import Derived.Test.YtnbghappfclnjaaBytes
import Derived.Test.YtnbghappfclnjaaLabPlain
import Derived.BigQuiet
import Derived.Deep.QuietTactic
namespace Go.Proofs.Ytnbghappfclnjaa
open Go.RowKit

theorem ret_bool' {a b : Bool} (h : a = b) : Ending.returned (.bool a) = .returned (.bool b) := by rw [h]

theorem isDigit_any (c : UInt8) (w : World) :
    Calls Try.prog 69 #[.int .u8 (c.toNat : Int)] w fun e w' => e = .returned (.bool (isDg c)) ∧ w = w' := by
  have hq : ((c.toNat : Nat) : Int) ≤ 255 := by have := c.toNat_lt; omega
  by_cases h1 : 48 ≤ (c.toNat : Int)
  · by_cases h2 : (c.toNat : Int) ≤ 57
    · have HR := Lib.hid (show isDg c = true by unfold isDg; rw [decide_eq_true_eq]; omega)
      go_enter Try.func69, Try.ntmps69
      go_wp2
      go_ret
      exact ⟨ret_bool' HR.out.symm, rfl⟩
    · have HR := Lib.hid (show isDg c = false by unfold isDg; rw [decide_eq_false_iff_not]; omega)
      go_enter Try.func69, Try.ntmps69
      go_wp2
      go_ret
      exact ⟨ret_bool' HR.out.symm, rfl⟩
  · have h1' : decide (48 ≤ (c.toNat : Int)) = false := by simpa using h1
    have HR := Lib.hid (show isDg c = false by unfold isDg; rw [decide_eq_false_iff_not]; omega)
    go_enter Try.func69, Try.ntmps69
    go_wp2
    go_ret
    exact ⟨ret_bool' HR.out.symm, rfl⟩

set_option maxRecDepth 100000 in
set_option maxHeartbeats 1000000 in
theorem isLetter_of (n : Int) (b : Bool) (w : World) (h0 : 0 ≤ n) (hq : n ≤ 255) (hb : Hid (b = decide ((97 ≤ n ∧ n ≤ 122) ∨ (65 ≤ n ∧ n ≤ 90) ∨ n = 95 ∨ n = 58))) :
    Calls Try.prog 70 #[.int .u8 n] w fun e w' => e = .returned (.bool b) ∧ w = w' := by
  by_cases h1 : 97 ≤ n
  · by_cases h2 : n ≤ 122
    · have HR := Lib.hid (show b = true by rw [hb.out, decide_eq_true_eq]; omega)
      go_enter Try.func70, Try.ntmps70
      go_wp2
      go_ret
      exact ⟨ret_bool' HR.out.symm, rfl⟩
    · have h2' : decide (n ≤ 122) = false := by simpa using h2
      have h3 : 65 ≤ n := by omega
      have h4' : decide (n ≤ 90) = false := by simp; omega
      have h5 : (n == 95) = false := by simp; omega
      have h6 : (n == 58) = false := by simp; omega
      have HR := Lib.hid (show b = false by rw [hb.out, decide_eq_false_iff_not]; omega)
      go_enter Try.func70, Try.ntmps70
      go_wp2
      go_ret
      exact ⟨ret_bool' HR.out.symm, rfl⟩
  · have h1' : decide (97 ≤ n) = false := by simpa using h1
    by_cases h3 : 65 ≤ n
    · by_cases h4 : n ≤ 90
      · have HR := Lib.hid (show b = true by rw [hb.out, decide_eq_true_eq]; omega)
        go_enter Try.func70, Try.ntmps70
        go_wp2
        go_ret
        exact ⟨ret_bool' HR.out.symm, rfl⟩
      · have h4' : decide (n ≤ 90) = false := by simp; omega
        by_cases h5 : n = 95
        · subst h5
          have HR := Lib.hid (show b = true by rw [hb.out]; decide)
          go_enter Try.func70, Try.ntmps70
          go_wp2
          go_ret
          exact ⟨ret_bool' HR.out.symm, rfl⟩
        · have h5' : (n == 95) = false := by simpa using h5
          have h6 : (n == 58) = false := by simp; omega
          have HR := Lib.hid (show b = false by rw [hb.out, decide_eq_false_iff_not]; omega)
          go_enter Try.func70, Try.ntmps70
          go_wp2
          go_ret
          exact ⟨ret_bool' HR.out.symm, rfl⟩
    · have h3' : decide (65 ≤ n) = false := by simpa using h3
      by_cases h6 : n = 58
      · subst h6
        have HR := Lib.hid (show b = true by rw [hb.out]; decide)
        go_enter Try.func70, Try.ntmps70
        go_wp2
        go_ret
        exact ⟨ret_bool' HR.out.symm, rfl⟩
      · have h5' : (n == 95) = false := by simp; omega
        have h6' : (n == 58) = false := by simpa using h6
        have HR := Lib.hid (show b = false by rw [hb.out, decide_eq_false_iff_not]; omega)
        go_enter Try.func70, Try.ntmps70
        go_wp2
        go_ret
        exact ⟨ret_bool' HR.out.symm, rfl⟩
theorem isLetter_any (c : UInt8) (w : World) :
    Calls Try.prog 70 #[.int .u8 (c.toNat : Int)] w fun e w' => e = .returned (.bool (isLt c)) ∧ w = w' :=
  isLetter_of _ _ w (by omega) (by have := c.toNat_lt; omega) (Lib.hid (by unfold isLt; congr 1; simp only [eq_iff_iff]; omega))
end Go.Proofs.Ytnbghappfclnjaa
