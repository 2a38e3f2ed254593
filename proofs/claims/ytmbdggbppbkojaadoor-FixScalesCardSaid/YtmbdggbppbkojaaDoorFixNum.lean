/- Contracts of fix.shift and the methods of fix.number. -/
import Derived.Test.YtmbdggbppbkojaaDoorFixBase
import Derived.Test.YtmbdggbppbkojaaDoorMul64
namespace Go.Proofs.YtmbdggbppbkojaaDoor
open Go.RowKit

/-- 2^64, kept behind a name. -/
def shiftF : Nat → Nat → Nat × Bool
  | 0, n => (n, true)
  | k + 1, n => if n = 0 then (n, true) else if n * 10 / 18446744073709551616 > 0 then (0, false) else shiftF k (n * 10 % 18446744073709551616)
theorem shiftF_zero (k : Nat) : shiftF k 0 = (0, true) := by cases k <;> rfl
theorem shiftF_big (k n : Nat) (h : n ≠ 0) (hb : 0 < n * 10 / 18446744073709551616) : shiftF (k + 1) n = (0, false) := by
  rw [shiftF, if_neg h, if_pos hb]
theorem shiftF_step (k n : Nat) (h : n ≠ 0) (hb : ¬ 0 < n * 10 / 18446744073709551616) : shiftF (k + 1) n = shiftF k (n * 10 % 18446744073709551616) := by
  rw [shiftF, if_neg h, if_neg hb]

set_option maxHeartbeats 400000 in
theorem shift_any (n : Nat) (o : Int) (w : World) (hn : n < 18446744073709551616) (h0 : -9223372036854775808 ≤ o) (h1 : o ≤ 9223372036854775807) :
    Calls Tryd.prog 40 #[.int .u64 n, .int .i64 o] w fun e w' => e = .returned (.tuple #[.int .u64 (shiftF o.toNat n).1, .bool (shiftF o.toNat n).2]) ∧ w = w' := by
  go_enter Tryd.func40, Tryd.ntmps40
  go_wp2
  go_loop [0, 1] (fun a b => ∃ (m : Nat) (k : Int), m < 18446744073709551616 ∧ k ≤ o ∧ (0 ≤ k ∨ k = o) ∧ a = .int .u64 m ∧ b = .int .i64 k ∧ Hid (shiftF k.toNat m = shiftF o.toNat n)) (fun _ b => (intOf b).toNat)
  case atStart => exact ⟨n, o, hn, Int.le_refl _, Or.inr rfl, rfl, rfl, Lib.hid rfl⟩
  case round =>
    obtain ⟨m, k, hm, hk, hk0, rfl, rfl, HI⟩ := hrel
    by_cases hkp : k > 0
    · by_cases hmp : (m : Int) > 0
      · obtain ⟨j, rfl⟩ : ∃ j : Nat, k = (j : Int) + 1 := ⟨(k - 1).toNat, by omega⟩
        by_cases hb : 0 < m * 10 / 18446744073709551616
        · have HE := Lib.hid (shiftF_big j m (by omega) hb)
          have hb' : (((m * 10 / 18446744073709551616 : Nat) : Int)) > 0 := by omega
          clear hb
          go_wp2_with (go_at_call 33; refine (Tryd.bits_Mul64 _ 10 (by omega) (by omega) _).mono ?_; rintro e w' ⟨rfl, rfl⟩)
          go_ret2
          have h1 : ((j : Int) + 1).toNat = j + 1 := by omega
          exact ⟨ret_pair (by rw [← HI.out, h1, HE.out] <;> rfl) (by rw [← HI.out, h1, HE.out]), rfl⟩
        · have HE := Lib.hid (shiftF_step j m (by omega) hb)
          have hb' : ¬ (((m * 10 / 18446744073709551616 : Nat) : Int)) > 0 := by omega
          clear hb
          go_wp2_with (go_at_call 33; refine (Tryd.bits_Mul64 _ 10 (by omega) (by omega) _).mono ?_; rintro e w' ⟨rfl, rfl⟩)
          go_round
          case rel => exact ⟨m * 10 % 18446744073709551616, j, by omega, by omega, by omega, rfl, by go_num, Lib.hid (by
            have h1 : ((j : Int) + 1).toNat = j + 1 := by omega
            rw [← HI.out, h1, HE.out, Int.toNat_natCast])⟩
          case measure => simp [intOf] <;> omega
      · have HE := Lib.hid (show shiftF k.toNat m = (0, true) by rw [show m = 0 by omega]; exact shiftF_zero _)
        obtain rfl : m = 0 := by omega
        go_wp2
        go_ret2
        exact ⟨ret_pair (by rw [← HI.out, HE.out] <;> rfl) (by rw [← HI.out, HE.out]), rfl⟩
    · have HE := Lib.hid (show shiftF k.toNat m = (m, true) by rw [show k.toNat = 0 by omega]; rfl)
      go_wp2
      go_ret2
      exact ⟨ret_pair (by rw [← HI.out, HE.out] <;> rfl) (by rw [← HI.out, HE.out]), rfl⟩
end Go.Proofs.YtmbdggbppbkojaaDoor
