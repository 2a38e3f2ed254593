/- pack: fold, PutUvarint, PutVarint. -/
import Derived.Test.YtblphklfjafmfaaDoorPut
namespace Go.Proofs.YtblphklfjafmfaaDoor
open Go.RowKit

theorem ret_int' {k : IntKind} {a b : Int} (h : a = b) : Ending.returned (.int k a) = .returned (.int k b) := by rw [h]
theorem not_u64 (x : Int) (h0 : 0 ≤ x) (h1 : x ≤ 18446744073709551615) : bits .xor .u64 18446744073709551615 x = 18446744073709551615 - x := by
  obtain ⟨X, rfl⟩ := Int.eq_ofNat_of_zero_le h0
  have e : (18446744073709551615 : Int) = ((18446744073709551615 : Nat) : Int) := rfl
  rw [e, u64_xor_nat 18446744073709551615 X (by decide) (by omega)]
  have hx : X < 2 ^ 64 := by omega
  have : 18446744073709551615 ^^^ X = 2 ^ 64 - 1 - X := by
    apply Nat.eq_of_testBit_eq
    intro i
    rw [Nat.testBit_xor, show (18446744073709551615 : Nat) = 2 ^ 64 - 1 by rfl, Nat.testBit_two_pow_sub_one, show 2 ^ 64 - 1 - X = 2 ^ 64 - (X + 1) by omega, Nat.testBit_two_pow_sub_succ hx]
    by_cases h : i < 64
    · simp [h]
    · rw [Nat.testBit_lt_two_pow (x := X) (i := i) (Nat.lt_of_lt_of_le hx (Nat.pow_le_pow_right (by omega) (by omega)))]
      simp [h]
  rw [this]
  omega
theorem fold_wrap (n : Int) (h0 : -9223372036854775808 ≤ n) (h : n < 0) : IntKind.u64.wrap (IntKind.u64.wrap n * 2) = 2 * n + 18446744073709551616 := by
  simp only [IntKind.wrap, IntKind.bits, IntKind.signed]
  simp
  omega
theorem foldN_lt (n : Int) (h0 : -9223372036854775808 ≤ n) (h1 : n ≤ 9223372036854775807) : foldN n < 18446744073709551616 := by
  unfold foldN
  split <;> omega
set_option maxHeartbeats 400000 in
theorem fold_any (n : Int) (w : World) (h0 : -9223372036854775808 ≤ n) (h1 : n ≤ 9223372036854775807) :
    Calls Tryd.prog 17 #[.int .i64 n] w fun e w' => e = .returned (.int .u64 (foldN n : Nat)) ∧ w = w' := by
  by_cases hn : n < 0
  · go_enter Tryd.func17, Tryd.ntmps17
    have hsg : IntKind.u64.signed = false := rfl
    have hmx : IntKind.u64.max = 18446744073709551615 := rfl
    go_wp2
    go_ret
    refine ⟨ret_int' ?_, rfl⟩
    rw [fold_wrap n h0 hn, not_u64 _ (by omega) (by omega)]
    unfold foldN
    rw [if_pos hn]
    omega
  · go_enter Tryd.func17, Tryd.ntmps17
    go_wp2
    go_ret
    refine ⟨ret_int' ?_, rfl⟩
    unfold foldN
    rw [if_neg (by omega)]
    omega

set_option maxRecDepth 100000 in
set_option maxHeartbeats 400000 in
theorem putUvarint_any (A : Option Addr) (cap : Nat) (n : Nat) (l : List UInt8) (w : World) (hn : n < 18446744073709551616) (hl : l.length ≤ 4000) (hv : BReads w w.heap.size A l) (hcap : A = none → cap = 0) :
    Calls Tryd.prog 6 #[.slice A l.length cap, .int .u64 n] w (Gives w.heap.size w (l ++ putL n)) := by
  have HR := Lib.hid (roomy_any A cap 10 l w (by omega) (by omega) hv hcap)
  clear hv hcap
  go_enter Tryd.func6, Tryd.ntmps6
  go_wp2_with fail
  refine (Hid.out HR).mono ?_
  rintro e w1 ⟨v, rfl, ho, hb⟩
  have HA := Lib.hid (add_any w.heap.size n v l w1 hn (by omega) hb.size ho)
  have HB := Lib.hid hb
  clear ho hb
  go_wp2_with fail
  refine (Hid.out HA).mono ?_
  rintro e w2 ⟨v2, rfl, ho, hb⟩
  have HO2 := Lib.hid ho
  have HB2 := Lib.hid hb
  clear ho hb
  go_wp2
  go_ret
  exact ⟨v2, rfl, HO2.out, HB.out.trans HB2.out⟩

set_option maxRecDepth 100000 in
set_option maxHeartbeats 400000 in
theorem putVarint_any (A : Option Addr) (cap : Nat) (n : Int) (l : List UInt8) (w : World) (h0 : -9223372036854775808 ≤ n) (h1 : n ≤ 9223372036854775807) (hl : l.length ≤ 4000) (hv : BReads w w.heap.size A l) (hcap : A = none → cap = 0) :
    Calls Tryd.prog 7 #[.slice A l.length cap, .int .i64 n] w (Gives w.heap.size w (l ++ putL (foldN n))) := by
  have HR := Lib.hid (roomy_any A cap 10 l w (by omega) (by omega) hv hcap)
  have HF := Lib.hid (fun w => fold_any n w h0 h1)
  have hn := foldN_lt n h0 h1
  clear hv hcap
  go_enter Tryd.func7, Tryd.ntmps7
  go_wp2_with fail
  refine (Hid.out HR).mono ?_
  rintro e w1 ⟨v, rfl, ho, hb⟩
  have HA := Lib.hid (add_any w.heap.size (foldN n) v l w1 hn (by omega) hb.size ho)
  have HB := Lib.hid hb
  clear ho hb
  go_wp2_with fail
  refine (Hid.out HF _).mono ?_
  rintro e w' ⟨rfl, rfl⟩
  go_wp2_with fail
  refine (Hid.out HA).mono ?_
  rintro e w2 ⟨v2, rfl, ho, hb⟩
  have HO2 := Lib.hid ho
  have HB2 := Lib.hid hb
  clear ho hb
  go_wp2
  go_ret
  exact ⟨v2, rfl, HO2.out, HB.out.trans HB2.out⟩
end Go.Proofs.YtblphklfjafmfaaDoor
