/- Bounds, what has turns, FNV-1a: the program's within, mayTurn, number. -/
import Derived.Test.YtnbghappfclnjaaCfTag
import Derived.Test.YtnbghappfclnjaaCfBox
namespace Go.Proofs.Ytnbghappfclnjaa
open Go.RowKit

set_option maxRecDepth 100000 in
set_option maxHeartbeats 1000000 in
theorem within64_any (n a b : Int) (w : World) :
    Calls Try.prog 40 #[.int .i64 n, .int .i64 a, .int .i64 b] w fun e w' => e = .returned (.bool (decide (a ≤ n) && decide (n ≤ b))) ∧ w = w' := by
  by_cases h1 : a ≤ n
  · by_cases h2 : n ≤ b
    · have HR := Lib.hid (show (decide (a ≤ n) && decide (n ≤ b)) = true by rw [decide_eq_true h1, decide_eq_true h2]; rfl)
      go_enter Try.func40, Try.ntmps40
      go_wp2
      go_ret
      exact ⟨ret_bool' HR.out.symm, rfl⟩
    · have h2' : decide (n ≤ b) = false := decide_eq_false h2
      have HR := Lib.hid (show (decide (a ≤ n) && decide (n ≤ b)) = false by rw [h2', Bool.and_false])
      clear h2
      go_enter Try.func40, Try.ntmps40
      go_wp2
      go_ret
      exact ⟨ret_bool' HR.out.symm, rfl⟩
  · have h1' : decide (a ≤ n) = false := decide_eq_false h1
    have HR := Lib.hid (show (decide (a ≤ n) && decide (n ≤ b)) = false by rw [h1', Bool.false_and])
    clear h1
    go_enter Try.func40, Try.ntmps40
    go_wp2
    go_ret
    exact ⟨ret_bool' HR.out.symm, rfl⟩
def Tg.turnB (t : Tg) : Bool := decide (1 ≤ t.iv) && decide (t.iv ≤ 1073741824)
set_option maxRecDepth 100000 in
set_option maxHeartbeats 1000000 in
theorem mayTurn_any (t : Tg) (w : World) :
    Calls Try.prog 20 #[t.val] w fun e w' => e = .returned (.bool t.turnB) ∧ Below w.heap.size w w' := by
  have HW := Lib.hid (fun W => within64_any t.iv 1 1073741824 W)
  obtain ⟨z, hz⟩ : ∃ z, z = t.turnB := ⟨_, rfl⟩
  rw [show (decide (1 ≤ t.iv) && decide (t.iv ≤ 1073741824)) = z from hz.symm] at HW
  rw [← hz]
  clear hz
  obtain ⟨j, h, p, iv, tm⟩ := t
  unfold Tg.val at *
  simp only at *
  have HB := Lib.hid ((Below.refl w.heap.size w).alloc (Nat.le_refl _) (.cells #[.string j, .string h, .string p, .int .i64 iv, .int .i64 tm] 23))
  go_enter Try.func20, Try.ntmps20
  go_wp2_with fail
  refine (HW.out _).mono ?_
  rintro e w1 ⟨rfl, rfl⟩
  go_wp2
  go_ret
  exact ⟨rfl, HB.out⟩
set_option maxRecDepth 100000 in
set_option maxHeartbeats 1000000 in
theorem number_any (S : ByteArray) (w : World) (hs : S.size ≤ 9223372036854775807) :
    Calls Try.prog 21 #[.string S] w fun e w' => e = .returned (.int .u64 (fnvL fnv0 S.data.toList : Nat)) ∧ w = w' := by
  go_enter Try.func21, Try.ntmps21
  go_wp2
  go_loop [3, 7] (fun n i => ∃ k : Nat, k ≤ S.size ∧ i = .int .i64 k ∧ n = .int .u64 (fnvL fnv0 (S.data.toList.take k) : Nat)) (fun _ i => S.size - (intOf i).toNat)
  case atStart => exact ⟨0, Nat.zero_le _, rfl, rfl⟩
  case round =>
    obtain ⟨k, hk, rfl, rfl⟩ := hrel
    by_cases hlt : k < S.size
    · obtain ⟨c, hc, hcl⟩ := data_at S k hlt
      have HCL := Lib.hid hcl
      clear hcl
      have hlt' : (k : Int) < (S.size : Int) := by omega
      have hq : (c.toNat : Int) ≤ 255 := by have := c.toNat_lt; omega
      obtain ⟨n, hn⟩ : ∃ n, n = fnvL fnv0 (S.data.toList.take k) := ⟨_, rfl⟩
      have HL := Lib.hid (show n < 18446744073709551616 by rw [hn]; exact fnvL_lt (by unfold fnv0; omega) _)
      have HN := Lib.hid (show fnvL fnv0 (S.data.toList.take (k + 1)) = fnvS n c by rw [hn]; exact fnvL_take HCL.out)
      rw [← hn]
      clear hn
      have hxo := u64_xor_nat n c.toNat HL.out (by omega)
      have hmu := fnv_mul n c
      go_wp2_with fail
      go_round
      case rel => exact ⟨k + 1, by omega, by go_num, by rw [HN.out]⟩
      case measure => simp [intOf] <;> omega
    · have hge : decide ((k : Int) < (S.size : Int)) = false := by simp; omega
      obtain rfl : k = S.size := by omega
      obtain ⟨n, hn⟩ : ∃ n, n = fnvL fnv0 S.data.toList := ⟨_, rfl⟩
      rw [List.take_of_length_le (by rw [← Lib.size_eq]; omega), ← hn]
      have HN := Lib.hid hn
      clear hn
      go_wp2
      go_ret
      exact ⟨congrArg (fun x : Nat => Ending.returned (.int .u64 (x : Int))) HN.out, rfl⟩
end Go.Proofs.Ytnbghappfclnjaa
