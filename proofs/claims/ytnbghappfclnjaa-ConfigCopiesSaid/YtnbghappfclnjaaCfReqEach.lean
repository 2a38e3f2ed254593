/- Hosts and paths: the program's. -/
import Derived.Test.YtnbghappfclnjaaCfReqMay
import Derived.Shelf.Strings.Prefix
namespace Go.Proofs.Ytnbghappfclnjaa
open Go.RowKit

def allB (p : UInt8 → Bool) (l : List UInt8) : Bool := l.all p
theorem allB_snoc {p : UInt8 → Bool} {l : List UInt8} {k : Nat} {c : UInt8} (h : l[k]? = some c) : allB p (l.take (k + 1)) = (allB p (l.take k) && p c) := all_snoc h
theorem allB_false {p : UInt8 → Bool} {l : List UInt8} {k : Nat} {c : UInt8} (h : l[k]? = some c) (h1 : p c = false) : allB p l = false := all_false h h1
set_option maxRecDepth 100000 in
set_option maxHeartbeats 2000000 in
theorem each_host (s : ByteArray) (w : World) (hs : s.size ≤ 9223372036854775807) :
    Calls Try.prog 50 #[.string s, .func (.func 51) #[] #[]] w fun e w' => e = .returned (.bool (allB hostB s.data.toList)) ∧ w = w' := by
  go_enter Try.func50, Try.ntmps50
  go_wp2
  go_loop [8] (fun i => ∃ k : Nat, k ≤ s.size ∧ i = .int .i64 k ∧ Hid (allB hostB (s.data.toList.take k) = true)) (fun i => s.size - (intOf i).toNat)
  case atStart => exact ⟨0, Nat.zero_le _, rfl, Lib.hid rfl⟩
  case round =>
    obtain ⟨k, hk, rfl, HK⟩ := hrel
    by_cases hlt : k < s.size
    · obtain ⟨c, hc, hcl⟩ := data_at s k hlt
      have HCL := Lib.hid hcl
      clear hcl
      have hlt' : (k : Int) < (s.size : Int) := by omega
      have hq : (c.toNat : Int) ≤ 255 := by have := c.toNat_lt; omega
      cases h1 : hostB c with
      | true =>
        have HC := Lib.hid (show Calls Try.prog 51 #[.int .u8 (c.toNat : Int)] w fun e w' => e = .returned (.bool true) ∧ w = w' by rw [← h1]; exact inHost_any _ w)
        have HN := Lib.hid (show allB hostB (s.data.toList.take (k + 1)) = true by rw [allB_snoc HCL.out, HK.out, h1]; rfl)
        clear h1
        go_wp2_with (refine (Hid.out HC).mono ?_; rintro e w1 ⟨rfl, rfl⟩)
        go_round
        case rel => exact ⟨k + 1, by omega, by go_num, HN⟩
        case measure => simp [intOf] <;> omega
      | false =>
        have HC := Lib.hid (show Calls Try.prog 51 #[.int .u8 (c.toNat : Int)] w fun e w' => e = .returned (.bool false) ∧ w = w' by rw [← h1]; exact inHost_any _ w)
        have HN := Lib.hid (allB_false HCL.out h1)
        clear h1
        go_wp2_with (refine (Hid.out HC).mono ?_; rintro e w1 ⟨rfl, rfl⟩)
        go_ret
        exact ⟨ret_bool' HN.out.symm, rfl⟩
    · have hge : decide ((k : Int) < (s.size : Int)) = false := by simp; omega
      have HN := Lib.hid (show allB hostB s.data.toList = true by rw [← HK.out, List.take_of_length_le (by rw [← Lib.size_eq]; omega)])
      go_wp2
      go_ret
      exact ⟨ret_bool' HN.out.symm, rfl⟩
set_option maxRecDepth 100000 in
set_option maxHeartbeats 2000000 in
theorem each_path (s : ByteArray) (w : World) (hs : s.size ≤ 9223372036854775807) :
    Calls Try.prog 50 #[.string s, .func (.func 53) #[] #[]] w fun e w' => e = .returned (.bool (allB pathB s.data.toList)) ∧ w = w' := by
  go_enter Try.func50, Try.ntmps50
  go_wp2
  go_loop [8] (fun i => ∃ k : Nat, k ≤ s.size ∧ i = .int .i64 k ∧ Hid (allB pathB (s.data.toList.take k) = true)) (fun i => s.size - (intOf i).toNat)
  case atStart => exact ⟨0, Nat.zero_le _, rfl, Lib.hid rfl⟩
  case round =>
    obtain ⟨k, hk, rfl, HK⟩ := hrel
    by_cases hlt : k < s.size
    · obtain ⟨c, hc, hcl⟩ := data_at s k hlt
      have HCL := Lib.hid hcl
      clear hcl
      have hlt' : (k : Int) < (s.size : Int) := by omega
      have hq : (c.toNat : Int) ≤ 255 := by have := c.toNat_lt; omega
      cases h1 : pathB c with
      | true =>
        have HC := Lib.hid (show Calls Try.prog 53 #[.int .u8 (c.toNat : Int)] w fun e w' => e = .returned (.bool true) ∧ w = w' by rw [← h1]; exact inPath_any _ w)
        have HN := Lib.hid (show allB pathB (s.data.toList.take (k + 1)) = true by rw [allB_snoc HCL.out, HK.out, h1]; rfl)
        clear h1
        go_wp2_with (refine (Hid.out HC).mono ?_; rintro e w1 ⟨rfl, rfl⟩)
        go_round
        case rel => exact ⟨k + 1, by omega, by go_num, HN⟩
        case measure => simp [intOf] <;> omega
      | false =>
        have HC := Lib.hid (show Calls Try.prog 53 #[.int .u8 (c.toNat : Int)] w fun e w' => e = .returned (.bool false) ∧ w = w' by rw [← h1]; exact inPath_any _ w)
        have HN := Lib.hid (allB_false HCL.out h1)
        clear h1
        go_wp2_with (refine (Hid.out HC).mono ?_; rintro e w1 ⟨rfl, rfl⟩)
        go_ret
        exact ⟨ret_bool' HN.out.symm, rfl⟩
    · have hge : decide ((k : Int) < (s.size : Int)) = false := by simp; omega
      have HN := Lib.hid (show allB pathB s.data.toList = true by rw [← HK.out, List.take_of_length_le (by rw [← Lib.size_eq]; omega)])
      go_wp2
      go_ret
      exact ⟨ret_bool' HN.out.symm, rfl⟩

set_option maxRecDepth 100000 in
set_option maxHeartbeats 2000000 in
theorem mayHost_any (s : ByteArray) (w : World) (hs : s.size ≤ 9223372036854775807) :
    Calls Try.prog 35 #[.string s] w fun e w' => e = .returned (.bool (mayHost s.data.toList)) ∧ w = w' := by
  have HE := Lib.hid (each_host s w hs)
  have hz := Lib.size_eq s
  have hem : s.toList.isEmpty = decide (s.size = 0) := by
    rw [Lib.toList_data]
    cases hl : s.data.toList with
    | nil => rw [hl] at hz; simp [hz]
    | cons c l => rw [hl] at hz; simp [hz]
  by_cases h0 : s.size = 0
  · have h1 : s.toList.isEmpty = true := by rw [hem, h0]; rfl
    have HR := Lib.hid (show mayHost s.data.toList = false by unfold mayHost; rw [← hz, h0]; rfl)
    have h1' : s.toList = [] := by simpa using h1
    clear hem hz h0
    go_enter Try.func35, Try.ntmps35
    go_wp2
    go_ret
    exact ⟨ret_bool' HR.out.symm, rfl⟩
  · have h1 : s.toList.isEmpty = false := by rw [hem]; simpa using h0
    by_cases h2 : (s.size : Int) ≤ 255
    · have HR := Lib.hid (show mayHost s.data.toList = allB hostB s.data.toList by unfold mayHost; rw [← hz, decide_eq_true (by omega), decide_eq_true (by omega)]; rfl)
      generalize allB hostB s.data.toList = b at HE HR
      clear hem hz h0
      cases b
      all_goals
        go_enter Try.func35, Try.ntmps35
        go_wp2_with (refine (Hid.out HE).mono ?_; rintro e w1 ⟨rfl, rfl⟩)
        go_ret
        exact ⟨ret_bool' HR.out.symm, rfl⟩
    · have h2' : decide ((s.size : Int) ≤ 255) = false := by simpa using h2
      have HR := Lib.hid (show mayHost s.data.toList = false by unfold mayHost; rw [← hz, decide_eq_false (p := s.size ≤ 255) (by omega)]; simp)
      clear hem hz h0 h2
      go_enter Try.func35, Try.ntmps35
      go_wp2
      go_ret
      exact ⟨ret_bool' HR.out.symm, rfl⟩
end Go.Proofs.Ytnbghappfclnjaa
