/- A metric's name: the program's IsMetric. -/
import Derived.Test.YtnbghappfclnjaaLabWord
namespace Go.Proofs.Ytnbghappfclnjaa
open Go.RowKit

theorem data_nil {s : ByteArray} (h : s.data.toList = []) : s.toList = [] := by rw [Lib.toList_data, h]
theorem data_head {s : ByteArray} {c : UInt8} {l : List UInt8} (h : s.data.toList = c :: l) : ∃ hp : 0 < s.size, s[0]'hp = c ∧ s.toList.isEmpty = false ∧ s.size = l.length + 1 := by
  have hz : s.size = l.length + 1 := by rw [Lib.size_eq, h]; rfl
  have hpos : 0 < s.size := by omega
  refine ⟨hpos, ?_, by rw [Lib.toList_data, h]; rfl, hz⟩
  have := Lib.data_getElem? s 0 hpos
  rw [h] at this
  exact (Option.some.inj this).symm
theorem data_at (s : ByteArray) (k : Nat) (hlt : k < s.size) : ∃ c : UInt8, s[k]'hlt = c ∧ s.data.toList[k]? = some c :=
  ⟨_, rfl, Lib.data_getElem? s k hlt⟩
theorem metAll_snoc {l : List UInt8} {k : Nat} {c : UInt8} (h : l[k]? = some c) : metAll (l.take (k + 1)) = (metAll (l.take k) && (isLt c || isDg c)) := by
  rw [List.take_add_one, h]
  unfold metAll
  simp
theorem metAll_false {l : List UInt8} {k : Nat} {c : UInt8} (h : l[k]? = some c) (h1 : isLt c = false) (h2 : isDg c = false) : metAll l = false := by
  unfold metAll
  rw [List.all_eq_false]
  exact ⟨c, List.mem_of_getElem? h, by simp [h1, h2]⟩
theorem metB_eq {l : List UInt8} {c : UInt8} {r : List UInt8} (h : l = c :: r) : metB l = (decide (l.length ≤ 200) && !isDg c && metAll l) := by subst h; rfl

set_option maxRecDepth 100000 in
set_option maxHeartbeats 1000000 in
theorem isMetric_none (s : ByteArray) (w : World) (he : s.toList = []) (he2 : s.toList.isEmpty = true) :
    Calls Try.prog 58 #[.string s] w fun e w' => e = .returned (.bool false) ∧ w = w' := by
  go_enter Try.func58, Try.ntmps58
  go_wp2
  go_ret
  exact ⟨rfl, rfl⟩
set_option maxRecDepth 100000 in
set_option maxHeartbeats 1000000 in
theorem isMetric_long (s : ByteArray) (w : World) (hs : s.size ≤ 9223372036854775807) (he2 : s.toList.isEmpty = false) (hl : 200 < (s.size : Int)) :
    Calls Try.prog 58 #[.string s] w fun e w' => e = .returned (.bool false) ∧ w = w' := by
  go_enter Try.func58, Try.ntmps58
  go_wp2
  go_ret
  exact ⟨rfl, rfl⟩
set_option maxRecDepth 100000 in
set_option maxHeartbeats 1000000 in
theorem isMetric_digit (s : ByteArray) (w : World) (hpos : 0 < s.size) (he2 : s.toList.isEmpty = false) (hl : (s.size : Int) ≤ 200) (hd : isDg (s[0]'hpos) = true) :
    Calls Try.prog 58 #[.string s] w fun e w' => e = .returned (.bool false) ∧ w = w' := by
  have HS := Lib.hid (show Calls Try.prog 69 #[.int .u8 ((s[0]'hpos).toNat : Int)] w fun e w' => e = .returned (.bool true) ∧ w = w' by rw [← hd]; exact isDigit_any _ w)
  clear hd
  have hp' : (0 : Int) < s.size := by omega
  have hq : ((s[0]'hpos).toNat : Int) ≤ 255 := by have := (s[0]'hpos).toNat_lt; omega
  go_enter Try.func58, Try.ntmps58
  go_wp2_with fail
  refine (Hid.out HS).mono ?_
  rintro e w1 ⟨rfl, rfl⟩
  go_wp2
  go_ret
  exact ⟨rfl, rfl⟩
set_option maxRecDepth 100000 in
set_option maxHeartbeats 2000000 in
theorem isMetric_rest (s : ByteArray) (w : World) (hpos : 0 < s.size) (he2 : s.toList.isEmpty = false) (hl : (s.size : Int) ≤ 200) (hd : isDg (s[0]'hpos) = false) :
    Calls Try.prog 58 #[.string s] w fun e w' => e = .returned (.bool (metAll s.data.toList)) ∧ w = w' := by
  have HS := Lib.hid (show Calls Try.prog 69 #[.int .u8 ((s[0]'hpos).toNat : Int)] w fun e w' => e = .returned (.bool false) ∧ w = w' by rw [← hd]; exact isDigit_any _ w)
  clear hd
  have hp' : (0 : Int) < s.size := by omega
  have hq : ((s[0]'hpos).toNat : Int) ≤ 255 := by have := (s[0]'hpos).toNat_lt; omega
  go_enter Try.func58, Try.ntmps58
  go_wp2_with fail
  refine (Hid.out HS).mono ?_
  rintro e w1 ⟨rfl, rfl⟩
  clear hq hp'
  go_wp2
  go_loop [19] (fun i => ∃ k : Nat, k ≤ s.size ∧ i = .int .i64 k ∧ Hid (metAll (s.data.toList.take k) = true)) (fun i => s.size - (intOf i).toNat)
  case atStart => exact ⟨0, Nat.zero_le _, rfl, Lib.hid rfl⟩
  case round =>
    obtain ⟨k, hk, rfl, HK⟩ := hrel
    by_cases hlt : k < s.size
    · obtain ⟨c, hc, hcl⟩ := data_at s k hlt
      have HCL := Lib.hid hcl
      clear hcl
      have hlt' : (k : Int) < (s.size : Int) := by omega
      have hq : (c.toNat : Int) ≤ 255 := by have := c.toNat_lt; omega
      cases h1 : isLt c with
      | true =>
        have HC := Lib.hid (show Calls Try.prog 70 #[.int .u8 (c.toNat : Int)] w fun e w' => e = .returned (.bool true) ∧ w = w' by rw [← h1]; exact isLetter_any _ w)
        have HN := Lib.hid (show metAll (s.data.toList.take (k + 1)) = true by rw [metAll_snoc HCL.out, HK.out, h1]; rfl)
        clear h1
        go_wp2_with (refine (Hid.out HC).mono ?_; rintro e w1 ⟨rfl, rfl⟩)
        go_round
        case rel => exact ⟨k + 1, by omega, by go_num, HN⟩
        case measure => simp [intOf] <;> omega
      | false =>
        have HC := Lib.hid (show Calls Try.prog 70 #[.int .u8 (c.toNat : Int)] w fun e w' => e = .returned (.bool false) ∧ w = w' by rw [← h1]; exact isLetter_any _ w)
        cases h2 : isDg c with
        | true =>
          have HC2 := Lib.hid (show Calls Try.prog 69 #[.int .u8 (c.toNat : Int)] w fun e w' => e = .returned (.bool true) ∧ w = w' by rw [← h2]; exact isDigit_any _ w)
          have HN := Lib.hid (show metAll (s.data.toList.take (k + 1)) = true by rw [metAll_snoc HCL.out, HK.out, h1, h2]; rfl)
          clear h1 h2
          go_wp2_with fail
          refine (Hid.out HC).mono ?_
          rintro e w1 ⟨rfl, rfl⟩
          go_wp2_with fail
          refine (Hid.out HC2).mono ?_
          rintro e w1 ⟨rfl, rfl⟩
          go_wp2
          go_round
          case rel => exact ⟨k + 1, by omega, by go_num, HN⟩
          case measure => simp [intOf] <;> omega
        | false =>
          have HC2 := Lib.hid (show Calls Try.prog 69 #[.int .u8 (c.toNat : Int)] w fun e w' => e = .returned (.bool false) ∧ w = w' by rw [← h2]; exact isDigit_any _ w)
          have HN := Lib.hid (metAll_false HCL.out h1 h2)
          clear h1 h2
          go_wp2_with fail
          refine (Hid.out HC).mono ?_
          rintro e w1 ⟨rfl, rfl⟩
          go_wp2_with fail
          refine (Hid.out HC2).mono ?_
          rintro e w1 ⟨rfl, rfl⟩
          go_wp2
          go_ret
          exact ⟨ret_bool' HN.out.symm, rfl⟩
    · have hge : decide ((k : Int) < (s.size : Int)) = false := by simp; omega
      have HN := Lib.hid (show metAll s.data.toList = true by rw [← HK.out, List.take_of_length_le (by rw [← Lib.size_eq]; omega)])
      go_wp2
      go_ret
      exact ⟨ret_bool' HN.out.symm, rfl⟩
theorem isMetric_any (s : ByteArray) (w : World) (hs : s.size ≤ 9223372036854775807) :
    Calls Try.prog 58 #[.string s] w fun e w' => e = .returned (.bool (metB s.data.toList)) ∧ w = w' := by
  cases hl : s.data.toList with
  | nil =>
    have he := data_nil hl
    exact isMetric_none s w he (by rw [he]; rfl)
  | cons c l =>
    obtain ⟨hpos, h0, he2, hz⟩ := data_head hl
    rw [metB_eq rfl, ← hl, ← Lib.size_eq]
    rcases Nat.lt_or_ge 200 s.size with h | h
    · rw [decide_eq_false (by omega)]
      exact isMetric_long s w hs he2 (by omega)
    · rw [decide_eq_true h]
      cases hd : isDg c with
      | true => exact isMetric_digit s w hpos he2 (by omega) (by rw [h0]; exact hd)
      | false =>
        simp only [Bool.not_false, Bool.true_and]
        exact isMetric_rest s w hpos he2 (by omega) (by rw [h0]; exact hd)
end Go.Proofs.Ytnbghappfclnjaa
