/- Hosts and paths: the document's. -/
import Derived.Test.YtnbghappfclnjaaGreatCfReqEach
namespace Go.Proofs.YtnbghappfclnjaaGreat
open Go.RowKit

theorem host_cat (n : Nat) : (n = 45) ∨ (n = 46) ∨ (n = 58) ∨ (n = 91) ∨ (n = 93) ∨ (97 ≤ n ∧ n ≤ 122) ∨ (123 ≤ n) ∨ (65 ≤ n ∧ n ≤ 90) ∨ (91 ≤ n ∧ n ≤ 96 ∧ n ≠ 91 ∧ n ≠ 93) ∨ (48 ≤ n ∧ n ≤ 57) ∨ (58 ≤ n ∧ n ≤ 64 ∧ n ≠ 58) ∨ (n ≤ 47 ∧ n ≠ 45 ∧ n ≠ 46) := by omega
set_option maxRecDepth 100000 in
set_option maxHeartbeats 4000000 in
theorem rhost_any (s : ByteArray) (w : World) (hs : s.size ≤ 9223372036854775807) :
    Calls Tryz.prog 24 #[.string s] w fun e w' => e = .returned (.bool (mayHost s.data.toList)) ∧ w = w' := by
  go_enter Tryz.func24, Tryz.ntmps24
  go_wp2
  go_loop [3] (fun i => ∃ k : Nat, k ≤ s.size ∧ i = .int .i64 k ∧ Hid (allB hostB (s.data.toList.take k) = true)) (fun i => s.size - (intOf i).toNat)
  case atStart => exact ⟨0, Nat.zero_le _, rfl, Lib.hid rfl⟩
  case round =>
    obtain ⟨k, hk, rfl, HK⟩ := hrel
    by_cases hlt : k < s.size
    · obtain ⟨c, hc, hcl⟩ := data_at s k hlt
      have HCL := Lib.hid hcl
      clear hcl
      have hlt' : (k : Int) < (s.size : Int) := by omega
      have hq : (c.toNat : Int) ≤ 255 := by have := c.toNat_lt; omega
      have hq2 : c.toNat ≤ 255 := by have := c.toNat_lt; omega
      rcases host_cat c.toNat with hcat | hcat | hcat | hcat | hcat | hcat | hcat | hcat | hcat | hcat | hcat | hcat
      · have HH := Lib.hid (show hostB c = true by unfold hostB; rw [decide_eq_true_eq]; omega)
        have f0 : decide (97 ≤ (c.toNat : Int)) = false := by simp; omega
        have f1 : (c.toNat : Int) ≤ 122 := by omega
        have f2 : decide (65 ≤ (c.toNat : Int)) = false := by simp; omega
        have f3 : (c.toNat : Int) ≤ 90 := by omega
        have f4 : decide (48 ≤ (c.toNat : Int)) = false := by simp; omega
        have f5 : (c.toNat : Int) ≤ 57 := by omega
        have e45 : ((c.toNat : Int) == 45) = true := by simp; omega
        have e46 : ((c.toNat : Int) == 46) = false := by simp; omega
        have e58 : ((c.toNat : Int) == 58) = false := by simp; omega
        have e91 : ((c.toNat : Int) == 91) = false := by simp; omega
        have e93 : ((c.toNat : Int) == 93) = false := by simp; omega
        have HN := Lib.hid (show allB hostB (s.data.toList.take (k + 1)) = true by rw [allB_snoc HCL.out, HK.out, HH.out]; rfl)
        clear hcat HH
        go_wp2
        go_round
        case rel => exact ⟨k + 1, by omega, by go_num, HN⟩
        case measure => simp [intOf] <;> omega
      · have HH := Lib.hid (show hostB c = true by unfold hostB; rw [decide_eq_true_eq]; omega)
        have f0 : decide (97 ≤ (c.toNat : Int)) = false := by simp; omega
        have f1 : (c.toNat : Int) ≤ 122 := by omega
        have f2 : decide (65 ≤ (c.toNat : Int)) = false := by simp; omega
        have f3 : (c.toNat : Int) ≤ 90 := by omega
        have f4 : decide (48 ≤ (c.toNat : Int)) = false := by simp; omega
        have f5 : (c.toNat : Int) ≤ 57 := by omega
        have e45 : ((c.toNat : Int) == 45) = false := by simp; omega
        have e46 : ((c.toNat : Int) == 46) = true := by simp; omega
        have e58 : ((c.toNat : Int) == 58) = false := by simp; omega
        have e91 : ((c.toNat : Int) == 91) = false := by simp; omega
        have e93 : ((c.toNat : Int) == 93) = false := by simp; omega
        have HN := Lib.hid (show allB hostB (s.data.toList.take (k + 1)) = true by rw [allB_snoc HCL.out, HK.out, HH.out]; rfl)
        clear hcat HH
        go_wp2
        go_round
        case rel => exact ⟨k + 1, by omega, by go_num, HN⟩
        case measure => simp [intOf] <;> omega
      · have HH := Lib.hid (show hostB c = true by unfold hostB; rw [decide_eq_true_eq]; omega)
        have f0 : decide (97 ≤ (c.toNat : Int)) = false := by simp; omega
        have f1 : (c.toNat : Int) ≤ 122 := by omega
        have f2 : decide (65 ≤ (c.toNat : Int)) = false := by simp; omega
        have f3 : (c.toNat : Int) ≤ 90 := by omega
        have f4 : 48 ≤ (c.toNat : Int) := by omega
        have f5 : decide ((c.toNat : Int) ≤ 57) = false := by simp; omega
        have e45 : ((c.toNat : Int) == 45) = false := by simp; omega
        have e46 : ((c.toNat : Int) == 46) = false := by simp; omega
        have e58 : ((c.toNat : Int) == 58) = true := by simp; omega
        have e91 : ((c.toNat : Int) == 91) = false := by simp; omega
        have e93 : ((c.toNat : Int) == 93) = false := by simp; omega
        have HN := Lib.hid (show allB hostB (s.data.toList.take (k + 1)) = true by rw [allB_snoc HCL.out, HK.out, HH.out]; rfl)
        clear hcat HH
        go_wp2
        go_round
        case rel => exact ⟨k + 1, by omega, by go_num, HN⟩
        case measure => simp [intOf] <;> omega
      · have HH := Lib.hid (show hostB c = true by unfold hostB; rw [decide_eq_true_eq]; omega)
        have f0 : decide (97 ≤ (c.toNat : Int)) = false := by simp; omega
        have f1 : (c.toNat : Int) ≤ 122 := by omega
        have f2 : 65 ≤ (c.toNat : Int) := by omega
        have f3 : decide ((c.toNat : Int) ≤ 90) = false := by simp; omega
        have f4 : 48 ≤ (c.toNat : Int) := by omega
        have f5 : decide ((c.toNat : Int) ≤ 57) = false := by simp; omega
        have e45 : ((c.toNat : Int) == 45) = false := by simp; omega
        have e46 : ((c.toNat : Int) == 46) = false := by simp; omega
        have e58 : ((c.toNat : Int) == 58) = false := by simp; omega
        have e91 : ((c.toNat : Int) == 91) = true := by simp; omega
        have e93 : ((c.toNat : Int) == 93) = false := by simp; omega
        have HN := Lib.hid (show allB hostB (s.data.toList.take (k + 1)) = true by rw [allB_snoc HCL.out, HK.out, HH.out]; rfl)
        clear hcat HH
        go_wp2
        go_round
        case rel => exact ⟨k + 1, by omega, by go_num, HN⟩
        case measure => simp [intOf] <;> omega
      · have HH := Lib.hid (show hostB c = true by unfold hostB; rw [decide_eq_true_eq]; omega)
        have f0 : decide (97 ≤ (c.toNat : Int)) = false := by simp; omega
        have f1 : (c.toNat : Int) ≤ 122 := by omega
        have f2 : 65 ≤ (c.toNat : Int) := by omega
        have f3 : decide ((c.toNat : Int) ≤ 90) = false := by simp; omega
        have f4 : 48 ≤ (c.toNat : Int) := by omega
        have f5 : decide ((c.toNat : Int) ≤ 57) = false := by simp; omega
        have e45 : ((c.toNat : Int) == 45) = false := by simp; omega
        have e46 : ((c.toNat : Int) == 46) = false := by simp; omega
        have e58 : ((c.toNat : Int) == 58) = false := by simp; omega
        have e91 : ((c.toNat : Int) == 91) = false := by simp; omega
        have e93 : ((c.toNat : Int) == 93) = true := by simp; omega
        have HN := Lib.hid (show allB hostB (s.data.toList.take (k + 1)) = true by rw [allB_snoc HCL.out, HK.out, HH.out]; rfl)
        clear hcat HH
        go_wp2
        go_round
        case rel => exact ⟨k + 1, by omega, by go_num, HN⟩
        case measure => simp [intOf] <;> omega
      · have HH := Lib.hid (show hostB c = true by unfold hostB; rw [decide_eq_true_eq]; omega)
        have f0 : 97 ≤ (c.toNat : Int) := by omega
        have f1 : (c.toNat : Int) ≤ 122 := by omega
        have f2 : 65 ≤ (c.toNat : Int) := by omega
        have f3 : decide ((c.toNat : Int) ≤ 90) = false := by simp; omega
        have f4 : 48 ≤ (c.toNat : Int) := by omega
        have f5 : decide ((c.toNat : Int) ≤ 57) = false := by simp; omega
        have e45 : ((c.toNat : Int) == 45) = false := by simp; omega
        have e46 : ((c.toNat : Int) == 46) = false := by simp; omega
        have e58 : ((c.toNat : Int) == 58) = false := by simp; omega
        have e91 : ((c.toNat : Int) == 91) = false := by simp; omega
        have e93 : ((c.toNat : Int) == 93) = false := by simp; omega
        have HN := Lib.hid (show allB hostB (s.data.toList.take (k + 1)) = true by rw [allB_snoc HCL.out, HK.out, HH.out]; rfl)
        clear hcat HH
        go_wp2
        go_round
        case rel => exact ⟨k + 1, by omega, by go_num, HN⟩
        case measure => simp [intOf] <;> omega
      · have HH := Lib.hid (show hostB c = false by unfold hostB; rw [decide_eq_false_iff_not]; omega)
        have f0 : 97 ≤ (c.toNat : Int) := by omega
        have f1 : decide ((c.toNat : Int) ≤ 122) = false := by simp; omega
        have f2 : 65 ≤ (c.toNat : Int) := by omega
        have f3 : decide ((c.toNat : Int) ≤ 90) = false := by simp; omega
        have f4 : 48 ≤ (c.toNat : Int) := by omega
        have f5 : decide ((c.toNat : Int) ≤ 57) = false := by simp; omega
        have e45 : ((c.toNat : Int) == 45) = false := by simp; omega
        have e46 : ((c.toNat : Int) == 46) = false := by simp; omega
        have e58 : ((c.toNat : Int) == 58) = false := by simp; omega
        have e91 : ((c.toNat : Int) == 91) = false := by simp; omega
        have e93 : ((c.toNat : Int) == 93) = false := by simp; omega
        have HN := Lib.hid (show mayHost s.data.toList = false by unfold mayHost; rw [show s.data.toList.all hostB = false from allB_false HCL.out HH.out]; simp)
        clear hcat HH
        go_wp2
        go_ret
        exact ⟨ret_bool' HN.out.symm, rfl⟩
      · have HH := Lib.hid (show hostB c = true by unfold hostB; rw [decide_eq_true_eq]; omega)
        have f0 : decide (97 ≤ (c.toNat : Int)) = false := by simp; omega
        have f1 : (c.toNat : Int) ≤ 122 := by omega
        have f2 : 65 ≤ (c.toNat : Int) := by omega
        have f3 : (c.toNat : Int) ≤ 90 := by omega
        have f4 : 48 ≤ (c.toNat : Int) := by omega
        have f5 : decide ((c.toNat : Int) ≤ 57) = false := by simp; omega
        have e45 : ((c.toNat : Int) == 45) = false := by simp; omega
        have e46 : ((c.toNat : Int) == 46) = false := by simp; omega
        have e58 : ((c.toNat : Int) == 58) = false := by simp; omega
        have e91 : ((c.toNat : Int) == 91) = false := by simp; omega
        have e93 : ((c.toNat : Int) == 93) = false := by simp; omega
        have HN := Lib.hid (show allB hostB (s.data.toList.take (k + 1)) = true by rw [allB_snoc HCL.out, HK.out, HH.out]; rfl)
        clear hcat HH
        go_wp2
        go_round
        case rel => exact ⟨k + 1, by omega, by go_num, HN⟩
        case measure => simp [intOf] <;> omega
      · have HH := Lib.hid (show hostB c = false by unfold hostB; rw [decide_eq_false_iff_not]; omega)
        have f0 : decide (97 ≤ (c.toNat : Int)) = false := by simp; omega
        have f1 : (c.toNat : Int) ≤ 122 := by omega
        have f2 : 65 ≤ (c.toNat : Int) := by omega
        have f3 : decide ((c.toNat : Int) ≤ 90) = false := by simp; omega
        have f4 : 48 ≤ (c.toNat : Int) := by omega
        have f5 : decide ((c.toNat : Int) ≤ 57) = false := by simp; omega
        have e45 : ((c.toNat : Int) == 45) = false := by simp; omega
        have e46 : ((c.toNat : Int) == 46) = false := by simp; omega
        have e58 : ((c.toNat : Int) == 58) = false := by simp; omega
        have e91 : ((c.toNat : Int) == 91) = false := by simp; omega
        have e93 : ((c.toNat : Int) == 93) = false := by simp; omega
        have HN := Lib.hid (show mayHost s.data.toList = false by unfold mayHost; rw [show s.data.toList.all hostB = false from allB_false HCL.out HH.out]; simp)
        clear hcat HH
        go_wp2
        go_ret
        exact ⟨ret_bool' HN.out.symm, rfl⟩
      · have HH := Lib.hid (show hostB c = true by unfold hostB; rw [decide_eq_true_eq]; omega)
        have f0 : decide (97 ≤ (c.toNat : Int)) = false := by simp; omega
        have f1 : (c.toNat : Int) ≤ 122 := by omega
        have f2 : decide (65 ≤ (c.toNat : Int)) = false := by simp; omega
        have f3 : (c.toNat : Int) ≤ 90 := by omega
        have f4 : 48 ≤ (c.toNat : Int) := by omega
        have f5 : (c.toNat : Int) ≤ 57 := by omega
        have e45 : ((c.toNat : Int) == 45) = false := by simp; omega
        have e46 : ((c.toNat : Int) == 46) = false := by simp; omega
        have e58 : ((c.toNat : Int) == 58) = false := by simp; omega
        have e91 : ((c.toNat : Int) == 91) = false := by simp; omega
        have e93 : ((c.toNat : Int) == 93) = false := by simp; omega
        have HN := Lib.hid (show allB hostB (s.data.toList.take (k + 1)) = true by rw [allB_snoc HCL.out, HK.out, HH.out]; rfl)
        clear hcat HH
        go_wp2
        go_round
        case rel => exact ⟨k + 1, by omega, by go_num, HN⟩
        case measure => simp [intOf] <;> omega
      · have HH := Lib.hid (show hostB c = false by unfold hostB; rw [decide_eq_false_iff_not]; omega)
        have f0 : decide (97 ≤ (c.toNat : Int)) = false := by simp; omega
        have f1 : (c.toNat : Int) ≤ 122 := by omega
        have f2 : decide (65 ≤ (c.toNat : Int)) = false := by simp; omega
        have f3 : (c.toNat : Int) ≤ 90 := by omega
        have f4 : 48 ≤ (c.toNat : Int) := by omega
        have f5 : decide ((c.toNat : Int) ≤ 57) = false := by simp; omega
        have e45 : ((c.toNat : Int) == 45) = false := by simp; omega
        have e46 : ((c.toNat : Int) == 46) = false := by simp; omega
        have e58 : ((c.toNat : Int) == 58) = false := by simp; omega
        have e91 : ((c.toNat : Int) == 91) = false := by simp; omega
        have e93 : ((c.toNat : Int) == 93) = false := by simp; omega
        have HN := Lib.hid (show mayHost s.data.toList = false by unfold mayHost; rw [show s.data.toList.all hostB = false from allB_false HCL.out HH.out]; simp)
        clear hcat HH
        go_wp2
        go_ret
        exact ⟨ret_bool' HN.out.symm, rfl⟩
      · have HH := Lib.hid (show hostB c = false by unfold hostB; rw [decide_eq_false_iff_not]; omega)
        have f0 : decide (97 ≤ (c.toNat : Int)) = false := by simp; omega
        have f1 : (c.toNat : Int) ≤ 122 := by omega
        have f2 : decide (65 ≤ (c.toNat : Int)) = false := by simp; omega
        have f3 : (c.toNat : Int) ≤ 90 := by omega
        have f4 : decide (48 ≤ (c.toNat : Int)) = false := by simp; omega
        have f5 : (c.toNat : Int) ≤ 57 := by omega
        have e45 : ((c.toNat : Int) == 45) = false := by simp; omega
        have e46 : ((c.toNat : Int) == 46) = false := by simp; omega
        have e58 : ((c.toNat : Int) == 58) = false := by simp; omega
        have e91 : ((c.toNat : Int) == 91) = false := by simp; omega
        have e93 : ((c.toNat : Int) == 93) = false := by simp; omega
        have HN := Lib.hid (show mayHost s.data.toList = false by unfold mayHost; rw [show s.data.toList.all hostB = false from allB_false HCL.out HH.out]; simp)
        clear hcat HH
        go_wp2
        go_ret
        exact ⟨ret_bool' HN.out.symm, rfl⟩
    · have hge : decide ((k : Int) < (s.size : Int)) = false := by simp; omega
      have hall : s.data.toList.all hostB = true := by
        have := HK.out
        rw [List.take_of_length_le (by rw [← Lib.size_eq]; omega)] at this
        exact this
      have HM := Lib.hid (show mayHost s.data.toList = (decide (0 < s.size) && decide (s.size ≤ 255)) by unfold mayHost; rw [hall, ← Lib.size_eq, Bool.and_true])
      clear hall
      by_cases h0 : 0 < s.size
      · have h0' : (0 : Int) < (s.size : Int) := by omega
        by_cases h1 : s.size ≤ 255
        · have h1' : (s.size : Int) < 256 := by omega
          rw [decide_eq_true h0, decide_eq_true h1] at HM
          go_wp2
          go_ret
          exact ⟨ret_bool' HM.out.symm, rfl⟩
        · have h1' : decide ((s.size : Int) < 256) = false := by simp; omega
          rw [decide_eq_true h0, decide_eq_false h1] at HM
          go_wp2
          go_ret
          exact ⟨ret_bool' HM.out.symm, rfl⟩
      · have h0' : decide ((0 : Int) < (s.size : Int)) = false := by rw [decide_eq_false_iff_not]; omega
        rw [decide_eq_false h0] at HM
        go_wp2
        go_ret
        exact ⟨ret_bool' HM.out.symm, rfl⟩
set_option maxRecDepth 100000 in
set_option maxHeartbeats 4000000 in
theorem rpath_any (s : ByteArray) (w : World) (hs : s.size ≤ 9223372036854775807) :
    Calls Tryz.prog 25 #[.string s] w fun e w' => e = .returned (.bool (mayPath s.data.toList)) ∧ w = w' := by
  by_cases h0 : s.size = 0
  · have HM := Lib.hid (show mayPath s.data.toList = false by
      have : s.data.toList = [] := List.eq_nil_of_length_eq_zero (by rw [← Lib.size_eq]; exact h0)
      rw [this]; rfl)
    have h0' : ((s.size : Int) == 0) = true := by rw [beq_iff_eq]; omega
    go_enter Tryz.func25, Tryz.ntmps25
    go_wp2
    go_ret
    exact ⟨ret_bool' HM.out.symm, rfl⟩
  · have h0' : ((s.size : Int) == 0) = false := by rw [beq_eq_false_iff_ne]; omega
    rcases Nat.lt_or_ge 1024 s.size with h1 | h1
    rotate_left
    · have h1' : decide (1024 < (s.size : Int)) = false := by simp; omega
      have hp0 : 0 < s.size := by omega
      have hp0' : (0 : Int) < (s.size : Int) := by omega
      obtain ⟨d, hd, hdl⟩ := data_at s 0 hp0
      have hSL : slashB s.data.toList = decide (d.toNat = 47) := by
        cases hl : s.data.toList with
        | nil => rw [hl] at hdl; simp at hdl
        | cons x l => rw [hl] at hdl; simp at hdl; subst hdl; rfl
      have hM : mayPath s.data.toList = (decide (d.toNat = 47) && allB pathB s.data.toList) := by unfold mayPath allB; rw [hSL, ← Lib.size_eq, decide_eq_true h1, Bool.and_true]
      clear hSL hdl
      by_cases h2 : d.toNat = 47
      · have h2' : ((d.toNat : Int) != 47) = false := by rw [bne_eq_false_iff_eq]; omega
        have HM := Lib.hid (show mayPath s.data.toList = allB pathB s.data.toList by rw [hM, decide_eq_true h2, Bool.true_and])
        clear hM h2
        go_enter Tryz.func25, Tryz.ntmps25
        go_wp2
        go_loop [3] (fun i => ∃ k : Nat, k ≤ s.size ∧ i = .int .i64 k ∧ Hid (allB pathB (s.data.toList.take k) = true)) (fun i => s.size - (intOf i).toNat)
        case atStart => exact ⟨0, Nat.zero_le _, rfl, Lib.hid rfl⟩
        case round =>
          obtain ⟨k, hk, rfl, HK⟩ := hrel
          by_cases hlt : k < s.size
          · obtain ⟨c, hc, hcl⟩ := data_at s k hlt
            have HCL := Lib.hid hcl
            clear hcl hd h2'
            have hlt' : (k : Int) < (s.size : Int) := by omega
            have hq : (c.toNat : Int) ≤ 255 := by have := c.toNat_lt; omega
            by_cases g1 : c.toNat ≤ 32
            · have g1' : (c.toNat : Int) ≤ 32 := by omega
              have HN := Lib.hid (show allB pathB s.data.toList = false from allB_false HCL.out (by unfold pathB; rw [decide_eq_false_iff_not]; omega))
              go_wp2
              go_ret
              exact ⟨ret_bool' (by rw [HM.out, HN.out]), rfl⟩
            · have g1' : decide ((c.toNat : Int) ≤ 32) = false := by simp; omega
              by_cases g2 : 126 < c.toNat
              · have g2' : 126 < (c.toNat : Int) := by omega
                have HN := Lib.hid (show allB pathB s.data.toList = false from allB_false HCL.out (by unfold pathB; rw [decide_eq_false_iff_not]; omega))
                go_wp2
                go_ret
                exact ⟨ret_bool' (by rw [HM.out, HN.out]), rfl⟩
              · have g2' : decide (126 < (c.toNat : Int)) = false := by simp; omega
                by_cases g3 : c.toNat = 35
                · have g3' : ((c.toNat : Int) == 35) = true := by rw [beq_iff_eq]; omega
                  have HN := Lib.hid (show allB pathB s.data.toList = false from allB_false HCL.out (by unfold pathB; rw [decide_eq_false_iff_not]; omega))
                  clear g3
                  go_wp2
                  go_ret
                  exact ⟨ret_bool' (by rw [HM.out, HN.out]), rfl⟩
                · have g3' : ((c.toNat : Int) == 35) = false := by rw [beq_eq_false_iff_ne]; omega
                  have HN := Lib.hid (show allB pathB (s.data.toList.take (k + 1)) = true by rw [allB_snoc HCL.out, HK.out, show pathB c = true by unfold pathB; rw [decide_eq_true_eq]; omega]; rfl)
                  clear g3
                  go_wp2
                  go_round
                  case rel => exact ⟨k + 1, by omega, by go_num, HN⟩
                  case measure => simp [intOf] <;> omega
          · have hge : decide ((k : Int) < (s.size : Int)) = false := by simp; omega
            have HN := Lib.hid (show mayPath s.data.toList = true by rw [HM.out, ← HK.out, List.take_of_length_le (by rw [← Lib.size_eq]; omega)])
            go_wp2
            go_ret
            exact ⟨ret_bool' HN.out.symm, rfl⟩
      · have h2' : ((d.toNat : Int) != 47) = true := by rw [bne_iff_ne]; omega
        have HM := Lib.hid (show mayPath s.data.toList = false by rw [hM, decide_eq_false h2, Bool.false_and])
        clear hM h2
        go_enter Tryz.func25, Tryz.ntmps25
        go_wp2
        go_ret
        exact ⟨ret_bool' HM.out.symm, rfl⟩
    · have h1' : 1024 < (s.size : Int) := by omega
      have HM := Lib.hid (show mayPath s.data.toList = false by unfold mayPath; rw [← Lib.size_eq, decide_eq_false (p := s.size ≤ 1024) (by omega)]; simp)
      clear h1
      go_enter Tryz.func25, Tryz.ntmps25
      go_wp2
      go_ret
      exact ⟨ret_bool' HM.out.symm, rfl⟩
end Go.Proofs.YtnbghappfclnjaaGreat
