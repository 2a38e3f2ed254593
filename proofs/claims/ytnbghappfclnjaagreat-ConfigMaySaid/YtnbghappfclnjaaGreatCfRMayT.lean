/- The document's MayTarget. -/
import Derived.Test.YtnbghappfclnjaaGreatCfReqRef
import Derived.Test.YtnbghappfclnjaaGreatCfMayPl
import Derived.Test.YtnbghappfclnjaaGreatCfBox
namespace Go.Proofs.YtnbghappfclnjaaGreat
open Go.RowKit

set_option maxRecDepth 100000 in
set_option maxHeartbeats 1000000 in
theorem rmayT_any (t : Tg) (w : World) (hs : t.size ≤ 9223372036854775807) :
    Calls Tryz.prog 7 #[t.val] w fun e w' => e = .returned (.bool t.may) ∧ Below w.heap.size w w' := by
  have HH := Lib.hid (fun W => rhost_any t.host W (by unfold Tg.size at hs; omega))
  have HP := Lib.hid (fun W => rpath_any t.path W (by unfold Tg.size at hs; omega))
  obtain ⟨bh, hbh⟩ : ∃ b, b = mayHost t.host.data.toList := ⟨_, rfl⟩
  obtain ⟨bp, hbp⟩ : ∃ b, b = mayPath t.path.data.toList := ⟨_, rfl⟩
  rw [← hbh] at HH
  rw [← hbp] at HP
  have HBH := Lib.hid hbh
  have HBP := Lib.hid hbp
  clear hbh hbp
  have hA := TgAt.new w t
  have hj : (t.job.size : Int) ≤ 9223372036854775807 := by unfold Tg.size at hs; omega
  have HB := Lib.hid (Below.box (Below.refl (w.alloc (.cells #[.string t.job, .string t.host, .string t.path, .int .i64 t.iv, .int .i64 t.tm] 30)).heap.size _))
  unfold Tg.val
  by_cases q0 : t.job.size = 0
  · have q0' : ((t.job.size : Int) == 0) = true := by rw [beq_iff_eq]; omega
    have q0e : (t.job.size : Int) = 0 := by omega
    have HM := Lib.hid (Tg.may_job (t := t) (by omega))
    clear q0
    go_enter Tryz.func7, Tryz.ntmps7
    go_wp2_with fail
    go_ret
    exact ⟨by rw [HM.out]; rfl, HB.out⟩
  have q0' : ((t.job.size : Int) == 0) = false := by rw [beq_eq_false_iff_ne]; omega
  have q0n : ¬ (t.job.size : Int) = 0 := by omega
  by_cases q1 : 1024 < t.job.size
  · have q1' : (1024 : Int) < (t.job.size : Int) := by omega
    have HM := Lib.hid (Tg.may_job (t := t) (by omega))
    go_enter Tryz.func7, Tryz.ntmps7
    go_wp2_with fail
    go_ret
    exact ⟨by rw [HM.out]; rfl, HB.out⟩
  have q1' : decide ((1024 : Int) < (t.job.size : Int)) = false := by rw [decide_eq_false_iff_not]; omega
  have q1n : ¬ (1024 : Int) < (t.job.size : Int) := by omega
  cases bh with
  | false =>
    have HM := Lib.hid (Tg.may_host HBH.out.symm)
    go_enter Tryz.func7, Tryz.ntmps7
    go_wp2_with fail
    refine (HH.out _).mono ?_
    rintro e w1 ⟨rfl, rfl⟩
    go_wp2_with fail
    go_ret
    exact ⟨by rw [HM.out]; rfl, HB.out⟩
  | true =>
    cases bp with
    | false =>
      have HM := Lib.hid (Tg.may_path HBP.out.symm)
      go_enter Tryz.func7, Tryz.ntmps7
      go_wp2_with fail
      refine (HH.out _).mono ?_
      rintro e w1 ⟨rfl, rfl⟩
      go_wp2_with fail
      refine (HP.out _).mono ?_
      rintro e w1 ⟨rfl, rfl⟩
      go_wp2_with fail
      go_ret
      exact ⟨by rw [HM.out]; rfl, HB.out⟩
    | true =>
      obtain ⟨b, hb⟩ : ∃ b, b = t.may := ⟨_, rfl⟩
      have HM := Lib.hid (show b = (decide (1 ≤ t.iv) && (decide (t.iv ≤ 1073741824) && (decide (1 ≤ t.tm) && decide (t.tm ≤ t.iv)))) by
        rw [hb]
        by_cases g1 : 1 ≤ t.iv ∧ t.iv ≤ 1073741824
        · by_cases g2 : 1 ≤ t.tm ∧ t.tm ≤ t.iv
          · rw [Tg.may_yes (by omega) HBH.out.symm HBP.out.symm g1 g2, decide_eq_true g1.1, decide_eq_true g1.2, decide_eq_true g2.1, decide_eq_true g2.2]
            rfl
          · rw [Tg.may_tm g2]
            simp
            omega
        · rw [Tg.may_iv g1]
          simp
          omega)
      rw [← hb]
      clear hb
      go_enter Tryz.func7, Tryz.ntmps7
      go_wp2_with fail
      refine (HH.out _).mono ?_
      rintro e w1 ⟨rfl, rfl⟩
      go_wp2_with fail
      refine (HP.out _).mono ?_
      rintro e w1 ⟨rfl, rfl⟩
      by_cases g1 : 1 ≤ t.iv
      · by_cases g2 : t.iv ≤ 1073741824
        · by_cases g3 : 1 ≤ t.tm
          · by_cases g4 : t.tm ≤ t.iv
            · rw [decide_eq_true g1, decide_eq_true g2, decide_eq_true g3, decide_eq_true g4] at HM
              go_wp2_with fail
              go_ret
              exact ⟨by rw [HM.out]; rfl, HB.out⟩
            · rw [decide_eq_true g1, decide_eq_true g2, decide_eq_true g3, decide_eq_false g4] at HM
              have g4' : decide (t.tm ≤ t.iv) = false := decide_eq_false g4
              go_wp2_with fail
              go_ret
              exact ⟨by rw [HM.out]; rfl, HB.out⟩
          · rw [decide_eq_true g1, decide_eq_true g2, decide_eq_false g3] at HM
            have g3' : decide (1 ≤ t.tm) = false := decide_eq_false g3
            go_wp2_with fail
            go_ret
            exact ⟨by rw [HM.out]; rfl, HB.out⟩
        · rw [decide_eq_true g1, decide_eq_false g2] at HM
          have g2' : decide (t.iv ≤ 1073741824) = false := decide_eq_false g2
          go_wp2_with fail
          go_ret
          exact ⟨by rw [HM.out]; rfl, HB.out⟩
      · rw [decide_eq_false g1] at HM
        have g1' : decide (1 ≤ t.iv) = false := decide_eq_false g1
        go_wp2_with fail
        go_ret
        exact ⟨by rw [HM.out]; rfl, HB.out⟩
end Go.Proofs.YtnbghappfclnjaaGreat
