/- Which targets may be, plainly. -/
import Derived.Test.YtnbghappfclnjaaReqPlain
import Derived.Test.YtnbghappfclnjaaCfPlain
namespace Go.Proofs.Ytnbghappfclnjaa

/-- May a target be, plainly. -/
def Tg.may (t : Tg) : Bool := (decide (1 ≤ t.job.size ∧ t.job.size ≤ 1024) && (mayHost t.host.data.toList && mayPath t.path.data.toList)) && (decide (1 ≤ t.iv ∧ t.iv ≤ 1073741824) && decide (1 ≤ t.tm ∧ t.tm ≤ t.iv))
theorem Tg.may_job {t : Tg} (h : ¬ (1 ≤ t.job.size ∧ t.job.size ≤ 1024)) : t.may = false := by unfold Tg.may; rw [decide_eq_false h]; simp
theorem Tg.may_host {t : Tg} (h : mayHost t.host.data.toList = false) : t.may = false := by unfold Tg.may; rw [h]; simp
theorem Tg.may_path {t : Tg} (h : mayPath t.path.data.toList = false) : t.may = false := by unfold Tg.may; rw [h]; simp
theorem Tg.may_iv {t : Tg} (h : ¬ (1 ≤ t.iv ∧ t.iv ≤ 1073741824)) : t.may = false := by unfold Tg.may; rw [decide_eq_false h]; simp
theorem Tg.may_tm {t : Tg} (h : ¬ (1 ≤ t.tm ∧ t.tm ≤ t.iv)) : t.may = false := by unfold Tg.may; rw [decide_eq_false h]; simp
theorem Tg.may_yes {t : Tg} (h1 : 1 ≤ t.job.size ∧ t.job.size ≤ 1024) (h2 : mayHost t.host.data.toList = true) (h3 : mayPath t.path.data.toList = true) (h4 : 1 ≤ t.iv ∧ t.iv ≤ 1073741824) (h5 : 1 ≤ t.tm ∧ t.tm ≤ t.iv) : t.may = true := by
  unfold Tg.may
  rw [decide_eq_true h1, h2, h3, decide_eq_true h4, decide_eq_true h5]
  rfl
end Go.Proofs.Ytnbghappfclnjaa
