/- The law's known answer. -/
import Derived.Test.YtnbghappfclnjaaCfTurns13
import Derived.Test.YtnbghappfclnjaaCfMayT13
import Derived.Test.YtnbghappfclnjaaCfNames13
namespace Go.Proofs.Ytnbghappfclnjaa
open Go.RowKit

def tg0 : Tg := ⟨⟨#[97]⟩, ⟨#[98]⟩, ⟨#[47, 99]⟩, 1, 1⟩
theorem tg0_may : tg0.may = true := by kernel_rfl
theorem tg0_due : tg0.dueC 7 = 7 := by kernel_rfl
theorem tg0_turns : tg0.turnsC 2 9 = 7 := by kernel_rfl
theorem tg0_name : (⟨(nameS (nameP [117, 112] (tlabs tg0))).toArray⟩ : ByteArray) = ⟨#[117, 112, 123, 105, 110, 115, 116, 97, 110, 99, 101, 61, 34, 98, 34, 44, 106, 111, 98, 61, 34, 97, 34, 125]⟩ := by kernel_rfl
set_option maxRecDepth 100000 in
set_option maxHeartbeats 2000000 in
theorem known13_yes : Known13 := by
  intro w
  have HM := Lib.hid (Boxed.call (w := w) (t := tg0) (fun W => mayT_any tg0 W (by decide)))
  have HD := Lib.hid (Boxed.call (w := w) (t := tg0) (fun W => due_any tg0 7 W (by decide)))
  have HT := Lib.hid (Boxed.call (w := w) (t := tg0) (fun W => turns_any tg0 2 9 W (by decide)))
  have HN := Lib.hid (Boxed.call (w := w) (t := tg0) (fun W => name13_any ⟨#[117, 112]⟩ tg0 W (by decide) (by decide) (by decide)))
  rw [tg0_may] at HM
  rw [tg0_due] at HD
  rw [tg0_turns] at HT
  change Hid (∀ W, _ → Calls _ _ _ W fun e w' => e = .returned (.string ⟨(nameS (nameP [117, 112] (tlabs tg0))).toArray⟩) ∧ _) at HN
  rw [tg0_name] at HN
  have HSK := Lib.hid (fun (w' : World) (hq : Hid (Boxed w tg0 w')) => show w'.cell? ⟨w.heap.size, 0, none⟩ = some (.string ⟨#[97]⟩) ∧ w'.cell? ⟨w.heap.size, 1, none⟩ = some (.string ⟨#[98]⟩) ∧ w'.cell? ⟨w.heap.size, 2, none⟩ = some (.string ⟨#[47, 99]⟩) ∧ w'.cell? ⟨w.heap.size, 3, none⟩ = some (.int .i64 1) ∧ w'.cell? ⟨w.heap.size, 4, none⟩ = some (.int .i64 1) ∧ Hid (Boxed w tg0 w') from ⟨hq.out.at_.1, hq.out.at_.2.1, hq.out.at_.2.2.1, hq.out.at_.2.2.2.1, hq.out.at_.2.2.2.2, hq⟩)
  unfold Tg.val at *
  have hs1 : (1 : Int) ≤ 1 := by omega
  go_enter Try.func6, Try.ntmps6
  go_wp2_with fail
  have HQ0 : Hid (Boxed w tg0 (w.alloc (.cells #[.string ⟨#[97]⟩, .string ⟨#[98]⟩, .string ⟨#[47, 99]⟩, .int .i64 1, .int .i64 1] 23))) := Lib.hid ⟨TgAt.new w tg0, Below.box (Below.refl _ _), by simp⟩
  refine (HM.out _ HQ0).mono ?_
  rintro e w1 ⟨rfl, HQ1⟩
  obtain ⟨a0, a1, a2, a3, a4, -⟩ := HSK.out _ HQ1
  go_wp2_with fail
  refine (HD.out _ HQ1).mono ?_
  rintro e w2 ⟨rfl, HQ2⟩
  clear a0 a1 a2 a3 a4
  obtain ⟨a0, a1, a2, a3, a4, -⟩ := HSK.out _ HQ2
  go_wp2_with fail
  refine (HT.out _ HQ2).mono ?_
  rintro e w3 ⟨rfl, HQ3⟩
  clear a0 a1 a2 a3 a4
  obtain ⟨a0, a1, a2, a3, a4, -⟩ := HSK.out _ HQ3
  go_wp2_with fail
  refine (HN.out _ HQ3).mono ?_
  rintro e w4 ⟨rfl, HQ4⟩
  clear a0 a1 a2 a3 a4
  go_wp2
  go_ret
  exact ⟨by first | rfl | simp, HQ4.out.below⟩
end Go.Proofs.Ytnbghappfclnjaa
