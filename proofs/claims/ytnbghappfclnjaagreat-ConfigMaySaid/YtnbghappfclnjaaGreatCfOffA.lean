/- The program's Offset, Due and Turns. -/
import Derived.Test.YtnbghappfclnjaaGreatCfDue
import Derived.Deep.RegionHeld3
import Derived.BigQuiet
namespace Go.Proofs.YtnbghappfclnjaaGreat
open Go.RowKit

theorem turnB_in {t : Tg} (h : t.in1) : t.turnB = true := by unfold Tg.turnB; rw [decide_eq_true h.1, decide_eq_true h.2]; rfl
theorem turnB_out {t : Tg} (h : ¬ t.in1) : t.turnB = false := by
  unfold Tg.turnB
  cases h1 : decide (1 ≤ t.iv) with
  | false => rfl
  | true =>
    cases h2 : decide (t.iv ≤ 1073741824) with
    | false => rfl
    | true => exact absurd ⟨of_decide_eq_true h1, of_decide_eq_true h2⟩ h
set_option maxRecDepth 100000 in
set_option maxHeartbeats 1000000 in
theorem off_any : OffP := by
  intro t w hs
  unfold Tg.size at hs
  have HT := Lib.hid (mayTurn_any t)
  have HN := Lib.hid (fun W => number_any (t.job ++ ⟨#[0]⟩ ++ t.host ++ ⟨#[0]⟩ ++ t.path) W (by have e : (⟨#[0]⟩ : ByteArray).size = 1 := rfl; simp only [ByteArray.size_append, e]; omega))
  by_cases hin : t.in1
  · rw [turnB_in hin] at HT
    have HO := Lib.hid (show t.offC = fnvL fnv0 (t.job ++ (⟨#[0]⟩ : ByteArray) ++ t.host ++ ⟨#[0]⟩ ++ t.path).data.toList % t.iv.toNat by
      unfold Tg.offC Tg.off Tg.num
      rw [if_pos hin, tag_join t])
    obtain ⟨n, hn⟩ : ∃ n, n = fnvL fnv0 (t.job ++ (⟨#[0]⟩ : ByteArray) ++ t.host ++ ⟨#[0]⟩ ++ t.path).data.toList := ⟨_, rfl⟩
    have hl : n < 18446744073709551616 := by rw [hn]; exact fnvL_lt (by unfold fnv0; omega) _
    rw [← hn] at HO HN
    clear hn
    obtain ⟨o, ho⟩ : ∃ o, o = t.offC := ⟨_, rfl⟩
    rw [← ho] at HO ⊢
    clear ho
    obtain ⟨j, h, p, iv, tm⟩ := t
    obtain ⟨h1, h2⟩ := hin
    unfold Tg.val at *
    simp only at *
    obtain ⟨iv, rfl⟩ : ∃ n : Nat, iv = n := ⟨iv.toNat, by omega⟩
    simp only [Int.toNat_natCast] at HO
    have hw : IntKind.u64.wrap (iv : Int) = (iv : Int) := by rw [IntKind.wrap_u64]; omega
    have hlt2 := Nat.mod_lt n (show 0 < iv by omega)
    have HR := Lib.hid (show (n : Int) % (iv : Int) = ((n % iv : Nat) : Int) by omega)
    have hr0 : 0 ≤ (n : Int) % (iv : Int) := by rw [HR.out]; omega
    have hr1 : (n : Int) % (iv : Int) ≤ 9223372036854775807 := by rw [HR.out]; omega
    have hr2 : IntKind.i64.wrap ((n : Int) % (iv : Int)) = (n : Int) % (iv : Int) := by
      rw [IntKind.wrap_i64, HR.out]
      omega
    have hiv0 : (iv : Int) ≠ 0 := by omega
    have HQ0 : Hid (Boxed w ⟨j, h, p, iv, tm⟩ (w.alloc (.cells #[.string j, .string h, .string p, .int .i64 iv, .int .i64 tm] 30))) := Lib.hid ⟨TgAt.new w ⟨j, h, p, iv, tm⟩, Below.box (Below.refl _ _), by simp⟩
    clear hlt2 hl
    go_enter Tryz.func30, Tryz.ntmps30
    go_wp2_with fail
    refine (HT.out _).mono ?_
    rintro e w1 ⟨rfl, hb⟩
    have HQ1 : Hid (Boxed w ⟨j, h, p, iv, tm⟩ w1) := Lib.hid (HQ0.out.next hb)
    clear hb
    obtain ⟨a0, a1, a2, a3, a4⟩ := HQ1.out.at_
    simp only at a0 a1 a2 a3 a4
    go_wp2_with fail
    go_quiet ((go_at_call 56; exact Calls.quiet_of_same ((HN.out _).mono fun _ _ h => ⟨h.1, h.2.symm⟩)))
    go_wp2
    go_ret
    exact ⟨by rw [HO.out]; exact congrArg (fun x => Ending.returned (.int .i64 x)) HR.out, below_drewN HQ1.out.below _⟩
  · rw [turnB_out hin] at HT
    rw [show t.offC = 0 by unfold Tg.offC; rw [if_neg hin]]
    clear HN hin
    obtain ⟨j, h, p, iv, tm⟩ := t
    unfold Tg.val at *
    go_enter Tryz.func30, Tryz.ntmps30
    go_wp2_with fail
    refine (HT.out _).mono ?_
    rintro e w1 ⟨rfl, hb⟩
    have hbel : Below w.heap.size w w1 := Below.box hb
    clear hb
    go_wp2
    go_ret
    exact ⟨rfl, hbel⟩
end Go.Proofs.YtnbghappfclnjaaGreat
