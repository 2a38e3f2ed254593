/- The program's Due and Turns. -/
import Derived.Test.YtnbghappfclnjaaGreatCfOffA
namespace Go.Proofs.YtnbghappfclnjaaGreat
open Go.RowKit

theorem turns_zero {t : Tg} (h : ¬ t.in1) : t.offC = 0 ∧ (∀ n, t.dueC n = 0) ∧ ∀ a b, t.turnsC a b = 0 := by
  unfold Tg.offC Tg.dueC Tg.turnsC
  rw [if_neg h]
  exact ⟨rfl, fun n => by rw [if_neg h], fun a b => by rw [if_neg h]⟩
set_option maxRecDepth 100000 in
set_option maxHeartbeats 1000000 in
theorem due_any : DueP := by
  intro t n w hs
  have HT := Lib.hid (mayTurn_any t)
  have HO := Lib.hid (fun W => off_any t W hs)
  by_cases hin : t.in1
  · rw [turnB_in hin] at HT
    obtain ⟨o, ho⟩ : ∃ o, o = t.off := ⟨_, rfl⟩
    rw [show t.offC = o by unfold Tg.offC; rw [if_pos hin, ho]] at HO
    have hol : o < t.iv.toNat := by rw [ho]; exact Nat.mod_lt _ (by have := hin.1; omega)
    rw [show t.dueC n = o + aheadT t.iv.toNat o (clipN n) * t.iv.toNat by unfold Tg.dueC; rw [if_pos hin, ← ho, due_ahead hol]]
    clear ho hs
    obtain ⟨j, h, p, iv, tm⟩ := t
    obtain ⟨h1, h2⟩ := hin
    unfold Tg.val at *
    simp only at *
    obtain ⟨iv, rfl⟩ : ∃ n : Nat, iv = n := ⟨iv.toNat, by omega⟩
    simp only [Int.toNat_natCast] at hol ⊢
    have HA := Lib.hid (fun W => ahead_any o iv n W (by omega) hol)
    have hx0 := aheadT_le hol (clipN_le n)
    obtain ⟨a, ha⟩ : ∃ a, a = aheadT iv o (clipN n) := ⟨_, rfl⟩
    rw [← ha] at HA hx0 ⊢
    clear ha
    obtain ⟨x, hx⟩ : ∃ x, x = a * iv := ⟨_, rfl⟩
    rw [← hx] at hx0 ⊢
    have hxe : (a : Int) * (iv : Int) = (x : Int) := by rw [hx]; exact (Int.natCast_mul a iv).symm
    clear hx
    have hxl : (x : Int) ≤ 1125900980584448 := by omega
    have hol2 : (o : Int) ≤ 1073741824 := by omega
    have HF := Lib.hid (show (o : Int) + (x : Int) = ((o + x : Nat) : Int) by omega)
    clear hx0
    have HQ0 : Hid (Boxed w ⟨j, h, p, iv, tm⟩ (w.alloc (.cells #[.string j, .string h, .string p, .int .i64 iv, .int .i64 tm] 30))) := Lib.hid ⟨TgAt.new w ⟨j, h, p, iv, tm⟩, Below.box (Below.refl _ _), by simp⟩
    go_enter Tryz.func10, Tryz.ntmps10
    go_wp2_with fail
    refine (HT.out _).mono ?_
    rintro e w1 ⟨rfl, hb⟩
    have HQ1 : Hid (Boxed w ⟨j, h, p, iv, tm⟩ w1) := Lib.hid (HQ0.out.next hb)
    clear hb
    obtain ⟨a0, a1, a2, a3, a4⟩ := HQ1.out.at_
    simp only at a0 a1 a2 a3 a4
    go_wp2_with fail
    refine (HO.out _).mono ?_
    rintro e w2 ⟨rfl, hb⟩
    have HQ2 : Hid (Boxed w ⟨j, h, p, iv, tm⟩ w2) := Lib.hid (HQ1.out.next hb)
    clear hb a0 a1 a2 a3 a4
    obtain ⟨a0, a1, a2, a3, a4⟩ := HQ2.out.at_
    simp only at a0 a1 a2 a3 a4
    go_wp2_with fail
    go_quiet ((go_at_call 31; exact Calls.quiet_of_same ((HA.out _).mono fun _ _ h => ⟨h.1, h.2.symm⟩)))
    go_wp2
    go_ret
    exact ⟨congrArg (fun x => Ending.returned (.int .i64 x)) HF.out, below_drewN HQ2.out.below _⟩
  · rw [turnB_out hin] at HT
    rw [(turns_zero hin).2.1]
    clear HO hin
    obtain ⟨j, h, p, iv, tm⟩ := t
    unfold Tg.val at *
    go_enter Tryz.func10, Tryz.ntmps10
    go_wp2_with fail
    refine (HT.out _).mono ?_
    rintro e w1 ⟨rfl, hb⟩
    have hbel : Below w.heap.size w w1 := Below.box hb
    clear hb
    go_wp2
    go_ret
    exact ⟨rfl, hbel⟩
set_option maxRecDepth 100000 in
set_option maxHeartbeats 1000000 in
theorem turns_any : TurnsP := by
  intro t m n w hs
  have HT := Lib.hid (mayTurn_any t)
  have HO := Lib.hid (fun W => off_any t W hs)
  by_cases hin : t.in1
  · rw [turnB_in hin] at HT
    obtain ⟨o, ho⟩ : ∃ o, o = t.off := ⟨_, rfl⟩
    rw [show t.offC = o by unfold Tg.offC; rw [if_pos hin, ho]] at HO
    have hol : o < t.iv.toNat := by rw [ho]; exact Nat.mod_lt _ (by have := hin.1; omega)
    rw [show t.turnsC m n = aheadT t.iv.toNat o (clipN n) - aheadT t.iv.toNat o (clipN m) by unfold Tg.turnsC; rw [if_pos hin, ← ho, turns_ahead hol]]
    clear ho hs
    obtain ⟨j, h, p, iv, tm⟩ := t
    obtain ⟨h1, h2⟩ := hin
    unfold Tg.val at *
    simp only at *
    obtain ⟨iv, rfl⟩ : ∃ n : Nat, iv = n := ⟨iv.toNat, by omega⟩
    simp only [Int.toNat_natCast] at hol ⊢
    have HA := Lib.hid (fun W => ahead_any o iv n W (by omega) hol)
    have HB := Lib.hid (fun W => ahead_any o iv m W (by omega) hol)
    have hx0 := aheadT_le hol (clipN_le n)
    have hy0 := aheadT_le hol (clipN_le m)
    obtain ⟨a, ha⟩ : ∃ a, a = aheadT iv o (clipN n) := ⟨_, rfl⟩
    rw [← ha] at HA hx0 ⊢
    clear ha
    obtain ⟨b, hb⟩ : ∃ b, b = aheadT iv o (clipN m) := ⟨_, rfl⟩
    rw [← hb] at HB hy0 ⊢
    clear hb
    have hal : (a : Int) ≤ 1125900980584448 := by omega
    have hbl : (b : Int) ≤ 1125900980584448 := by omega
    clear hx0 hy0
    have HQ0 : Hid (Boxed w ⟨j, h, p, iv, tm⟩ (w.alloc (.cells #[.string j, .string h, .string p, .int .i64 iv, .int .i64 tm] 30))) := Lib.hid ⟨TgAt.new w ⟨j, h, p, iv, tm⟩, Below.box (Below.refl _ _), by simp⟩
    go_enter Tryz.func11, Tryz.ntmps11
    go_wp2_with fail
    refine (HT.out _).mono ?_
    rintro e w1 ⟨rfl, hb⟩
    have HQ1 : Hid (Boxed w ⟨j, h, p, iv, tm⟩ w1) := Lib.hid (HQ0.out.next hb)
    clear hb
    obtain ⟨a0, a1, a2, a3, a4⟩ := HQ1.out.at_
    simp only at a0 a1 a2 a3 a4
    go_wp2_with fail
    refine (HO.out _).mono ?_
    rintro e w2 ⟨rfl, hb⟩
    have HQ2 : Hid (Boxed w ⟨j, h, p, iv, tm⟩ w2) := Lib.hid (HQ1.out.next hb)
    clear hb a0 a1 a2 a3 a4
    obtain ⟨a0, a1, a2, a3, a4⟩ := HQ2.out.at_
    simp only at a0 a1 a2 a3 a4
    go_wp2_with fail
    go_quiet ((first | (go_at_call_of 31 (Value.int .i64 n); exact Calls.quiet_of_same ((HA.out _).mono fun _ _ h => ⟨h.1, h.2.symm⟩)) | (go_at_call 31; exact Calls.quiet_of_same ((HB.out _).mono fun _ _ h => ⟨h.1, h.2.symm⟩))))
    go_wp2
    all_goals
      go_ret
      exact ⟨congrArg (fun x => Ending.returned (.int .i64 x)) (by omega), below_drewN HQ2.out.below _⟩
  · rw [turnB_out hin] at HT
    rw [(turns_zero hin).2.2]
    clear HO hin
    obtain ⟨j, h, p, iv, tm⟩ := t
    unfold Tg.val at *
    go_enter Tryz.func11, Tryz.ntmps11
    go_wp2_with fail
    refine (HT.out _).mono ?_
    rintro e w1 ⟨rfl, hb⟩
    have hbel : Below w.heap.size w w1 := Below.box hb
    clear hb
    go_wp2
    go_ret
    exact ⟨rfl, hbel⟩
end Go.Proofs.YtnbghappfclnjaaGreat
