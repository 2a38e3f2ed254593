/- The program's ahead: how many turns stand ahead of a time. -/
import Derived.Test.YtnbghappfclnjaaGreatCfNum
import Derived.Test.YtnbghappfclnjaaGreatCfTurnsP
namespace Go.Proofs.YtnbghappfclnjaaGreat
open Go.RowKit

def aheadT (iv o n : Nat) : Nat := (n + iv - 1 - o) / iv
theorem due_ahead {iv o n : Nat} (ho : o < iv) : dueN iv o n = o + aheadT iv o n * iv := by
  symm
  have h := Nat.div_add_mod (n + iv - 1 - o) iv
  have hm := Nat.mod_lt (n + iv - 1 - o) (show 0 < iv by omega)
  have e : aheadT iv o n * iv = iv * ((n + iv - 1 - o) / iv) := Nat.mul_comm _ _
  refine dueN_only ho ?_ ?_ ?_
  · rw [e]; omega
  · rw [e]; omega
  · rw [e, Nat.add_mul_mod_self_left, Nat.mod_eq_of_lt ho]
theorem turns_ahead {iv o n m : Nat} (ho : o < iv) : (dueN iv o m - dueN iv o n) / iv = aheadT iv o m - aheadT iv o n := by
  rw [due_ahead ho, due_ahead ho, Nat.add_sub_add_left, ← Nat.sub_mul]
  exact Nat.mul_div_cancel _ (by omega)
theorem aheadT_le {iv o n : Nat} (ho : o < iv) (hn : n ≤ 1125899906842624) : aheadT iv o n * iv ≤ 1125900980584448 ∧ aheadT iv o n ≤ 1125900980584448 ∨ 1073741824 < iv := by
  rcases Nat.lt_or_ge 1073741824 iv with h | h
  · exact .inr h
  · refine .inl ⟨?_, ?_⟩
    · have := Nat.div_mul_le_self (n + iv - 1 - o) iv
      unfold aheadT
      omega
    · have := Nat.div_le_self (n + iv - 1 - o) iv
      unfold aheadT
      omega
set_option maxRecDepth 100000 in
set_option maxHeartbeats 1000000 in
theorem ahead_any (o iv : Nat) (n : Int) (w : World) (h2 : iv ≤ 1073741824) (ho : o < iv) :
    Calls Tryz.prog 31 #[.int .i64 o, .int .i64 iv, .int .i64 n] w fun e w' => e = .returned (.int .i64 (aheadT iv o (clipN n) : Nat)) ∧ w = w' := by
  obtain ⟨c, hc⟩ : ∃ c, c = clipN n := ⟨_, rfl⟩
  have HE := Lib.hid (show min (max n 0) 1125899906842624 = (c : Int) by rw [hc]; exact (clipN_eq n).symm)
  have hcl : c ≤ 1125899906842624 := by rw [hc]; exact clipN_le n
  rw [← hc]
  clear hc
  obtain ⟨m, hm⟩ : ∃ m, m = c + iv - 1 - o := ⟨_, rfl⟩
  have HM := Lib.hid (show (c : Int) - (o : Int) + (iv : Int) - 1 = (m : Int) by omega)
  have HR := Lib.hid (show ((m : Int) / (iv : Int)) = ((aheadT iv o c : Nat) : Int) by unfold aheadT; rw [← hm, Int.natCast_ediv])
  have h0 : 0 ≤ (c : Int) - (o : Int) + (iv : Int) - 1 := by omega
  have b1 : -1073741824 ≤ (c : Int) - (o : Int) := by omega
  have b2 : (c : Int) - (o : Int) ≤ 1125899906842624 := by omega
  have b3 : 0 ≤ (c : Int) - (o : Int) + (iv : Int) := by omega
  have b4 : (c : Int) - (o : Int) + (iv : Int) ≤ 1125900980584448 := by omega
  have b5 : (c : Int) - (o : Int) + (iv : Int) - 1 ≤ 1125900980584448 := by omega
  have hiv0 : (iv : Int) ≠ 0 := by omega
  clear hm
  go_enter Tryz.func31, Tryz.ntmps31
  go_upto_region 1 with fail
  go_cut [2] (fun x wx => wx = w ∧ x = .int .i64 (c : Int))
  case first =>
    go_wp2_with fail
    all_goals
      go_meet
      have := HE.out
      exact ⟨rfl, congrArg (Value.int .i64) (by omega)⟩
  case rest =>
  obtain ⟨rfl, rfl⟩ := hcut
  go_wp2_with fail
  go_ret
  exact ⟨by rw [← HR.out, ← HM.out]; rfl, rfl⟩
end Go.Proofs.YtnbghappfclnjaaGreat
