/- The contract of fix.next: the place behind one more rune. -/
import Derived.Test.YtmbdggbppbkojaaDoorFixBase
namespace Go.Proofs.YtmbdggbppbkojaaDoor
open Go.RowKit

def nextF (a : Nat) (r : Int) : Nat :=
  if a = 0 ∧ isSignB r then 1
  else if a = 0 ∨ a = 1 then (if r = 46 then 3 else if isDigitB r then 2 else 8)
  else if a = 2 ∧ r = 46 then 4
  else if a = 2 ∧ isDigitB r then 2
  else if (a = 2 ∨ a = 4) ∧ (r = 101 ∨ r = 69) then 5
  else if a = 2 ∨ a = 4 ∨ a = 3 then (if isDigitB r then 4 else 8)
  else if a = 5 ∧ isSignB r then 6
  else if a = 5 ∨ a = 6 ∨ a = 7 then (if isDigitB r then 7 else 8)
  else 8

set_option maxHeartbeats 1000000 in
theorem next_any (a : Nat) (r : Int) (w : World) (ha : a ≤ 8) :
    Calls Tryd.prog 21 #[.int .i64 a, .int .i32 r] w fun e w' => e = .returned (.int .i64 (nextF a r)) ∧ w = w' := by
  obtain ⟨sg, hs⟩ : ∃ sg, isSignB r = sg := ⟨_, rfl⟩
  obtain ⟨dg, hd⟩ : ∃ dg, isDigitB r = dg := ⟨_, rfl⟩
  have HS := Lib.hid (show ∀ w, Calls Tryd.prog 36 #[.int .i32 r] w fun e w' => e = .returned (.bool sg) ∧ w = w' from fun w => by rw [← hs]; exact isSign_any r w)
  have HD := Lib.hid (show ∀ w, Calls Tryd.prog 38 #[.int .i32 r] w fun e w' => e = .returned (.bool dg) ∧ w = w' from fun w => by rw [← hd]; exact isDigit_any r w)
  have Hs := Lib.hid hs
  have Hd := Lib.hid hd
  clear hs hd
  have h9 : a = 0 ∨ a = 1 ∨ a = 2 ∨ a = 3 ∨ a = 4 ∨ a = 5 ∨ a = 6 ∨ a = 7 ∨ a = 8 := by omega
  rcases h9 with rfl | rfl | rfl | rfl | rfl | rfl | rfl | rfl | rfl
  all_goals
    go_enter Tryd.func21, Tryd.ntmps21
    go_wp2_with (first | (go_at_call 36; refine (Hid.out HS _).mono ?_; rintro e w' ⟨rfl, rfl⟩) | (go_at_call 38; refine (Hid.out HD _).mono ?_; rintro e w' ⟨rfl, rfl⟩))
    all_goals go_ret
    all_goals have H1 := Hid.out Hs
    all_goals have H2 := Hid.out Hd
    all_goals refine ⟨ret_int ?_, rfl⟩
    all_goals simp_all [nextF]
end Go.Proofs.YtmbdggbppbkojaaDoor
