/- Paths: the program's. -/
import Derived.Test.YtnbghappfclnjaaCfReqEach
import Derived.Test.YtnbghappfclnjaaShelf
namespace Go.Proofs.Ytnbghappfclnjaa
open Go.RowKit

/-- The program's IsPath, by strings.HasPrefix. -/
theorem mayPath_of (s : ByteArray) (b : Bool) (w : World) (hb : Hid (Lib.hasPrefix s.data.toList [47] = b)) (hs : s.size ≤ 9223372036854775807) :
    Hid (mayPath s.data.toList = (b && decide (s.size ≤ 1024) && allB pathB s.data.toList)) := by
  refine Lib.hid ?_
  unfold mayPath allB
  rw [← Lib.size_eq, ← hb.out]
  congr 2
  unfold slashB Lib.hasPrefix
  cases s.data.toList with
  | nil => rfl
  | cons c l =>
    show decide (c.toNat = 47) = ((47 : UInt8) == c && List.isPrefixOf [] l)
    rw [List.isPrefixOf_nil_left, Bool.and_true]
    have e : (c.toNat = 47) ↔ (47 : UInt8) = c := ⟨fun h => UInt8.toNat_inj.1 (by rw [h]; rfl), fun h => by rw [← h]; rfl⟩
    by_cases h : (47 : UInt8) = c
    · rw [decide_eq_true (e.2 h), ← h]; rfl
    · rw [decide_eq_false (fun x => h (e.1 x))]
      symm
      rw [beq_eq_false_iff_ne]
      exact h
set_option maxRecDepth 100000 in
set_option maxHeartbeats 2000000 in
theorem mayPath_any (s : ByteArray) (w : World) (hs : s.size ≤ 9223372036854775807) :
    Calls Try.prog 37 #[.string s] w fun e w' => e = .returned (.bool (mayPath s.data.toList)) ∧ w = w' := by
  have HE := Lib.hid (each_path s w hs)
  have HP := Lib.hid (Try.strings_HasPrefix s ⟨#[47]⟩ w)
  have HR := mayPath_of s _ w (Lib.hid rfl) hs
  change Hid (Calls _ _ _ _ fun e w' => e = .returned (.bool (Lib.hasPrefix s.data.toList [47])) ∧ w' = w) at HP
  generalize Lib.hasPrefix s.data.toList [47] = b at HP HR
  cases b with
  | false =>
    rw [Bool.false_and, Bool.false_and] at HR
    go_enter Try.func37, Try.ntmps37
    go_wp2_with (refine (Hid.out HP).mono ?_; rintro e w1 ⟨rfl, rfl⟩)
    go_ret
    exact ⟨ret_bool' HR.out.symm, rfl⟩
  | true =>
    by_cases h2 : (s.size : Int) ≤ 1024
    · rw [decide_eq_true (p := s.size ≤ 1024) (by omega), Bool.true_and, Bool.true_and] at HR
      generalize allB pathB s.data.toList = c at HE HR
      cases c
      all_goals
        go_enter Try.func37, Try.ntmps37
        go_wp2_with fail
        refine (Hid.out HP).mono ?_
        rintro e w1 ⟨rfl, rfl⟩
        go_wp2_with (refine (Hid.out HE).mono ?_; rintro e w1 ⟨rfl, rfl⟩)
        go_ret
        exact ⟨ret_bool' HR.out.symm, rfl⟩
    · have h2' : decide ((s.size : Int) ≤ 1024) = false := by simpa using h2
      rw [decide_eq_false (p := s.size ≤ 1024) (by omega), Bool.and_false, Bool.false_and] at HR
      clear h2
      go_enter Try.func37, Try.ntmps37
      go_wp2_with (refine (Hid.out HP).mono ?_; rintro e w1 ⟨rfl, rfl⟩)
      go_ret
      exact ⟨ret_bool' HR.out.symm, rfl⟩
end Go.Proofs.Ytnbghappfclnjaa
