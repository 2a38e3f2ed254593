/- HeadTexts: the walk. -/
import Derived.Test.YtfpakigdinocnaaDoorHeadKnown
import Derived.Test.YtfpakigdinocnaaDoorHeadRMay
import Derived.Deep.QuietTactic
namespace Go.Proofs.YtfpakigdinocnaaDoor
open Go.RowKit

set_option maxRecDepth 100000 in
set_option maxHeartbeats 1000000 in
theorem texts_law (s : ByteArray) (w : World) (hs : s.size ≤ 9223372036854775807) (hm : MX w) :
    Calls Tryd.prog 6 #[.string s] w fun e w' => e = .returned (.bool true) ∧ Below w.heap.size w w' := by
  have HK := Lib.hid (known_yes w hm)
  by_cases hl : (s.size : Int) > 3000
  · skip
    go_enter Tryd.func6, Tryd.ntmps6
    go_wp2_with fail
    refine (Hid.out HK).mono ?_
    rintro e w3 ⟨rfl, hb3⟩
    go_wp2
    go_ret
    exact ⟨rfl, hb3⟩
  · have hl' : decide ((3000 : Int) < (s.size : Int)) = false := by simp; omega
    have HA := Lib.hid (fun W => mayName_any s W hs)
    have HB := Lib.hid (fun W => rmayName_any s W hs)
    have HC := Lib.hid (fun W => mayText_any s W hs)
    have HD := Lib.hid (fun W => rmayText_any s W hs)
    generalize mayName s.data.toList = a at HA HB
    generalize mayText s.data.toList = b at HC HD
    have ha : (a == a) = true := by simp
    have hb : (b == b) = true := by simp
    clear hl
    go_enter Tryd.func6, Tryd.ntmps6
    go_wp2_with (first | (go_at_call 14; refine (HA.out _).mono ?_; rintro e w1 ⟨rfl, rfl⟩) | (go_at_call 15; refine (HB.out _).mono ?_; rintro e w1 ⟨rfl, rfl⟩) | (go_at_call 16; refine (HC.out _).mono ?_; rintro e w1 ⟨rfl, rfl⟩) | (go_at_call 17; refine (HD.out _).mono ?_; rintro e w1 ⟨rfl, rfl⟩) | (go_at_call 8; refine (Hid.out HK).mono ?_; rintro e w3 ⟨rfl, hb3⟩))
    go_ret
    exact ⟨rfl, hb3⟩
end Go.Proofs.YtfpakigdinocnaaDoor
