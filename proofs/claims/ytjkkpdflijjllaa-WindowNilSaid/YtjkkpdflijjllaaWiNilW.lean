/- What windows that are not there answer; the law's walk. -/
import Derived.Test.YtjkkpdflijjllaaWiNil
import Derived.Test.YtjkkpdflijjllaaWiInst
import Derived.Test.YtjkkpdflijjllaaWnKnown
namespace Go.Proofs.Ytjkkpdflijjllaa
open Go.RowKit

set_option maxRecDepth 100000 in
set_option maxHeartbeats 4000000 in
theorem law_nil (w : World) : Calls Try.prog 7 #[] w fun e w' => e = .returned (.bool true) ∧ Turns [] w w' := by
  go_enter Try.func7, Try.ntmps7
  go_upto_region 3 with fail
  obtain ⟨W0, hW0⟩ : ∃ W0, w.alloc (.cells #[.int .i64 0, .int .i64 0, .int .i64 0, .int .i64 0, .int .i64 0, .int .i64 0, .int .i64 0, .map none] 66) = W0 := ⟨_, rfl⟩
  have HZ : Hid (IsNo W0 (ptrV w.heap.size)) := Lib.hid (isNo_zero (by rw [← hW0]; exact heap_alloc_new w _))
  have HN : Hid (IsNo W0 (.pointer none)) := Lib.hid (isNo_nil W0)
  have HT0 : Hid (Turns [] w W0) := Lib.hid (by rw [← hW0]; exact Turns.alloc _ _)
  obtain ⟨z, hz⟩ : ∃ z, z = w.heap.size := ⟨_, rfl⟩
  rw [hW0]
  rw [← hz] at HZ ⊢
  clear hW0 hz
  go_wp2_with fail
  refine (note_no HN.out 1).mono ?_
  rintro e w1 ⟨rfl, h1⟩
  have HT1 := Lib.hid h1
  clear h1
  go_wp2_with fail
  refine (note_no (HZ.out.pre HT1.out) 1).mono ?_
  rintro e w2 ⟨rfl, h2⟩
  have HT2 := Lib.hid (HT1.out.then h2)
  clear h2 HT1
  go_wp2_with fail
  refine (add_no (HN.out.pre HT2.out) _ _ _ _).mono ?_
  rintro e w3 ⟨rfl, h3⟩
  have HT3 := Lib.hid (HT2.out.then h3)
  clear h3 HT2
  go_wp2_with fail
  refine (add_no (HZ.out.pre HT3.out) _ _ _ _).mono ?_
  rintro e w4 ⟨rfl, h4⟩
  have HT4 := Lib.hid (HT3.out.then h4)
  clear h4 HT3
  go_wp2_with fail
  refine (counts_no (HZ.out.pre HT4.out)).mono ?_
  rintro e w5 ⟨rfl, h5⟩
  have HT5 := Lib.hid (HT4.out.then h5)
  clear h5 HT4
  go_wp2_with fail
  refine (clock_none_no (HN.out.pre HT5.out) 9).mono ?_
  rintro e w6 ⟨rfl, h6⟩
  have HT6 := Lib.hid (HT5.out.then h6)
  clear h6 HT5
  go_wp2_with fail
  refine (floor_no (HN.out.pre HT6.out)).mono ?_
  rintro e w7 ⟨rfl, h7⟩
  have HT7 := Lib.hid (HT6.out.then h7)
  clear h7 HT6
  go_wp2_with fail
  refine (mark_no (HZ.out.pre HT7.out)).mono ?_
  rintro e w8 ⟨rfl, h8⟩
  have HT8 := Lib.hid (HT7.out.then h8)
  clear h8 HT7
  go_wp2_with fail
  refine (open_no (HN.out.pre HT8.out)).mono ?_
  rintro e w9 ⟨rfl, h9⟩
  have HT9 := Lib.hid (HT8.out.then h9)
  clear h9 HT8
  go_wp2_with fail
  refine (copy_no (HN.out.pre HT9.out)).mono ?_
  rintro e w10 ⟨rfl, h10⟩
  have HT10 := Lib.hid (HT9.out.then h10)
  clear h10 HT9
  go_wp2_with fail
  refine (same_no (HN.out.pre HT10.out) (HN.out.pre HT10.out)).mono ?_
  rintro e w11 ⟨rfl, h11⟩
  have HT11 := Lib.hid (HT10.out.then h11)
  clear h11 HT10
  go_wp2_with fail
  refine (same_no (HN.out.pre HT11.out) (HZ.out.pre HT11.out)).mono ?_
  rintro e w12 ⟨rfl, h12⟩
  have HT12 := Lib.hid (HT11.out.then h12)
  clear h12 HT11
  go_wp2_with fail
  refine (same_no (HZ.out.pre HT12.out) (HN.out.pre HT12.out)).mono ?_
  rintro e w13 ⟨rfl, h13⟩
  have HT13 := Lib.hid (HT12.out.then h13)
  clear h13 HT12
  go_wp2_with fail
  refine (knownN_any wiC _).mono ?_
  rintro e w14 ⟨rfl, h14⟩
  have HT14 := Lib.hid (HT0.out.then (HT13.out.then h14))
  clear h14 HT13
  go_wp2_with fail
  go_ret
  exact ⟨rfl, HT14.out⟩
end Go.Proofs.Ytjkkpdflijjllaa
