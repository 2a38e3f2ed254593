/- What a meter that is not there answers; the law's walk. -/
import Derived.Test.YtcjmieofmogeiaaDmZero
import Derived.Test.YtcjmieofmogeiaaDmInst
import Derived.Test.YtcjmieofmogeiaaDlKnown
namespace Go.Proofs.Ytcjmieofmogeiaa
open Go.RowKit

theorem putM_nil (owner : Int) (l : Value) (w : World) : Calls Try.prog 16 #[.pointer none, .int .i64 owner, l] w fun e w' => e = .returned (.tuple #[.slice none 0 0, .slice none 0 0]) ∧ Turns [] w w' := by
  have HT := Lib.hid (Turns.refl [] w)
  go_enter Try.func16, Try.ntmps16
  go_wp2
  go_ret2
  exact ⟨rfl, HT.out⟩
theorem tallyM_nil (w : World) : Calls Try.prog 13 #[.pointer none] w fun e w' => e = .returned (.agg #[.int .i64 0, .int .i64 0, .int .i64 0, .int .i64 0, .int .i64 0, .int .i64 0, .int .i64 0]) ∧ Turns [] w w' := by
  go_enter Try.func13, Try.ntmps13
  go_wp2
  exact bodyPost_ret (results_cell_row (P := Try.prog) rfl _ _ w.heap.size 34 #[.int .i64 0, .int .i64 0, .int .i64 0, .int .i64 0, .int .i64 0, .int .i64 0, .int .i64 0] (0, 0) _ rfl (heap_alloc_new w _) tl_str rfl (by kernel_rfl)) rfl ⟨rfl, Turns.alloc _ _⟩
theorem storeM_nil (w : World) : Calls Try.prog 14 #[.pointer none] w fun e w' => e = .returned (.pointer none) ∧ Turns [] w w' := by
  have HT := Lib.hid (Turns.refl [] w)
  go_enter Try.func14, Try.ntmps14
  go_wp2
  go_ret
  exact ⟨rfl, HT.out⟩
theorem copyM_nil (w : World) : Calls Try.prog 19 #[.pointer none] w fun e w' => e = .returned (.pointer none) ∧ Turns [] w w' := by
  have HT := Lib.hid (Turns.refl [] w)
  go_enter Try.func19, Try.ntmps19
  go_wp2
  go_ret
  exact ⟨rfl, HT.out⟩
theorem sameM_nn (w : World) : Calls Try.prog 21 #[.pointer none, .pointer none] w fun e w' => e = .returned (.bool true) ∧ Turns [] w w' := by
  have HT := Lib.hid (Turns.refl [] w)
  go_enter Try.func21, Try.ntmps21
  go_wp2
  go_ret
  exact ⟨rfl, HT.out⟩
theorem sameM_nz (w : World) (z : Nat) : Calls Try.prog 21 #[.pointer none, ptr z] w fun e w' => e = .returned (.bool false) ∧ Turns [] w w' := by
  have HT := Lib.hid (Turns.refl [] w)
  have e1 : ∀ W, (binOp .eql 25 (ptr z) (.pointer none)).run Try.prog W = .ok (.bool false) W := fun W => by kernel_rfl
  have e2 : ∀ W, (binOp .eql 25 (.pointer none) (ptr z)).run Try.prog W = .ok (.bool false) W := fun W => by kernel_rfl
  go_enter Try.func21, Try.ntmps21
  go_wp2
  go_ret
  exact ⟨rfl, HT.out⟩
theorem sameM_zn (w : World) (z : Nat) : Calls Try.prog 21 #[ptr z, .pointer none] w fun e w' => e = .returned (.bool false) ∧ Turns [] w w' := by
  have HT := Lib.hid (Turns.refl [] w)
  have e1 : ∀ W, (binOp .eql 25 (ptr z) (.pointer none)).run Try.prog W = .ok (.bool false) W := fun W => by kernel_rfl
  have e2 : ∀ W, (binOp .eql 25 (.pointer none) (ptr z)).run Try.prog W = .ok (.bool false) W := fun W => by kernel_rfl
  go_enter Try.func21, Try.ntmps21
  go_wp2
  go_ret
  exact ⟨rfl, HT.out⟩
set_option maxHeartbeats 1000000 in
theorem tallyMZ {w : World} {z : Nat} {T : Tl} (h : HeadZ w z T) : Calls Try.prog 13 #[ptr z] w fun e w' => e = .returned T.val' ∧ Turns [] w w' := by
  have hplt := lt_of_block h
  obtain ⟨c2, c3, c4, c5, c6, c7, c8, -⟩ := h.cells
  clear h
  go_enter Try.func13, Try.ntmps13
  have hne : ¬ w.heap.size = z := by omega
  go_wp2
  exact bodyPost_ret (results_cell_row (P := Try.prog) rfl _ _ w.heap.size 34 #[.int .i64 (T.p : Int), .int .i64 (T.a : Int), .int .i64 (T.o : Int), .int .i64 (T.t : Int), .int .i64 (T.f : Int), .int .i64 (T.g : Int), .int .i64 (T.r : Int)] (0, 0) _ rfl (heap_alloc_new w _) tl_str rfl (by kernel_rfl)) rfl ⟨rfl, Turns.alloc _ _⟩
def xA : Smp := ⟨⟨#[97]⟩, 0, 0, false⟩
set_option maxRecDepth 100000 in
set_option maxHeartbeats 4000000 in
theorem law_nil (w : World) : Calls Try.prog 7 #[] w fun e w' => e = .returned (.bool true) ∧ Turns [] w w' := by
  go_enter Try.func7, Try.ntmps7
  go_upto_region 3 with fail
  obtain ⟨W0, hW0⟩ : ∃ W0, w.alloc (.cells #[.int .i64 0, .map none, .int .i64 0, .int .i64 0, .int .i64 0, .int .i64 0, .int .i64 0, .int .i64 0, .int .i64 0] 68) = W0 := ⟨_, rfl⟩
  have HZ0 : Hid (HeadZ W0 w.heap.size .zero) := Lib.hid (by rw [← hW0]; exact heap_alloc_new w _)
  have HT0 : Hid (Turns [] w W0) := Lib.hid (by rw [← hW0]; exact Turns.alloc _ _)
  obtain ⟨z, hz⟩ : ∃ z, z = w.heap.size := ⟨_, rfl⟩
  have HZE := Lib.hid hz
  rw [hW0]
  rw [← hz] at HZ0 ⊢
  clear hW0 hz
  go_wp2_with fail
  refine (putM_nil 1 _ _).mono ?_
  rintro e w1 ⟨rfl, ht1⟩
  have HT1 : Hid (Turns [] W0 w1) := Lib.hid ((Turns.alloc _ _).then ht1)
  clear ht1
  go_wp2_with fail
  have HP := Lib.hid (putMZ_any (w := w1.alloc (.cells #[.string ⟨#[97]⟩, .int .i64 0, .int .i64 0, .bool false] 52)) (HZ0.out.pre (HT1.out.then (Turns.alloc _ _))) 1 xA (by unfold NmOk xA; decide) (heap_alloc_new w1 _))
  have HT2 : Hid (Turns [] W0 (w1.alloc (.cells #[.string ⟨#[97]⟩, .int .i64 0, .int .i64 0, .bool false] 52))) := Lib.hid (HT1.out.then (Turns.alloc _ _))
  generalize w1.alloc (.cells #[.string ⟨#[97]⟩, .int .i64 0, .int .i64 0, .bool false] 52) = w2 at HP HT2 ⊢
  refine HP.out.mono ?_
  rintro e w3 ⟨o, bm, rfl, hJ⟩
  have HJ := Lib.hid hJ
  rcases hJ.seen.form with ⟨_, h0⟩ | ⟨og, ocap, rfl, hoB, hog, _, _⟩
  · cases h0
  have ho4 : w3.cell? ⟨og, 4, none⟩ = some (.int .i64 4) := by
    have := World.ownsRow.cells hJ.seen (g := og) rfl 4 (.int .i64 4) (EK.flat_at nOk (j := 0) rfl 4 _ rfl)
    rwa [add_plain', Nat.zero_add] at this
  have HO4 : Hid (∀ W, Turns [] w3 W → W.cell? ⟨og, 4, none⟩ = some (.int .i64 4)) := Lib.hid fun W hW => (hW.cell hog (by simp) 4).trans ho4
  have HT3 : Hid (Turns [] w w3) := Lib.hid ((HT0.out.then HT2.out).trans hJ.tt fun i hi => .inr (by rw [List.mem_singleton] at hi; rw [hi, HZE.out]; exact Nat.le_refl _))
  have hnq : ∀ W, (binOp .eql 34 (.agg #[.int .i64 0, .int .i64 0, .int .i64 0, .int .i64 0, .int .i64 0, .int .i64 0, .int .i64 0]) (.agg #[.int .i64 0, .int .i64 0, .int .i64 0, .int .i64 0, .int .i64 0, .int .i64 0, .int .i64 0])).run Try.prog W = .ok (.bool true) W := fun W => by
    have h := tl_eql .zero .zero W
    rw [tlE_iff.2 rfl] at h
    exact h
  have hgd := tl_guard
  clear HP HT1 HT2 hJ ho4 hoB hog
  simp only [List.length_cons, List.length_nil, Nat.zero_add]
  go_wp2_with fail
  refine (tallyM_nil _).mono ?_
  rintro e w4 ⟨rfl, h4⟩
  have HT4 := Lib.hid h4
  clear h4
  go_wp2_with fail
  refine (storeM_nil _).mono ?_
  rintro e w5 ⟨rfl, h5⟩
  have HT5 := Lib.hid (HT4.out.then h5)
  clear h5 HT4
  go_wp2_with fail
  refine (copyM_nil _).mono ?_
  rintro e w6 ⟨rfl, h6⟩
  have HT6 := Lib.hid (HT5.out.then h6)
  clear h6 HT5
  go_wp2_with fail
  refine (sameM_nn _).mono ?_
  rintro e w7 ⟨rfl, h7⟩
  have HT7 := Lib.hid (HT6.out.then h7)
  clear h7 HT6
  go_wp2_with fail
  refine (sameM_nz _ z).mono ?_
  rintro e w8 ⟨rfl, h8⟩
  have HT8 := Lib.hid (HT7.out.then h8)
  clear h8 HT7
  go_wp2_with fail
  refine (sameM_zn _ z).mono ?_
  rintro e w9 ⟨rfl, h9⟩
  have HT9 := Lib.hid (HT8.out.then h9)
  have k4 := HO4.out w9 HT9.out
  clear h9 HT8
  go_wp2_with fail
  refine (tallyMZ (HJ.out.head.pre HT9.out)).mono ?_
  rintro e w10 ⟨rfl, h10⟩
  have HT10 := Lib.hid (HT9.out.then h10)
  clear h10 HT9 k4
  unfold tZ Tl.val'
  simp only [Nat.one_ne_zero, if_false]
  have hfd : ∀ W, (Instr.field 34 (.agg #[.int .i64 1, .int .i64 0, .int .i64 0, .int .i64 0, .int .i64 1, .int .i64 0, .int .i64 0]) 4).run Try.prog W = .ok (.int .i64 1) W := fun W => by kernel_rfl
  go_wp2_with fail
  refine (knownM_any dmC _).mono ?_
  rintro e w11 ⟨rfl, h11⟩
  have HT11 := Lib.hid (HT3.out.then (HT10.out.then h11))
  clear h11 HT10
  go_wp2_with fail
  go_ret
  exact ⟨rfl, HT11.out⟩
end Go.Proofs.Ytcjmieofmogeiaa
