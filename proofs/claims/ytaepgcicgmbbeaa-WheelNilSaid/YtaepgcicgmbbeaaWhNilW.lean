/- WheelNil, walked. -/
import Derived.Test.YtaepgcicgmbbeaaWhKnown
namespace Go.Proofs.Ytaepgcicgmbbeaa
open Go.RowKit

theorem lone_zero {w W : World} (h : Turns [] w W) (T : Int) : Lone w (W.alloc (.cells #[.int .i64 T, .map none, .map none] 50)) W.heap.size T [] := by
  refine ⟨[W.heap.size], ⟨fun i hi => ?_, by simp, .inl ⟨heap_alloc_new W _, rfl⟩⟩, h.then (Turns.alloc (F := []) W _)⟩
  rw [List.mem_singleton] at hi
  subst hi
  exact ⟨h.size, by simp⟩
def zL1 : List Fi := [(1, 1125899906842624)]
theorem z1 : setL 0 [] 1 1125899906842624 = (0, zL1) := by decide
theorem z2 : setL 0 zL1 1 1125899906842625 = (2, zL1) := by decide
theorem z3 : setL 0 zL1 1 (-1) = (2, zL1) := by decide
theorem zw1 : WOk 0 zL1 := by have := w0.set (id := 1) (at' := 1125899906842624) (by omega); rwa [show kL0 = [] from rfl, z1] at this
theorem zs_nz {w : World} {b1 b2 : Nat} (h1 : w.heap[b1]? = some (.cells #[.int .i64 0, .map none, .map none] 50 (0, 0))) (h2 : w.heap[b2]? = some (.cells #[.int .i64 0, .map none, .map none] 50 (0, 0))) :
    Calls Try.prog 13 #[.pointer (some ⟨b1, 0, none⟩), .pointer (some ⟨b2, 0, none⟩)] w fun e w' => e = .returned (.bool true) ∧ Turns [] w w' := by
  have l1 : b1 < w.heap.size := lt_of_block h1
  have l2 : b2 < w.heap.size := lt_of_block h2
  exact same_nil0 (B1 := 0) (B2 := 0) (F1 := [b1]) (F2 := [b2]) ⟨fun i hi => by simp at hi; subst hi; exact ⟨Nat.zero_le _, l1⟩, by simp, .inl ⟨h1, rfl⟩⟩ ⟨fun i hi => by simp at hi; subst hi; exact ⟨Nat.zero_le _, l2⟩, by simp, .inl ⟨h2, rfl⟩⟩ h1 rfl
theorem new_nil (T : Int) (w : World) : Calls Try.prog 8 #[.int .i64 T] w fun e w' => e = .returned (.pointer (some ⟨w.heap.size, 0, none⟩)) ∧ w' = w.alloc (.cells #[.int .i64 T, .map none, .map none] 50) := by
  go_enter Try.func8, Try.ntmps8
  go_wp2
  go_ret
  exact ⟨rfl, rfl⟩
set_option maxRecDepth 100000 in
set_option maxHeartbeats 8000000 in
theorem nil_main (w : World) : Calls Try.prog 6 #[] w fun e w' => e = .returned (.bool true) ∧ Turns [] w w' := by
  obtain ⟨W0, hW0⟩ : ∃ W0, W0 = w.alloc (.cells #[.int .i64 0, .map none, .map none] 50) := ⟨_, rfl⟩
  have hz : W0.heap[w.heap.size]? = some (.cells #[.int .i64 0, .map none, .map none] 50 (0, 0)) := by rw [hW0]; exact heap_alloc_new w _
  have hL : Lone w W0 w.heap.size 0 [] := by rw [hW0]; exact lone_zero (Turns.refl _ _) 0
  have HZ := Lib.hid hz
  have HLO := Lib.hid hL
  have G1 := Lib.hid (get_nil 1 W0)
  have G2 := Lib.hid (next_0 (.pointer none) W0 W0 (len_nil W0))
  have G3 := Lib.hid (next_0 (.pointer (some ⟨w.heap.size, 0, none⟩)) W0 W0 (lone_len hL))
  have G4 := Lib.hid (set_nil 1 1 W0)
  have G5 := Lib.hid (cancel_nil 1 W0)
  have G6 := Lib.hid (adv_nil 9 W0)
  have G7 := Lib.hid (now_nil W0)
  have G8 := Lib.hid (len_nil W0)
  have G9 := Lib.hid (copy_nil W0)
  have G10 := Lib.hid (same_nn W0)
  have G11 := Lib.hid (same_n1 w.heap.size W0)
  have G12 := Lib.hid (same_1n w.heap.size W0)
  have HNW := Lib.hid (new_nil 0 W0)
  clear hz hL
  go_enter Try.func6, Try.ntmps6
  go_wp2_with fail
  rw [← hW0]
  clear hW0
  refine (Hid.out G1).mono ?_
  rintro e w' ⟨rfl, rfl⟩
  go_wp2_with fail
  refine (Hid.out G2).mono ?_
  rintro e w' ⟨rfl, rfl⟩
  go_wp2_with fail
  refine (Hid.out G3).mono ?_
  rintro e w' ⟨rfl, rfl⟩
  go_wp2_with fail
  refine (Hid.out G4).mono ?_
  rintro e w' ⟨rfl, rfl⟩
  go_wp2_with fail
  refine (Hid.out G5).mono ?_
  rintro e w' ⟨rfl, rfl⟩
  go_wp2_with fail
  refine (Hid.out G6).mono ?_
  rintro e w' ⟨rfl, rfl⟩
  go_wp2_with fail
  refine (Hid.out G7).mono ?_
  rintro e w' ⟨rfl, rfl⟩
  go_wp2_with fail
  refine (Hid.out G8).mono ?_
  rintro e w' ⟨rfl, rfl⟩
  go_wp2_with fail
  refine (Hid.out G9).mono ?_
  rintro e w' ⟨rfl, rfl⟩
  go_wp2_with fail
  refine (Hid.out G10).mono ?_
  rintro e w' ⟨rfl, rfl⟩
  go_wp2_with fail
  refine (Hid.out G11).mono ?_
  rintro e w' ⟨rfl, rfl⟩
  go_wp2_with fail
  refine (Hid.out G12).mono ?_
  rintro e w' ⟨rfl, rfl⟩
  go_wp2_with fail
  refine (Hid.out HNW).mono ?_
  rintro e W1 ⟨rfl, hW1⟩
  have t1 : Turns [] W0 W1 := by rw [hW1]; exact Turns.alloc _ _
  have n1 : W1.heap[W0.heap.size]? = some (.cells #[.int .i64 0, .map none, .map none] 50 (0, 0)) := by rw [hW1]; exact heap_alloc_new W0 _
  have HS := Lib.hid (zs_nz ((t1.block _ (lt_of_block HZ.out) (by simp)).trans HZ.out) n1)
  have HT1 := Lib.hid t1
  clear hW1 t1 n1 G1 G2 G3 G4 G5 G6 G7 G8 G9 G10 G11 G12
  go_wp2_with fail
  refine (Hid.out HS).mono ?_
  rintro e W2 ⟨rfl, t2⟩
  have H3 := Lib.hid (lone_setK (HLO.out.pre (HT1.out.then t2)) w0 1 1125899906842624 (by omega) (by omega) (by decide) z1)
  clear t2 HS
  go_wp2_with fail
  refine (Hid.out H3).mono ?_
  rintro e W3 ⟨rfl, h3⟩
  have H4 := Lib.hid (lone_setK h3 zw1 1 1125899906842625 (by omega) (by omega) (by decide) z2)
  clear h3 H3
  go_wp2_with fail
  refine (Hid.out H4).mono ?_
  rintro e W4 ⟨rfl, h3⟩
  have H5 := Lib.hid (lone_setK h3 zw1 1 (-1) (by omega) (by omega) (by decide) z3)
  clear h3 H4
  go_wp2_with fail
  refine (Hid.out H5).mono ?_
  rintro e W5 ⟨rfl, h3⟩
  have H6 := Lib.hid (lone_len h3)
  have H7 := Lib.hid h3.turns
  have H8 := Lib.hid (known_any W5)
  clear h3 H5
  go_wp2_with fail
  refine (Hid.out H6).mono ?_
  rintro e w' ⟨rfl, rfl⟩
  go_wp2_with fail
  refine (Hid.out H8).mono ?_
  rintro e W6 ⟨rfl, t6⟩
  have H9 := Lib.hid t6
  clear t6
  go_wp2
  go_ret
  exact ⟨rfl, H7.out.then H9.out⟩
end Go.Proofs.Ytaepgcicgmbbeaa
