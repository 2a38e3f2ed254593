/- What a net that is not there answers. -/
import Derived.Test.YtlelemjmknbnaaaNetOne
namespace Go.Proofs.Ytlelemjmknbnaaa
open Go.RowKit

set_option maxRecDepth 100000 in
set_option maxHeartbeats 1000000 in
theorem nil_find (w : World) : Calls Try.prog 46 #[.pointer none, .int .i64 1] w fun e w' => e = .returned (.tuple #[.pointer none, .int .i64 1]) ∧ Below w.heap.size w w' := by
  go_enter Try.func46, Try.ntmps46
  go_wp2_with go_in
  go_ret2
  exact ⟨rfl, by first | exact Below.refl _ _ | exact below_alloc (Nat.le_refl _) _ | exact (below_alloc (Nat.le_refl _) _).alloc (by simp) _⟩
set_option maxRecDepth 100000 in
set_option maxHeartbeats 1000000 in
theorem nil_accept (w : World) : Calls Try.prog 15 #[.pointer none, .int .i64 1] w fun e w' => e = .returned (.int .i64 1) ∧ Below w.heap.size w w' := by
  go_enter Try.func15, Try.ntmps15
  go_wp2_with go_in
  go_ret
  exact ⟨rfl, by first | exact Below.refl _ _ | exact below_alloc (Nat.le_refl _) _ | exact (below_alloc (Nat.le_refl _) _).alloc (by simp) _⟩
set_option maxRecDepth 100000 in
set_option maxHeartbeats 1000000 in
theorem nil_refuse (w : World) : Calls Try.prog 21 #[.pointer none, .int .i64 1] w fun e w' => e = .returned (.int .i64 1) ∧ Below w.heap.size w w' := by
  go_enter Try.func21, Try.ntmps21
  go_wp2_with go_in
  go_ret
  exact ⟨rfl, by first | exact Below.refl _ _ | exact below_alloc (Nat.le_refl _) _ | exact (below_alloc (Nat.le_refl _) _).alloc (by simp) _⟩
set_option maxRecDepth 100000 in
set_option maxHeartbeats 1000000 in
theorem nil_reset (w : World) : Calls Try.prog 23 #[.pointer none, .int .i64 1] w fun e w' => e = .returned (.int .i64 1) ∧ Below w.heap.size w w' := by
  go_enter Try.func23, Try.ntmps23
  go_wp2_with go_in
  go_ret
  exact ⟨rfl, by first | exact Below.refl _ _ | exact below_alloc (Nat.le_refl _) _ | exact (below_alloc (Nat.le_refl _) _).alloc (by simp) _⟩
set_option maxRecDepth 100000 in
set_option maxHeartbeats 1000000 in
theorem nil_end (w : World) : Calls Try.prog 17 #[.pointer none, .int .i64 1] w fun e w' => e = .returned (.int .i64 1) ∧ Below w.heap.size w w' := by
  go_enter Try.func17, Try.ntmps17
  go_wp2_with go_in
  go_ret
  exact ⟨rfl, by first | exact Below.refl _ _ | exact below_alloc (Nat.le_refl _) _ | exact (below_alloc (Nat.le_refl _) _).alloc (by simp) _⟩
set_option maxRecDepth 100000 in
set_option maxHeartbeats 1000000 in
theorem nil_arrive (w : World) : Calls Try.prog 16 #[.pointer none, .int .i64 1, .slice none 0 0] w fun e w' => e = .returned (.int .i64 1) ∧ Below w.heap.size w w' := by
  go_enter Try.func16, Try.ntmps16
  go_wp2_with go_in
  go_ret
  exact ⟨rfl, by first | exact Below.refl _ _ | exact below_alloc (Nat.le_refl _) _ | exact (below_alloc (Nat.le_refl _) _).alloc (by simp) _⟩
set_option maxRecDepth 100000 in
set_option maxHeartbeats 1000000 in
theorem nil_send (w : World) : Calls Try.prog 27 #[.pointer none, .int .i64 1, .slice none 0 0] w fun e w' => e = .returned (.int .i64 1) ∧ Below w.heap.size w w' := by
  go_enter Try.func27, Try.ntmps27
  go_wp2_with go_in
  go_ret
  exact ⟨rfl, by first | exact Below.refl _ _ | exact below_alloc (Nat.le_refl _) _ | exact (below_alloc (Nat.le_refl _) _).alloc (by simp) _⟩
set_option maxRecDepth 100000 in
set_option maxHeartbeats 1000000 in
theorem nil_close (w : World) : Calls Try.prog 30 #[.pointer none, .int .i64 1] w fun e w' => e = .returned (.int .i64 1) ∧ Below w.heap.size w w' := by
  go_enter Try.func30, Try.ntmps30
  go_wp2_with go_in
  go_ret
  exact ⟨rfl, by first | exact Below.refl _ _ | exact below_alloc (Nat.le_refl _) _ | exact (below_alloc (Nat.le_refl _) _).alloc (by simp) _⟩
set_option maxRecDepth 100000 in
set_option maxHeartbeats 1000000 in
theorem nil_read (w : World) : Calls Try.prog 18 #[.pointer none, .int .i64 1] w fun e w' => e = .returned (.slice none 0 0) ∧ Below w.heap.size w w' := by
  go_enter Try.func18, Try.ntmps18
  go_wp2_with go_in
  go_ret
  exact ⟨rfl, by first | exact Below.refl _ _ | exact below_alloc (Nat.le_refl _) _ | exact (below_alloc (Nat.le_refl _) _).alloc (by simp) _⟩
set_option maxRecDepth 100000 in
set_option maxHeartbeats 1000000 in
theorem nil_len (w : World) : Calls Try.prog 35 #[.pointer none] w fun e w' => e = .returned (.int .i64 0) ∧ Below w.heap.size w w' := by
  go_enter Try.func35, Try.ntmps35
  go_wp2_with go_in
  go_ret
  exact ⟨rfl, by first | exact Below.refl _ _ | exact below_alloc (Nat.le_refl _) _ | exact (below_alloc (Nat.le_refl _) _).alloc (by simp) _⟩
set_option maxRecDepth 100000 in
set_option maxHeartbeats 1000000 in
theorem nil_dial (w : World) : Calls Try.prog 14 #[.pointer none, .string ⟨#[97]⟩] w fun e w' => e = .returned (.tuple #[.int .i64 0, .int .i64 1]) ∧ Below w.heap.size w w' := by
  go_enter Try.func14, Try.ntmps14
  go_wp2_with go_in
  go_ret2
  exact ⟨rfl, by first | exact Below.refl _ _ | exact below_alloc (Nat.le_refl _) _ | exact (below_alloc (Nat.le_refl _) _).alloc (by simp) _⟩
set_option maxRecDepth 100000 in
set_option maxHeartbeats 1000000 in
theorem nil_list (w : World) : Calls Try.prog 50 #[.pointer none] w fun e w' => e = .returned (.slice none 0 0) ∧ Below w.heap.size w w' := by
  go_enter Try.func50, Try.ntmps50
  go_wp2_with go_in
  go_ret
  exact ⟨rfl, by first | exact Below.refl _ _ | exact below_alloc (Nat.le_refl _) _ | exact (below_alloc (Nat.le_refl _) _).alloc (by simp) _⟩
set_option maxRecDepth 100000 in
set_option maxHeartbeats 1000000 in
theorem nil_copy (w : World) : Calls Try.prog 9 #[.pointer none] w fun e w' => e = .returned (.pointer none) ∧ Below w.heap.size w w' := by
  go_enter Try.func9, Try.ntmps9
  go_wp2_with go_in
  go_ret
  exact ⟨rfl, by first | exact Below.refl _ _ | exact below_alloc (Nat.le_refl _) _ | exact (below_alloc (Nat.le_refl _) _).alloc (by simp) _⟩
set_option maxRecDepth 100000 in
set_option maxHeartbeats 1000000 in
theorem nil_look (w : World) : Calls Try.prog 33 #[.pointer none, .int .i64 1] w fun e w' => e = .returned emptyC ∧ Below w.heap.size w w' := by
  go_enter Try.func33, Try.ntmps33
  go_wp2_with go_in
  exact bodyPost_ret (v := .agg #[.string ⟨#[]⟩, .int .i64 0, .slice none 0 0, .slice none 0 0]) (by simp [results, Try.f33, go_sem]) rfl ⟨rfl, below_alloc (Nat.le_refl _) _⟩
set_option maxRecDepth 100000 in
set_option maxHeartbeats 1000000 in
theorem nil_left (w : World) : Calls Try.prog 40 #[.pointer none, .int .i64 1] w fun e w' => e = .returned (.int .i64 0) ∧ Below w.heap.size w w' := by
  have HL := Lib.hid (nil_look w)
  unfold emptyC at HL
  have hfd := field_2
  go_enter Try.func40, Try.ntmps40
  go_wp2_with fail
  refine (Hid.out HL).mono ?_
  rintro e w1 ⟨rfl, hb⟩
  have HB := Lib.hid hb
  clear hb
  go_wp2
  go_ret
  exact ⟨rfl, HB.out⟩
set_option maxRecDepth 100000 in
set_option maxHeartbeats 1000000 in
theorem nil_state (w : World) : Calls Try.prog 38 #[.pointer none, .int .i64 1] w fun e w' => e = .returned (.int .i64 0) ∧ Below w.heap.size w w' := by
  have HL := Lib.hid (nil_look w)
  unfold emptyC at HL
  have hfd := field_1
  go_enter Try.func38, Try.ntmps38
  go_wp2_with fail
  refine (Hid.out HL).mono ?_
  rintro e w1 ⟨rfl, hb⟩
  have HB := Lib.hid hb
  clear hb
  go_wp2
  go_ret
  exact ⟨rfl, HB.out⟩
set_option maxRecDepth 100000 in
set_option maxHeartbeats 1000000 in
theorem nil_clone (w : World) : Calls Try.prog 34 #[.slice none 0 0] w fun e w' => e = .returned (.slice none 0 0) ∧ w = w' := by
  have he : ∀ w, (binOp .eql 30 (.slice none 0 0) (.slice none 0 0)).run Try.prog w = .ok (.bool true) w := fun w => by kernel_rfl
  go_enter Try.func34, Try.ntmps34
  go_wp2
  go_ret
  exact ⟨rfl, rfl⟩
set_option maxRecDepth 100000 in
set_option maxHeartbeats 1000000 in
theorem nil_sent (w : World) : Calls Try.prog 37 #[.pointer none, .int .i64 1] w fun e w' => e = .returned (.slice none 0 0) ∧ Below w.heap.size w w' := by
  have HL := Lib.hid (nil_look w)
  have HC := Lib.hid nil_clone
  unfold emptyC at HL
  have hfd := field_3
  go_enter Try.func37, Try.ntmps37
  go_wp2_with fail
  refine (Hid.out HL).mono ?_
  rintro e w1 ⟨rfl, hb⟩
  have HB := Lib.hid hb
  clear hb
  go_wp2_with fail
  refine (HC.out _).mono ?_
  rintro e w2 ⟨rfl, rfl⟩
  go_wp2
  go_ret
  exact ⟨rfl, HB.out⟩
set_option maxRecDepth 100000 in
set_option maxHeartbeats 1000000 in
theorem nil_all (w : World) : Calls Try.prog 32 #[.pointer none] w fun e w' => e = .returned (.func (.func 51) #[] #[.pointer (some ⟨w.heap.size, 0, none⟩)]) ∧ w' = w.alloc (.cells #[.slice none 0 0] 76) := by
  have hmf : ∀ (fn : Fn) (first cap : Array Value) (w : World), (Instr.makeFunc fn first cap).run Try.prog w = .ok (.func fn first cap) w := fun _ _ _ _ => rfl
  go_enter Try.func32, Try.ntmps32
  go_wp2_with go_in
  go_ret
  exact ⟨rfl, rfl⟩
set_option maxRecDepth 100000 in
set_option maxHeartbeats 1000000 in
theorem nil_same_nil (w : World) : Calls Try.prog 11 #[.pointer none, .pointer none] w fun e w' => e = .returned (.bool true) ∧ Below w.heap.size w w' := by
  go_enter Try.func11, Try.ntmps11
  go_wp2
  exact bodyPost_ret (v := .bool true) (by simp [results, Try.f11, go_sem]) rfl ⟨rfl, by first | exact ((below_alloc (Nat.le_refl _) _).alloc (by simp) _).alloc (by simp; omega) _⟩
set_option maxRecDepth 100000 in
set_option maxHeartbeats 1000000 in
theorem nil_same_one (b : Nat) (w : World) : Calls Try.prog 11 #[.pointer none, .pointer (some ⟨b, 0, none⟩)] w fun e w' => e = .returned (.bool false) ∧ Below w.heap.size w w' := by
  have he : ∀ w, (binOp .eql 25 (.pointer none) (.pointer (some ⟨b, 0, none⟩))).run Try.prog w = .ok (.bool false) w := fun w => by kernel_rfl
  go_enter Try.func11, Try.ntmps11
  go_wp2
  exact bodyPost_ret (v := .bool false) (by simp [results, Try.f11, go_sem]) rfl ⟨rfl, by first | exact ((below_alloc (Nat.le_refl _) _).alloc (by simp) _).alloc (by simp; omega) _⟩
set_option maxRecDepth 100000 in
set_option maxHeartbeats 1000000 in
theorem one_same_nil (b : Nat) (w : World) : Calls Try.prog 11 #[.pointer (some ⟨b, 0, none⟩), .pointer none] w fun e w' => e = .returned (.bool false) ∧ Below w.heap.size w w' := by
  go_enter Try.func11, Try.ntmps11
  go_wp2
  refine bodyPost_ret (v := .bool false) ?_ rfl ⟨rfl, ?_⟩
  · simp [results, Try.f11, go_sem]
  · exact ((below_alloc (Nat.le_refl _) _).alloc (by simp) _).alloc (by simp; omega) _
/-! a zero net at block z -/
def ZeroAt (w : World) (z : Nat) : Prop := w.heap[z]? = some (.cells #[.int .i64 0, .int .i64 0, .map none] 47 (0, 0))
theorem ZeroAt.cells {w : World} {z : Nat} (h : ZeroAt w z) : w.cell? ⟨z, 0, none⟩ = some (.int .i64 0) ∧ w.cell? ⟨z, 1, none⟩ = some (.int .i64 0) ∧ w.cell? ⟨z, 2, none⟩ = some (.map none) := by
  unfold ZeroAt at h
  simp [World.cell?, h]
theorem ZeroAt.below {w w' : World} {z B : Nat} (h : ZeroAt w z) (hb : Below B w w') (hz : z < B) : ZeroAt w' z := (hb.block z hz).trans h
set_option maxRecDepth 100000 in
set_option maxHeartbeats 1000000 in
theorem zero_dial (w : World) (z : Nat) (h : ZeroAt w z) : Calls Try.prog 14 #[.pointer (some ⟨z, 0, none⟩), .string ⟨#[97]⟩] w fun e w' => e = .returned (.tuple #[.int .i64 0, .int .i64 6]) ∧ Below w.heap.size w w' := by
  obtain ⟨c0, c1, c2⟩ := h.cells
  have hlen : ∀ ty q, (Builtin.len_ #[45] ty #[.map none]).run Try.prog (w.drewN q) = .ok (.int .i64 0) (w.drewN q) := fun ty q => Maps.len_nil Try.underlying45 ty
  have hlen0 : ∀ ty, (Builtin.len_ #[45] ty #[.map none]).run Try.prog w = .ok (.int .i64 0) w := fun ty => Maps.len_nil Try.underlying45 ty
  clear h
  go_enter Try.func14, Try.ntmps14
  go_wp2
  go_quiet (fail)
  go_wp2
  go_ret2
  exact ⟨rfl, (Turns.refl [] w).drewN _ |>.below (by simp) (Nat.le_refl _)⟩
set_option maxRecDepth 100000 in
set_option maxHeartbeats 1000000 in
theorem zero_close (w : World) (z : Nat) (h : ZeroAt w z) : Calls Try.prog 30 #[.pointer (some ⟨z, 0, none⟩), .int .i64 1] w fun e w' => e = .returned (.int .i64 8) ∧ Below w.heap.size w w' := by
  obtain ⟨c0, c1, c2⟩ := h.cells
  have hlook := Maps.look_nil (w := w) true keyed Try.underlying45 (zeroConn w) (Go.Maps.keyOf_int_mk Try.underlying3 (by rfl : (Lit.int .i64 1).wf = true) : Go.keyOf Try.prog 3 (.int .i64 1) = some (.int .i64 1))
  clear h
  go_enter Try.func30, Try.ntmps30
  go_wp2_with go_in
  go_ret
  exact ⟨rfl, Below.refl _ _⟩
end Go.Proofs.Ytlelemjmknbnaaa
