/- What windows that are not there, and zero ones, answer. -/
import Derived.Test.YtjkkpdflijjllaaWiOps
namespace Go.Proofs.Ytjkkpdflijjllaa
open Go.RowKit

/-- It is nil, or a zero one. -/
def IsNo (w : World) (v : Value) : Prop := ∀ W, Turns [] w W → Calls Try.prog 31 #[v] W fun e w' => e = .returned (.bool true) ∧ W = w'
theorem IsNo.pre {w W : World} {v : Value} (h : IsNo w v) (ht : Turns [] w W) : IsNo W v := fun X hX => h X (ht.then hX)
set_option maxHeartbeats 400000 in
theorem isNo_nil (w : World) : IsNo w (.pointer none) := fun W _ => by
  go_enter Try.func31, Try.ntmps31
  go_wp2
  go_ret
  exact ⟨rfl, rfl⟩
abbrev zeroW : Array Value := #[.int .i64 0, .int .i64 0, .int .i64 0, .int .i64 0, .int .i64 0, .int .i64 0, .int .i64 0, .map none]
set_option maxHeartbeats 400000 in
theorem isNo_zero {w : World} {z : Nat} (h : w.heap[z]? = some (.cells zeroW 66 (0, 0))) : IsNo w (ptrV z) := fun W hW => by
  have hz := (hW.block z (lt_of_block h) (by simp)).trans h
  have c0 : W.cell? ⟨z, 0, none⟩ = some (.int .i64 0) := by simp [World.cell?, hz]
  clear hz
  go_enter Try.func31, Try.ntmps31
  go_wp2
  go_ret
  exact ⟨rfl, rfl⟩
section
variable {w : World} {v u : Value}
set_option maxHeartbeats 400000 in
theorem note_no (h : IsNo w v) (t : Int) : Calls Try.prog 15 #[v, .int .i64 t] w fun e w' => e = .returned (.tuple #[]) ∧ Turns [] w w' := by
  have HT := Lib.hid (Turns.refl [] w)
  have HN := Lib.hid (h w HT.out)
  clear h
  go_enter Try.func15, Try.ntmps15
  go_wp2_with fail
  refine HN.out.mono ?_
  rintro e w1 ⟨rfl, rfl⟩
  go_wp2_with fail
  exact bodyPost_ret (results_none rfl _ _ _) rfl ⟨rfl, HT.out⟩
set_option maxHeartbeats 400000 in
theorem add_no (h : IsNo w v) (name : ByteArray) (tm inc : Int) (rs : Bool) : Calls Try.prog 16 #[v, .agg #[.string name, .int .i64 tm, .int .i64 inc, .bool rs]] w fun e w' => e = .returned (.tuple #[.bool true, .slice none 0 0]) ∧ Turns [] w w' := by
  have HT := Lib.hid (Turns.alloc (F := []) w (.cells #[.string name, .int .i64 tm, .int .i64 inc, .bool rs] 34))
  have HN := Lib.hid (h _ HT.out)
  clear h
  go_enter Try.func16, Try.ntmps16
  go_wp2_with fail
  refine HN.out.mono ?_
  rintro e w1 ⟨rfl, rfl⟩
  go_wp2_with fail
  go_ret2
  exact ⟨rfl, HT.out⟩
set_option maxHeartbeats 400000 in
theorem clock_none_no (h : IsNo w v) (now : Int) : Calls Try.prog 17 #[v, .int .i64 now] w fun e w' => e = .returned (.slice none 0 0) ∧ Turns [] w w' := by
  have HT := Lib.hid (Turns.refl [] w)
  have HN := Lib.hid (h w HT.out)
  clear h
  go_enter Try.func17, Try.ntmps17
  go_wp2_with fail
  refine HN.out.mono ?_
  rintro e w1 ⟨rfl, rfl⟩
  go_wp2_with fail
  go_ret
  exact ⟨rfl, HT.out⟩
set_option maxHeartbeats 400000 in
theorem floor_no (h : IsNo w v) : Calls Try.prog 24 #[v] w fun e w' => e = .returned (.int .i64 (-1)) ∧ Turns [] w w' := by
  have HT := Lib.hid (Turns.refl [] w)
  have HN := Lib.hid (h w HT.out)
  clear h
  go_enter Try.func24, Try.ntmps24
  go_wp2_with fail
  refine HN.out.mono ?_
  rintro e w1 ⟨rfl, rfl⟩
  go_wp2_with fail
  go_ret
  exact ⟨rfl, HT.out⟩
set_option maxHeartbeats 400000 in
theorem mark_no (h : IsNo w v) : Calls Try.prog 25 #[v] w fun e w' => e = .returned (.int .i64 (-1)) ∧ Turns [] w w' := by
  have HT := Lib.hid (Turns.refl [] w)
  have HN := Lib.hid (h w HT.out)
  clear h
  go_enter Try.func25, Try.ntmps25
  go_wp2_with fail
  refine HN.out.mono ?_
  rintro e w1 ⟨rfl, rfl⟩
  go_wp2_with fail
  go_ret
  exact ⟨rfl, HT.out⟩
set_option maxHeartbeats 400000 in
theorem open_no (h : IsNo w v) : Calls Try.prog 18 #[v] w fun e w' => e = .returned (.slice none 0 0) ∧ Turns [] w w' := by
  have HT := Lib.hid (Turns.refl [] w)
  have HN := Lib.hid (h w HT.out)
  clear h
  go_enter Try.func18, Try.ntmps18
  go_wp2_with fail
  refine HN.out.mono ?_
  rintro e w1 ⟨rfl, rfl⟩
  go_wp2_with fail
  go_ret
  exact ⟨rfl, HT.out⟩
set_option maxHeartbeats 400000 in
theorem counts_no (h : IsNo w v) : Calls Try.prog 19 #[v] w fun e w' => e = .returned (.tuple #[.int .i64 0, .int .i64 0]) ∧ Turns [] w w' := by
  have HT := Lib.hid (Turns.refl [] w)
  have HN := Lib.hid (h w HT.out)
  clear h
  go_enter Try.func19, Try.ntmps19
  go_wp2_with fail
  refine HN.out.mono ?_
  rintro e w1 ⟨rfl, rfl⟩
  go_wp2_with fail
  go_ret2
  exact ⟨rfl, HT.out⟩
set_option maxHeartbeats 400000 in
theorem copy_no (h : IsNo w v) : Calls Try.prog 20 #[v] w fun e w' => e = .returned (.pointer none) ∧ Turns [] w w' := by
  have HT := Lib.hid (Turns.refl [] w)
  have HN := Lib.hid (h w HT.out)
  clear h
  go_enter Try.func20, Try.ntmps20
  go_wp2_with fail
  refine HN.out.mono ?_
  rintro e w1 ⟨rfl, rfl⟩
  go_wp2_with fail
  go_ret
  exact ⟨rfl, HT.out⟩
set_option maxHeartbeats 400000 in
theorem same_no (h : IsNo w v) (h' : IsNo w u) : Calls Try.prog 22 #[v, u] w fun e w' => e = .returned (.bool true) ∧ Turns [] w w' := by
  have HT := Lib.hid (Turns.refl [] w)
  have HN := Lib.hid (h w HT.out)
  have HN2 := Lib.hid (h' w HT.out)
  clear h h'
  go_enter Try.func22, Try.ntmps22
  go_wp2_with fail
  refine HN.out.mono ?_
  rintro e w1 ⟨rfl, rfl⟩
  go_wp2_with fail
  refine HN.out.mono ?_
  rintro e w1 ⟨rfl, rfl⟩
  go_wp2_with fail
  refine HN2.out.mono ?_
  rintro e w1 ⟨rfl, rfl⟩
  go_wp2_with fail
  go_ret
  exact ⟨rfl, HT.out⟩
end
end Go.Proofs.Ytjkkpdflijjllaa
