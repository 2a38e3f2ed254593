/- A byte that must come; a line that is ended. -/
import Derived.Test.YtlelemjmknbnaaaGreatDoorBodyFns
namespace Go.Proofs.YtlelemjmknbnaaaGreatDoor
open Go.RowKit

set_option maxRecDepth 100000 in
set_option maxHeartbeats 1000000 in
theorem ended_any {B : Nat} {w : World} {p : Nat} {d : Dc} {lv bv nv : Value} (h : DecR B w p d lv bv nv) :
    Calls Tryz.prog 48 #[.pointer (some ⟨p, 0, none⟩)] w fun en w' => en = .returned (.string ⟨d.line.toArray⟩) ∧ DecR B w' p { d with line := [] } (.slice none 0 0) bv nv ∧ Turns [p] w w' := by
  obtain ⟨-, -, -, -, c4, -, -, -, hf⟩ := h.cells
  have f4 := hf 4
  obtain ⟨A, cap, hv, hcv⟩ := owned_text h.line
  have hp : p ∈ [p] := List.mem_singleton.2 rfl
  have HT : Hid (Turns [p] w (w.setCell ⟨p, 4, none⟩ (.slice none 0 0))) := Lib.hid (Turns.setCell w ⟨p, 4, none⟩ _ hp)
  have HD : Hid (DecR B (w.setCell ⟨p, 4, none⟩ (.slice none 0 0)) p { d with line := [] } (.slice none 0 0) bv nv) := Lib.hid (h.setNil HT.out (heap_setCell_same _ p 4 _ _ _ h.head) rfl rfl)
  rw [hv] at c4
  generalize d.line.length = n at c4 hcv
  generalize (⟨d.line.toArray⟩ : ByteArray) = S at hcv ⊢
  clear h hf hp hv
  go_enter Tryz.func48, Tryz.ntmps48
  go_wp2
  go_ret
  exact ⟨rfl, HD.out, HT.out⟩
set_option maxRecDepth 100000 in
set_option maxHeartbeats 1000000 in
theorem must_any (w : World) (c : UInt8) (v : Value) (hv : v.oneCell' = true) :
    Calls Tryz.prog 50 #[.int .u8 (c.toNat : Int), v] w fun en w' => en = .returned (mustV w.heap.size (w.heap.size + 1)) ∧ BoxU w' w.heap.size (c.toNat : Int) ∧ BoxF w' (w.heap.size + 1) v ∧ Below w.heap.size w w' := by
  have hmf : ∀ (fn : Fn) (first cap : Array Value) (w : World), (Instr.makeFunc fn first cap).run Tryz.prog w = .ok (.func fn first cap) w := fun _ _ _ _ => rfl
  have HB : Hid (Below w.heap.size w ((w.alloc (.cells #[.int .u8 (c.toNat : Int)] 5 (0, 0))).alloc (.cells #[v] 58 (0, 0)))) := Lib.hid ((below_alloc (Nat.le_refl _) _).alloc (by simp) _)
  have H1 : Hid (BoxF ((w.alloc (.cells #[.int .u8 (c.toNat : Int)] 5 (0, 0))).alloc (.cells #[v] 58 (0, 0))) (w.heap.size + 1) v) := Lib.hid (by
    have := heap_alloc_new (w.alloc (.cells #[.int .u8 (c.toNat : Int)] 5 (0, 0))) (.cells #[v] 58 (0, 0))
    rw [show (w.alloc (.cells #[.int .u8 (c.toNat : Int)] 5 (0, 0))).heap.size = w.heap.size + 1 by simp] at this
    exact this)
  have H0 : Hid (BoxU ((w.alloc (.cells #[.int .u8 (c.toNat : Int)] 5 (0, 0))).alloc (.cells #[v] 58 (0, 0))) w.heap.size (c.toNat : Int)) := Lib.hid (((below_alloc (B := w.heap.size + 1) (by simp) _).block w.heap.size (by omega)).trans (heap_alloc_new w _))
  go_enter Tryz.func50, Tryz.ntmps50
  go_wp2
  go_ret
  exact ⟨rfl, H0.out, H1.out, HB.out⟩
set_option maxRecDepth 100000 in
theorem mustc_yes {w : World} {p g k : Nat} {x : Int} {v : Value} (c : UInt8) (h1 : BoxU w g x) (h2 : BoxF w k v) (hx : (c.toNat : Int) = x) :
    Calls Tryz.prog 62 #[.pointer (some ⟨p, 0, none⟩), .int .u8 (c.toNat : Int), .pointer (some ⟨g, 0, none⟩), .pointer (some ⟨k, 0, none⟩)] w fun en w' => en = .returned v ∧ w = w' := by
  have g0 : w.cell? ⟨g, 0, none⟩ = some (.int .u8 x) := by simp [World.cell?, show w.heap[g]? = _ from h1]
  have k0 : w.cell? ⟨k, 0, none⟩ = some v := by simp [World.cell?, show w.heap[k]? = _ from h2]
  clear h1 h2
  rw [hx]
  go_enter Tryz.func62, Tryz.ntmps62
  go_wp2
  go_ret
  exact ⟨rfl, rfl⟩
set_option maxRecDepth 100000 in
theorem mustc_no {B : Nat} {w : World} {p : Nat} {d : Dc} {lv bv nv : Value} (h : DecR B w p d lv bv nv) {g k : Nat} {x : Int} (c : UInt8) (h1 : BoxU w g x) (hx : (c.toNat : Int) ≠ x) :
    Calls Tryz.prog 62 #[.pointer (some ⟨p, 0, none⟩), .int .u8 (c.toNat : Int), .pointer (some ⟨g, 0, none⟩), .pointer (some ⟨k, 0, none⟩)] w fun en w' => en = .returned .nilFunc ∧ DecR B w' p (d.fail 12) (.slice none 0 0) bv .nilFunc ∧ Turns [p] w w' := by
  have HF : Hid (Calls Tryz.prog 29 #[.pointer (some ⟨p, 0, none⟩), .int .i64 12] w fun en w' => en = .returned .nilFunc ∧ DecR B w' p (d.fail 12) (.slice none 0 0) bv .nilFunc ∧ Turns [p] w w') := Lib.hid (fail_any h 12)
  have g0 : w.cell? ⟨g, 0, none⟩ = some (.int .u8 x) := by simp [World.cell?, show w.heap[g]? = _ from h1]
  have hne : ((c.toNat : Int) == x) = false := by simpa using hx
  clear h h1
  generalize (c.toNat : Int) = q at hx hne ⊢
  go_enter Tryz.func62, Tryz.ntmps62
  go_wp2_with fail
  refine (Hid.out HF).mono ?_
  rintro e w1 ⟨rfl, hd, ht⟩
  have HD := Lib.hid hd
  have HT := Lib.hid ht
  clear hd ht HF
  go_wp2
  go_ret
  exact ⟨rfl, HD.out, HT.out⟩
end Go.Proofs.YtlelemjmknbnaaaGreatDoor
