/- New, Done, Wrong, Body; of a decoder that is not there. -/
import Derived.Test.YtlelemjmknbnaaaGreatDoorBodyPushW
namespace Go.Proofs.YtlelemjmknbnaaaGreatDoor
open Go.RowKit

def decObj (left : Int) (nv : Value) (opn : Bool) (room wrong : Int) : Obj := .cells #[.int .i64 left, nv, .bool opn, .int .i64 room, .slice none 0 0, .int .i64 0, .slice none 0 0, .int .i64 wrong] 60 (0, 0)
theorem dec_new {B : Nat} {W : World} (hB : B ≤ W.heap.size) (d : Dc) (nv : Value) (hl : d.line = []) (ht : d.trail = 0) (hb : d.body = []) : DecR B (W.alloc (decObj d.left nv d.opn d.room d.wrong)) W.heap.size d (.slice none 0 0) (.slice none 0 0) nv where
  head := by rw [ht]; exact heap_alloc_new W _
  low := hB
  line := hl ▸ World.ownsRow_nil _ _ _ _
  body := hb ▸ World.ownsRow_nil _ _ _ _
  offL := by simp [ownB, Value.ownBlock]
  offB := by simp [ownB, Value.ownBlock]
  apart := by simp [ownB, Value.ownBlock]
/-- A decoder that was just made, at p. -/
def Made (B : Nat) (w : World) (d : Dc) (e : Ending) (w' : World) : Prop :=
  ∃ p nv, e = .returned (.pointer (some ⟨p, 0, none⟩)) ∧ w.heap.size ≤ p ∧ DecR B w' p d (.slice none 0 0) (.slice none 0 0) nv ∧ NxV w' nv d.nx [] ∧ Below w.heap.size w w'
set_option maxRecDepth 100000 in
set_option maxHeartbeats 2000000 in
theorem new_any {B : Nat} (w : World) (hB : B ≤ w.heap.size) (st len most : Int) (ch cl : Bool) (room : Nat) (hr : (room : Int) = max most 0) (hm : most ≤ 9223372036854775807) :
    Calls Tryz.prog 26 #[.agg #[.int .i64 st, .int .i64 len, .bool ch, .bool cl], .int .i64 most] w (Made B w (Dc.made len ch room)) := by
  have hB1 : B ≤ (w.alloc (.cells #[.int .i64 st, .int .i64 len, .bool ch, .bool cl] 35)).heap.size := le_alloc hB _
  have HB1 := Lib.hid hB1
  have HBL := Lib.hid (fun o => (below_alloc (B := w.heap.size) (Nat.le_refl _) (.cells #[.int .i64 st, .int .i64 len, .bool ch, .bool cl] 35)).alloc (by simp) o)
  have hrm : max most 0 = (room : Int) := hr.symm
  have hwr : IntKind.i64.wrap (room : Int) = (room : Int) := by rw [IntKind.wrap_i64]; omega
  have HSZ := Lib.hid (show w.heap.size ≤ w.heap.size + 1 by omega)
  obtain ⟨dq, hdq⟩ : ∃ dq, dq = Dc.made len ch room := ⟨_, rfl⟩
  rw [← hdq]
  have HDQ := Lib.hid hdq
  clear hB1 hr hdq
  cases ch with
  | true =>
    have HE := Lib.hid (show dq = ⟨0, .size, false, room, [], 0, [], 0⟩ by rw [HDQ.out]; rfl)
    go_enter Tryz.func26, Tryz.ntmps26
    go_wp2
    go_ret
    exact ⟨w.heap.size + 1, fnS 37, rfl, HSZ.out, by rw [HE.out]; have := dec_new HB1.out ⟨0, .size, false, room, [], 0, [], 0⟩ (fnS 37) rfl rfl rfl; rw [show (w.alloc (.cells #[.int .i64 st, .int .i64 len, .bool true, .bool cl] 35)).heap.size = w.heap.size + 1 by simp] at this; exact this, by rw [HE.out]; exact ⟨rfl, rfl⟩, HBL.out _⟩
  | false =>
    by_cases h1 : len < 0
    · have HE := Lib.hid (show dq = ⟨room, .beyond, true, 0, [], 0, [], 0⟩ by rw [HDQ.out]; exact if_pos h1)
      go_enter Tryz.func26, Tryz.ntmps26
      go_wp2
      go_ret
      exact ⟨w.heap.size + 1, fnS 38, rfl, HSZ.out, by rw [HE.out]; have := dec_new HB1.out ⟨room, .beyond, true, 0, [], 0, [], 0⟩ (fnS 38) rfl rfl rfl; rw [show (w.alloc (.cells #[.int .i64 st, .int .i64 len, .bool false, .bool cl] 35)).heap.size = w.heap.size + 1 by simp] at this; exact this, by rw [HE.out]; exact ⟨rfl, rfl⟩, HBL.out _⟩
    · obtain ⟨ln, rfl⟩ : ∃ ln : Nat, len = (ln : Int) := ⟨len.toNat, by omega⟩
      have h1' : decide ((ln : Int) < 0) = false := by simp
      by_cases h2 : (room : Int) < (ln : Int)
      · have HE := Lib.hid (show dq = ⟨0, .none, false, 0, [], 0, [], 13⟩ by rw [HDQ.out]; unfold Dc.made; rw [if_neg (by decide), if_neg h1, if_pos h2])
        go_enter Tryz.func26, Tryz.ntmps26
        go_wp2
        go_ret
        exact ⟨w.heap.size + 1, .nilFunc, rfl, HSZ.out, by rw [HE.out]; have := dec_new HB1.out ⟨0, .none, false, 0, [], 0, [], 13⟩ (.nilFunc) rfl rfl rfl; rw [show (w.alloc (.cells #[.int .i64 st, .int .i64 (ln : Int), .bool false, .bool cl] 35)).heap.size = w.heap.size + 1 by simp] at this; exact this, by rw [HE.out]; exact ⟨rfl, rfl⟩, HBL.out _⟩
      · have h2' : decide ((room : Int) < (ln : Int)) = false := by simpa using h2
        have HE := Lib.hid (show dq = ⟨ln, .none, false, 0, [], 0, [], 0⟩ by rw [HDQ.out]; unfold Dc.made; rw [if_neg (by decide), if_neg h1, if_neg h2]; rfl)
        go_enter Tryz.func26, Tryz.ntmps26
        go_wp2
        go_ret
        exact ⟨w.heap.size + 1, .nilFunc, rfl, HSZ.out, by rw [HE.out]; have := dec_new HB1.out ⟨ln, .none, false, 0, [], 0, [], 0⟩ (.nilFunc) rfl rfl rfl; rw [show (w.alloc (.cells #[.int .i64 st, .int .i64 (ln : Int), .bool false, .bool cl] 35)).heap.size = w.heap.size + 1 by simp] at this; exact this, by rw [HE.out]; exact ⟨rfl, rfl⟩, HBL.out _⟩
end Go.Proofs.YtlelemjmknbnaaaGreatDoor
