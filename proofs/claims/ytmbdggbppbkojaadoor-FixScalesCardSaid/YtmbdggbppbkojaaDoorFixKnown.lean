/- The laws' own helpers: reads, fails, known. -/
import Derived.Test.YtmbdggbppbkojaaDoorFixParseW
namespace Go.Proofs.YtmbdggbppbkojaaDoor
open Go.RowKit

set_option maxRecDepth 100000 in
set_option maxHeartbeats 400000 in
theorem reads_yes (s : ByteArray) (n : Int) (w w1 : World) (hs : s.size < 4294967281) (hT : FoldTab w) (hlt : 2 < w.heap.size) (hb : Below w.heap.size w w1) (h : parseF s.data.toList = (n, 0)) :
    Calls Tryd.prog 12 #[.string s, .int .i64 n] w1 fun e w' => e = .returned (.bool true) ∧ Below w.heap.size w w' := by
  have HP := parse_later s w w1 hs hT hlt hb
  rw [h] at HP
  have HP := Lib.hid HP
  clear hT hb h
  have hnn : (n == n) = true := beq_iff_eq.2 rfl
  go_enter Tryd.func12, Tryd.ntmps12
  go_wp2_with fail
  refine (Hid.out HP).mono ?_
  rintro e w2 ⟨rfl, hb⟩
  go_wp2
  go_ret
  exact ⟨rfl, hb⟩
set_option maxRecDepth 100000 in
set_option maxHeartbeats 400000 in
theorem fails_yes (s : ByteArray) (n : Int) (w w1 : World) (hs : s.size < 4294967281) (hT : FoldTab w) (hlt : 2 < w.heap.size) (hb : Below w.heap.size w w1) (h : parseF s.data.toList = (0, n)) :
    Calls Tryd.prog 19 #[.string s, .int .i64 n] w1 fun e w' => e = .returned (.bool true) ∧ Below w.heap.size w w' := by
  have HP := parse_later s w w1 hs hT hlt hb
  rw [h] at HP
  have HP := Lib.hid HP
  clear hT hb h
  have hnn : (n == n) = true := beq_iff_eq.2 rfl
  go_enter Tryd.func19, Tryd.ntmps19
  go_wp2_with fail
  refine (Hid.out HP).mono ?_
  rintro e w2 ⟨rfl, hb⟩
  go_wp2
  go_ret
  exact ⟨rfl, hb⟩

theorem k1 : parseF [49, 101, 51] = (1000000000, 0) := by decide +kernel
theorem k2 : parseF [46, 53] = (500000, 0) := by decide +kernel
theorem k3 : parseF [45, 48, 46, 48, 48, 48, 48, 48, 49] = (-1, 0) := by decide +kernel
theorem k4 : parseF [50, 53, 101, 45, 54] = (25, 0) := by decide +kernel
theorem k5 : parseF [48, 101, 57, 57] = (0, 0) := by decide +kernel
theorem k6 : parseF [49, 101, 45, 55] = (0, 4) := by decide +kernel
theorem k7 : parseF [57, 50, 50, 51, 51, 55, 50, 48, 51, 54, 56, 53, 52, 46, 55, 55, 53, 56, 48, 56] = (0, 4) := by decide +kernel
theorem k8 : parseF [43, 73, 110, 102] = (0, 4) := by decide +kernel
theorem k9 : parseF [46] = (0, 3) := by decide +kernel
theorem k10 : parseF [101, 53] = (0, 3) := by decide +kernel
theorem k11 : parseF [49, 101] = (0, 3) := by decide +kernel
theorem k12 : parseF [49, 95, 48] = (0, 3) := by decide +kernel
theorem k13 : parseF [] = (0, 3) := by decide +kernel

set_option maxRecDepth 100000 in
set_option maxHeartbeats 1000000 in
theorem known_yes (w w1 : World) (hT : FoldTab w) (hlt : 2 < w.heap.size) (hb : Below w.heap.size w w1) :
    Calls Tryd.prog 7 #[] w1 fun e w' => e = .returned (.bool true) ∧ Below w.heap.size w w' := by
  have HR := Lib.hid (fun (s : ByteArray) (n : Int) (w1 : World) hs hb h => reads_yes s n w w1 hs hT hlt hb h)
  have HF := Lib.hid (fun (s : ByteArray) (n : Int) (w1 : World) hs hb h => fails_yes s n w w1 hs hT hlt hb h)
  clear hT
  have HB := Lib.hid hb
  clear hb
  go_enter Tryd.func7, Tryd.ntmps7
  go_wp2_with fail
  refine (Hid.out HR _ _ _ (by decide) HB.out k1).mono ?_
  rintro e w2 ⟨rfl, hb2⟩
  go_wp2_with fail
  refine (Hid.out HR _ _ _ (by decide) hb2 k2).mono ?_
  rintro e w3 ⟨rfl, hb3⟩
  go_wp2_with fail
  refine (Hid.out HR _ _ _ (by decide) hb3 k3).mono ?_
  rintro e w4 ⟨rfl, hb4⟩
  go_wp2_with fail
  refine (Hid.out HR _ _ _ (by decide) hb4 k4).mono ?_
  rintro e w5 ⟨rfl, hb5⟩
  go_wp2_with fail
  refine (Hid.out HR _ _ _ (by decide) hb5 k5).mono ?_
  rintro e w6 ⟨rfl, hb6⟩
  go_wp2_with fail
  refine (Hid.out HF _ _ _ (by decide) hb6 k6).mono ?_
  rintro e w7 ⟨rfl, hb7⟩
  go_wp2_with fail
  refine (Hid.out HF _ _ _ (by decide) hb7 k7).mono ?_
  rintro e w8 ⟨rfl, hb8⟩
  go_wp2_with fail
  refine (Hid.out HF _ _ _ (by decide) hb8 k8).mono ?_
  rintro e w9 ⟨rfl, hb9⟩
  go_wp2_with fail
  refine (Hid.out HF _ _ _ (by decide) hb9 k9).mono ?_
  rintro e w10 ⟨rfl, hb10⟩
  go_wp2_with fail
  refine (Hid.out HF _ _ _ (by decide) hb10 k10).mono ?_
  rintro e w11 ⟨rfl, hb11⟩
  go_wp2_with fail
  refine (Hid.out HF _ _ _ (by decide) hb11 k11).mono ?_
  rintro e w12 ⟨rfl, hb12⟩
  go_wp2_with fail
  refine (Hid.out HF _ _ _ (by decide) hb12 k12).mono ?_
  rintro e w13 ⟨rfl, hb13⟩
  go_wp2_with fail
  refine (Hid.out HF _ _ _ (by decide) hb13 k13).mono ?_
  rintro e w14 ⟨rfl, hb14⟩
  go_wp2
  go_ret
  exact ⟨rfl, hb14⟩
end Go.Proofs.YtmbdggbppbkojaaDoor
