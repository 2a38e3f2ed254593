/- The laws' own helper: known. -/
import Derived.Test.YtblphklfjafmfaaDoorPutV
import Derived.Test.YtblphklfjafmfaaDoorCrc
import Derived.Lib.SlBytesConst
namespace Go.Proofs.YtblphklfjafmfaaDoor
open Go.RowKit

def GivesText (n : Nat) (l : List UInt8) (w w0 : World) (e : Ending) (w' : World) : Prop :=
  ∃ A cap, e = .returned (.slice A n cap) ∧ Hid ((convert 22 9 (.slice A n cap)).run Tryd.prog w' = .ok (.string ⟨l.toArray⟩) w') ∧ Hid (Below w.heap.size w0 w')
theorem gives_text {n : Nat} {l : List UInt8} (hn : l.length = n) {w w0 : World} (hB : w.heap.size ≤ w0.heap.size) {e : Ending} {w' : World} (h : Gives w0.heap.size w0 l e w') : GivesText n l w w0 e w' := by
  subst hn
  obtain ⟨v, rfl, ho, hb⟩ := h
  obtain ⟨A, cap, rfl, hr, _⟩ := ho.reads
  exact ⟨A, cap, rfl, Lib.hid (run_bytes_text w' 9 22 Tryd.underlying22 Tryd.underlying9 cap hr), Lib.hid (hb.mono hB)⟩
theorem k1 (w w0 : World) (hB : w.heap.size ≤ w0.heap.size) : Calls Tryd.prog 6 #[.slice none 0 0, .int .u64 300] w0 (GivesText 2 [172, 2] w w0) :=
  (putUvarint_any none 0 300 [] w0 (by decide) (by decide) (.inl rfl) (fun _ => rfl)).mono fun _ _ h => gives_text (by rfl) hB h
theorem k2 (w w0 : World) (hB : w.heap.size ≤ w0.heap.size) : Calls Tryd.prog 7 #[.slice none 0 0, .int .i64 (-3)] w0 (GivesText 1 [5] w w0) :=
  (putVarint_any none 0 (-3) [] w0 (by decide) (by decide) (by decide) (.inl rfl) (fun _ => rfl)).mono fun _ _ h => gives_text (by rfl) hB h

def nines : List Nat := [49, 50, 51, 52, 53, 54, 55, 56, 57]
theorem sum9 (w w0 : World) (hb : Below w.heap.size w w0) : Calls Tryd.prog 14 #[.slice (some ⟨w0.heap.size, 0, none⟩) 9 9] (w0.alloc (.cells #[.int .u8 49, .int .u8 50, .int .u8 51, .int .u8 52, .int .u8 53, .int .u8 54, .int .u8 55, .int .u8 56, .int .u8 57] 5 (9, 10)))
    fun e w' => e = .returned (.int .u32 3421780262) ∧ Below w.heap.size w w' := by
  have h := sum_some w0.heap.size 0 9 nines (w0.alloc (.cells #[.int .u8 49, .int .u8 50, .int .u8 51, .int .u8 52, .int .u8 53, .int .u8 54, .int .u8 55, .int .u8 56, .int .u8 57] 5 (9, 10))) (by simp) (by decide) (by decide) (by
    intro j hj
    rw [cell_of_row _ _ _ _ _ _ (heap_alloc_new w0 _)]
    match j, hj with
    | 0, _ => rfl
    | 1, _ => rfl
    | 2, _ => rfl
    | 3, _ => rfl
    | 4, _ => rfl
    | 5, _ => rfl
    | 6, _ => rfl
    | 7, _ => rfl
    | 8, _ => rfl
    | j + 9, h => exact absurd h (by simp [nines]))
  refine h.mono fun e w' ⟨h1, h2⟩ => ⟨?_, (hb.alloc hb.size _).trans (h2.mono (by have := hb.size; simp; omega))⟩
  rw [h1, show sumN nines = 3421780262 from sum_known]
  rfl

set_option maxRecDepth 100000 in
set_option maxHeartbeats 400000 in
theorem known_yes (w w0 : World) (hb : Below w.heap.size w w0) :
    Calls Tryd.prog 5 #[] w0 fun e w' => e = .returned (.bool true) ∧ Below w.heap.size w w' := by
  have HB0 := Lib.hid hb
  have HK1 := Lib.hid (k1 w w0 hb.size)
  clear hb
  go_enter Tryd.func5, Tryd.ntmps5
  go_wp2_with fail
  refine (Hid.out HK1).mono ?_
  rintro e w1 ⟨A1, c1, rfl, HR1, HB1⟩
  have hr1 := HR1.out
  have HK2 := Lib.hid (k2 w w1 (HB0.out.trans HB1.out).size)
  go_wp2_with fail
  refine (Hid.out HK2).mono ?_
  rintro e w2 ⟨A2, c2, rfl, HR2, HB2⟩
  have hr2 := HR2.out
  have hcs := fun (w : World) (C : Array Value) (n c : Nat) => Lib.run_convert_bytes_const (P := Tryd.prog) w 22 5 C n c Tryd.underlying22 Tryd.underlying5
  have HS := Lib.hid (sum9 w w2 ((HB0.out.trans HB1.out).trans HB2.out))
  go_wp2_with fail
  refine (Hid.out HS).mono ?_
  rintro e w3 ⟨rfl, hb3⟩
  have HB3 := Lib.hid hb3
  clear hb3
  go_wp2
  go_ret
  exact ⟨rfl, HB3.out⟩
end Go.Proofs.YtblphklfjafmfaaDoor
