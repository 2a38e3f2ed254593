/- BodyNil: the walk. -/
import Derived.Test.YtnkpdnbnheffeaaDoorBodyKnown
namespace Go.Proofs.YtnkpdnbnheffeaaDoor
open Go.RowKit

theorem end_nil (w : World) : Calls Tryd.prog 17 #[.pointer none] w fun e w' => (∃ v, e = .returned v) ∧ w = w' := by
  go_enter Tryd.func17, Tryd.ntmps17
  go_wp2
  exact bodyPost_end (v := .tuple #[]) (by simp [results, Tryd.f17, go_sem]) rfl ⟨⟨_, rfl⟩, rfl⟩
theorem push_nil (w : World) (A : Option Addr) (n c : Nat) : Calls Tryd.prog 14 #[.pointer none, .slice A n c] w fun e w' => e = .returned (.int .i64 0) ∧ w = w' := by
  go_enter Tryd.func14, Tryd.ntmps14
  go_wp2
  go_step3
  go_wp2
  go_step3
  go_wp2
  go_loopw [5] (fun tv wr => tv = .int .i64 0 ∧ w = wr) (fun _ _ => 0)
  case atStart => exact ⟨rfl, rfl⟩
  case round =>
    obtain ⟨rfl, rfl⟩ := hrel
    go_wp2
    rw [Exit.noGoto_ret]
    go_ret
    exact ⟨rfl, rfl⟩
theorem done_nil (w : World) : Calls Tryd.prog 15 #[.pointer none] w fun e w' => e = .returned (.bool false) ∧ w = w' := by
  go_enter Tryd.func15, Tryd.ntmps15
  go_wp2
  go_ret
  exact ⟨rfl, rfl⟩
theorem wrong_nil (w : World) : Calls Tryd.prog 18 #[.pointer none] w fun e w' => e = .returned (.int .i64 1) ∧ w = w' := by
  go_enter Tryd.func18, Tryd.ntmps18
  go_wp2
  go_ret
  exact ⟨rfl, rfl⟩
theorem body_nil (w : World) : Calls Tryd.prog 16 #[.pointer none] w fun e w' => e = .returned (.slice none 0 0) ∧ w = w' := by
  go_enter Tryd.func16, Tryd.ntmps16
  go_wp2
  go_ret
  exact ⟨rfl, rfl⟩
theorem copy_nil (w : World) : Calls Tryd.prog 19 #[.pointer none] w fun e w' => e = .returned (.pointer none) ∧ w = w' := by
  go_enter Tryd.func19, Tryd.ntmps19
  go_wp2
  go_ret
  exact ⟨rfl, rfl⟩
def FinK (w : World) (e : Ending) (w' : World) : Prop := e = .returned (.bool true) ∧ Below w.heap.size w w'
set_option maxRecDepth 100000 in
set_option maxHeartbeats 2000000 in
theorem bodyNil_any (w : World) (hm : GX w) : Calls Tryd.prog 6 #[] w (FinK w) := by
  have hcs := conv_lit
  have HK := Lib.hid (fun W (hb : Below w.heap.size w W) => known7_yes W (hm.grown hb))
  have HBA := Lib.hid (fun o => below_alloc (B := w.heap.size) (w := w) (Nat.le_refl _) o)
  clear hm
  go_enter Tryd.func6, Tryd.ntmps6
  go_wp2_with (first | (go_at_call 17; refine (end_nil _).mono ?_; rintro e w1 ⟨⟨v, rfl⟩, rfl⟩) | (go_at_call 14; refine (push_nil _ _ _ _).mono ?_; rintro e w2 ⟨rfl, rfl⟩) | (go_at_call 15; refine (done_nil _).mono ?_; rintro e w3 ⟨rfl, rfl⟩) | (go_at_call 18; refine (wrong_nil _).mono ?_; rintro e w4 ⟨rfl, rfl⟩) | (go_at_call 16; refine (body_nil _).mono ?_; rintro e w5 ⟨rfl, rfl⟩) | (go_at_call 19; refine (copy_nil _).mono ?_; rintro e w6 ⟨rfl, rfl⟩) | (go_at_call 10; refine (HK.out _ (HBA.out _)).mono ?_; rintro e w7 ⟨rfl, hb7⟩; have HB7 := Lib.hid ((HBA.out _).trans (hb7.mono (HBA.out _).size)); clear hb7))
  go_ret
  exact ⟨rfl, HB7.out⟩
end Go.Proofs.YtnkpdnbnheffeaaDoor
