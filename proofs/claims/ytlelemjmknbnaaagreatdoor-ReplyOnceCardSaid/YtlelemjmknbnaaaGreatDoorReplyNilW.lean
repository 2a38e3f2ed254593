/- ReplyNil: the walk. -/
import Derived.Test.YtlelemjmknbnaaaGreatDoorReplyKnown
namespace Go.Proofs.YtlelemjmknbnaaaGreatDoor
open Go.RowKit

theorem came_nilR (w : World) : Calls Tryz.prog 19 #[.pointer none] w fun e w' => e = .returned (.int .i64 1) ∧ w = w' := by
  go_enter Tryz.func19, Tryz.ntmps19
  go_wp2
  go_ret
  exact ⟨rfl, rfl⟩
theorem push_nilR (w : World) (A : Option Addr) (n c : Nat) : Calls Tryz.prog 7 #[.pointer none, .slice A n c] w fun e w' => (∃ v, e = .returned v) ∧ w = w' := by
  go_enter Tryz.func7, Tryz.ntmps7
  go_wp2
  exact bodyPost_ret (v := .tuple #[]) (by simp [results, Tryz.f7, go_sem]) rfl ⟨⟨_, rfl⟩, rfl⟩
theorem end_nilR (w : World) : Calls Tryz.prog 8 #[.pointer none] w fun e w' => (∃ v, e = .returned v) ∧ w = w' := by
  go_enter Tryz.func8, Tryz.ntmps8
  go_wp2
  exact bodyPost_ret (v := .tuple #[]) (by simp [results, Tryz.f8, go_sem]) rfl ⟨⟨_, rfl⟩, rfl⟩
theorem over_nilR (w : World) : Calls Tryz.prog 11 #[.pointer none] w fun e w' => e = .returned (.bool false) ∧ w = w' := by
  go_enter Tryz.func11, Tryz.ntmps11
  go_wp2
  go_ret
  exact ⟨rfl, rfl⟩
theorem copy_nilR (w : World) : Calls Tryz.prog 15 #[.pointer none] w fun e w' => e = .returned (.pointer none) ∧ w = w' := by
  go_enter Tryz.func15, Tryz.ntmps15
  go_wp2
  go_ret
  exact ⟨rfl, rfl⟩
theorem rest_nilR (w : World) : Calls Tryz.prog 14 #[.pointer none] w fun e w' => e = .returned (.int .i64 0) ∧ w = w' := by
  have HC := Lib.hid (came_nilR w)
  go_enter Tryz.func14, Tryz.ntmps14
  go_wp2_with (go_at_call 19; refine (HC.out).mono ?_; rintro e w1 ⟨rfl, rfl⟩)
  go_ret
  exact ⟨rfl, rfl⟩
theorem wrong_nilR (w : World) : Calls Tryz.prog 13 #[.pointer none] w fun e w' => e = .returned (.int .i64 1) ∧ w = w' := by
  have HC := Lib.hid (came_nilR w)
  have HI := Lib.hid (errorsIs_any 1 7 w)
  change Hid (Calls _ _ _ _ fun e w' => e = .returned (.bool false) ∧ _) at HI
  go_enter Tryz.func13, Tryz.ntmps13
  go_wp2_with (first | (go_at_call 19; refine (HC.out).mono ?_; rintro e w1 ⟨rfl, rfl⟩) | (go_at_call 21; refine (HI.out).mono ?_; rintro e w2 ⟨rfl, rfl⟩))
  go_ret
  exact ⟨rfl, rfl⟩
theorem head_nilR (w : World) : Calls Tryz.prog 12 #[.pointer none] w fun e w' => e = .returned (.tuple #[.agg #[.int .i64 0, .int .i64 0, .bool false, .bool false], .bool false]) ∧ Below w.heap.size w w' := by
  have HBA := Lib.hid (below_alloc (B := w.heap.size) (w := w) (Nat.le_refl _) (.cells #[.int .i64 0, .int .i64 0, .bool false, .bool false] 35))
  have HB2 : Hid (Below w.heap.size w (((((w.alloc (.cells #[.int .i64 0, .int .i64 0, .bool false, .bool false] 35)).setCell ⟨w.heap.size, 0, none⟩ (.int .i64 0)).setCell ⟨w.heap.size, 1, none⟩ (.int .i64 0)).setCell ⟨w.heap.size, 2, none⟩ (.bool false)).setCell ⟨w.heap.size, 3, none⟩ (.bool false))) := Lib.hid ((((HBA.out.setCell (Nat.le_refl _) _).setCell (Nat.le_refl _) _).setCell (Nat.le_refl _) _).setCell (Nat.le_refl _) _)
  have hh := heap_alloc_new w (.cells #[.int .i64 0, .int .i64 0, .bool false, .bool false] 35)
  have h0 := heap_setCell_same _ w.heap.size 0 _ _ (.int .i64 0) hh
  have h1 := heap_setCell_same _ w.heap.size 1 _ _ (.int .i64 0) h0
  have h2 := heap_setCell_same _ w.heap.size 2 _ _ (.bool false) h1
  have h3 := heap_setCell_same _ w.heap.size 3 _ _ (.bool false) h2
  obtain ⟨t0, t1, t2, t3, -⟩ := read_cells h3
  clear hh h0 h1 h2 h3
  go_enter Tryz.func12, Tryz.ntmps12
  go_wp2
  exact bodyPost_ret (v := .tuple #[.agg #[.int .i64 0, .int .i64 0, .bool false, .bool false], .bool false]) (by simp [results, Tryz.f12, go_sem, t0, t1, t2, t3]) rfl ⟨rfl, HBA.out⟩
theorem reply_nilR (w : World) : Calls Tryz.prog 9 #[.pointer none] w fun e w' => e = .returned (.tuple #[.agg #[.int .i64 0, .slice none 0 0, .bool false], .int .i64 1]) ∧ Below w.heap.size w w' := by
  have HBA := Lib.hid (below_alloc (B := w.heap.size) (w := w) (Nat.le_refl _) (.cells #[.int .i64 0, .slice none 0 0, .bool false] 28))
  have HC := Lib.hid (came_nilR (w.alloc (.cells #[.int .i64 0, .slice none 0 0, .bool false] 28)))
  obtain ⟨t0, t1, t2⟩ := three_cells (W := w.alloc (.cells #[.int .i64 0, .slice none 0 0, .bool false] 28)) (x := .int .i64 0) (y := .slice none 0 0) (z := .bool false) (heap_alloc_new w _)
  have HB2 : Hid (Below w.heap.size w ((((w.alloc (.cells #[.int .i64 0, .slice none 0 0, .bool false] 28)).setCell ⟨w.heap.size, 0, none⟩ (.int .i64 0)).setCell ⟨w.heap.size, 1, none⟩ (.slice none 0 0)).setCell ⟨w.heap.size, 2, none⟩ (.bool false))) := Lib.hid (((HBA.out.setCell (Nat.le_refl _) _).setCell (Nat.le_refl _) _).setCell (Nat.le_refl _) _)
  go_enter Tryz.func9, Tryz.ntmps9
  go_wp2_with (go_at_call 19; refine (HC.out).mono ?_; rintro e w1 ⟨rfl, rfl⟩)
  exact bodyPost_ret (v := .tuple #[.agg #[.int .i64 0, .slice none 0 0, .bool false], .int .i64 1]) (by simp [results, Tryz.f9, go_sem, t0, t1, t2]) rfl ⟨rfl, HBA.out⟩
set_option maxRecDepth 100000 in
set_option maxHeartbeats 2000000 in
theorem replyNil_any (w : World) (hm : GX w) : Calls Tryz.prog 4 #[] w (FinR w) := by
  have hcs := conv_lit
  have HGX : Hid (∀ W, Below w.heap.size w W → GX W) := Lib.hid (fun W hb => hm.grown hb)
  have HB0 := Lib.hid (below_alloc (B := w.heap.size) (w := w) (Nat.le_refl _) (.cells #[.int .u8 97] 5 (1, 2)))
  clear hm
  go_enter Tryz.func4, Tryz.ntmps4
  go_wp2_with fail
  refine (push_nilR _ _ _ _).mono ?_
  rintro e w1 ⟨⟨v1, rfl⟩, rfl⟩
  go_wp2_with fail
  refine (end_nilR _).mono ?_
  rintro e w1 ⟨⟨v2, rfl⟩, rfl⟩
  generalize w.alloc (.cells #[.int .u8 97] 5 (1, 2)) = W1 at *
  go_wp2_with fail
  refine (reply_nilR _).mono ?_
  rintro e w2 ⟨rfl, hb2⟩
  have HB2 := Lib.hid ((HB0.out.trans (hb2.mono HB0.out.size)).alloc (Nat.le_trans HB0.out.size hb2.size) (.cells #[.int .i64 0, .slice none 0 0, .bool false] 28))
  clear hb2
  go_wp2_with fail
  refine (head_nilR _).mono ?_
  rintro e w3 ⟨rfl, hb3⟩
  have HB3 := Lib.hid ((HB2.out.trans (hb3.mono HB2.out.size)).alloc (Nat.le_trans HB2.out.size hb3.size) (.cells #[.int .i64 0, .int .i64 0, .bool false, .bool false] 35))
  clear hb3
  have HK := Lib.hid (known8_yes _ (HGX.out _ HB3.out))
  go_wp2_with (first | (go_at_call 13; refine (wrong_nilR _).mono ?_; rintro e w4 ⟨rfl, rfl⟩) | (go_at_call 11; refine (over_nilR _).mono ?_; rintro e w4 ⟨rfl, rfl⟩) | (go_at_call 14; refine (rest_nilR _).mono ?_; rintro e w4 ⟨rfl, rfl⟩) | (go_at_call 15; refine (copy_nilR _).mono ?_; rintro e w4 ⟨rfl, rfl⟩) | (go_at_call 5; refine (HK.out).mono ?_; rintro e w5 ⟨rfl, hb5⟩))
  go_ret
  exact ⟨rfl, HB3.out.trans (hb5.mono HB3.out.size)⟩
end Go.Proofs.YtlelemjmknbnaaaGreatDoor
