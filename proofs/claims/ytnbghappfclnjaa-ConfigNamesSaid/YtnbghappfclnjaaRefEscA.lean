/- Values as they stand between quotes: the document's Escape. -/
import Derived.Test.YtnbghappfclnjaaLabEscape
namespace Go.Proofs.Ytnbghappfclnjaa
open Go.RowKit

set_option maxRecDepth 100000 in
set_option maxHeartbeats 4000000 in
theorem rescape_any (s : ByteArray) (w : World) (hs : s.size ≤ 100000) :
    Calls Try.prog 49 #[.string s] w fun e w' => e = .returned (.string ⟨(escL s.data.toList).toArray⟩) ∧ Below w.heap.size w w' := by
  have HEL := Lib.hid (show ∀ k, (escL (s.data.toList.take k)).length ≤ 200000 by
    intro k
    have h1 := escL_len (s.data.toList.take k)
    have h2 : (s.data.toList.take k).length ≤ s.size := by rw [Lib.size_eq]; exact List.length_take_le' ..
    omega)
  go_enter Try.func49, Try.ntmps49
  go_wp2
  go_loopw [3, 4] (fun b i wr => ∃ (k : Nat) (bv : Value), bv = b ∧ k ≤ s.size ∧ i = .int .i64 k ∧ Hid (Owned w.heap.size wr b (escL (s.data.toList.take k))) ∧ Hid (Below w.heap.size w wr) ∧ w.heap.size ≤ wr.heap.size) (fun _ i _ => s.size - (intOf i).toNat)
  case atStart => exact ⟨0, _, rfl, Nat.zero_le _, rfl, Lib.hid (World.ownsRow_nil _ _ _ _), Lib.hid (Below.refl _ _), Nat.le_refl _⟩
  case round =>
    obtain ⟨k, bv, rfl, hk, rfl, HO, HB, hBr⟩ := hrel
    by_cases hlt : k < s.size
    · obtain ⟨c, hc, hcl⟩ := data_at s k hlt
      have HSN := Lib.hid (escL_snoc hcl)
      clear hcl
      have hlt' : (k : Int) < (s.size : Int) := by omega
      have hq : (c.toNat : Int) ≤ 255 := by have := c.toNat_lt; omega
      have HL1 := Lib.hid (show (escL (s.data.toList.take k)).length + 1 ≤ 1000000 by have := HEL.out k; omega)
      have HL2 := Lib.hid (show (escL (s.data.toList.take k)).length + 2 ≤ 1000000 by have := HEL.out k; omega)
      by_cases h10 : c = 10
      · subst h10
        go_wp2_with (at_builtin; refine wpList_append_bytes rfl (.tmp 22) (.tmp 23) rfl w.heap.size bv _ rfl (HO.out.alloc _) (wr.heap.size + 1) (some ⟨wr.heap.size, 0, none⟩) [92, 110] 2 rfl (breads_two _ _ _ _ _ _ rfl rfl) (fun h => by cases h) HL2.out (le_alloc hBr _) ?_; intro v1 w1 hown1 hb1; have HO1 := Lib.hid hown1; have HB1 := Lib.hid ((below_alloc hBr _).trans hb1); have hBr1 := Nat.le_trans hBr HB1.out.size; clear hown1 hb1)
        have HN := Lib.hid (show Owned w.heap.size w1 v1 (escL (s.data.toList.take (k + 1))) by rw [HSN.out]; exact HO1.out)
        have HG := Lib.hid (HB.out.trans HB1.out)
        go_roundw
        case rel => exact ⟨k + 1, v1, rfl, by omega, by go_num, HN, HG, hBr1⟩
        case measure => simp [intOf] <;> omega
      have n10 : ((c.toNat : Int) == 10) = false := byte_ne h10
      by_cases h92 : c = 92
      · subst h92
        go_wp2_with (at_builtin; refine wpList_append_bytes rfl (.tmp 28) (.tmp 32) rfl w.heap.size bv _ rfl (HO.out.alloc _) (wr.heap.size + 1) (some ⟨wr.heap.size, 0, none⟩) [92, 92] 2 rfl (breads_two _ _ _ _ _ _ rfl rfl) (fun h => by cases h) HL2.out (le_alloc hBr _) ?_; intro v1 w1 hown1 hb1; have HO1 := Lib.hid hown1; have HB1 := Lib.hid ((below_alloc hBr _).trans hb1); have hBr1 := Nat.le_trans hBr HB1.out.size; clear hown1 hb1)
        have HN := Lib.hid (show Owned w.heap.size w1 v1 (escL (s.data.toList.take (k + 1))) by rw [HSN.out]; exact HO1.out)
        have HG := Lib.hid (HB.out.trans HB1.out)
        go_roundw
        case rel => exact ⟨k + 1, v1, rfl, by omega, by go_num, HN, HG, hBr1⟩
        case measure => simp [intOf] <;> omega
      have n92 : ((c.toNat : Int) == 92) = false := byte_ne h92
      by_cases h34 : c = 34
      · subst h34
        go_wp2_with (at_builtin; refine wpList_append_bytes rfl (.tmp 28) (.tmp 32) rfl w.heap.size bv _ rfl (HO.out.alloc _) (wr.heap.size + 1) (some ⟨wr.heap.size, 0, none⟩) [92, 34] 2 rfl (breads_two _ _ _ _ _ _ rfl rfl) (fun h => by cases h) HL2.out (le_alloc hBr _) ?_; intro v1 w1 hown1 hb1; have HO1 := Lib.hid hown1; have HB1 := Lib.hid ((below_alloc hBr _).trans hb1); have hBr1 := Nat.le_trans hBr HB1.out.size; clear hown1 hb1)
        have HN := Lib.hid (show Owned w.heap.size w1 v1 (escL (s.data.toList.take (k + 1))) by rw [HSN.out]; exact HO1.out)
        have HG := Lib.hid (HB.out.trans HB1.out)
        go_roundw
        case rel => exact ⟨k + 1, v1, rfl, by omega, by go_num, HN, HG, hBr1⟩
        case measure => simp [intOf] <;> omega
      have n34 : ((c.toNat : Int) == 34) = false := byte_ne h34
      have HS1 := Lib.hid (esc1_one h10 h92 h34)
      clear h10 h92 h34
      go_wp2_with (at_builtin; refine wpList_append_bytes rfl (.tmp 14) (.tmp 18) rfl w.heap.size bv _ rfl (HO.out.alloc _) (wr.heap.size + 1) (some ⟨wr.heap.size, 0, none⟩) [c] 1 rfl (breads_one _ _ _ _ rfl) (fun h => by cases h) HL1.out (le_alloc hBr _) ?_; intro v1 w1 hown1 hb1; have HO1 := Lib.hid hown1; have HB1 := Lib.hid ((below_alloc hBr _).trans hb1); have hBr1 := Nat.le_trans hBr HB1.out.size; clear hown1 hb1)
      have HN := Lib.hid (show Owned w.heap.size w1 v1 (escL (s.data.toList.take (k + 1))) by rw [HSN.out, HS1.out]; exact HO1.out)
      have HG := Lib.hid (HB.out.trans HB1.out)
      go_roundw
      case rel => exact ⟨k + 1, v1, rfl, by omega, by go_num, HN, HG, hBr1⟩
      case measure => simp [intOf] <;> omega
    · have hge : decide ((k : Int) < (s.size : Int)) = false := by simp; omega
      have HN := Lib.hid (show escL (s.data.toList.take k) = escL s.data.toList by rw [List.take_of_length_le (by rw [← Lib.size_eq]; omega)])
      obtain ⟨A, cap, rfl, hcv⟩ := owned_text HO.out
      go_wp2
      go_ret
      exact ⟨by rw [HN.out]; rfl, HB.out⟩
end Go.Proofs.Ytnbghappfclnjaa
