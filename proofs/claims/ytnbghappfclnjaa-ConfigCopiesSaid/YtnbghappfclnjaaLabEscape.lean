/- A value as it stands between quotes: the program's Escape. -/
import Derived.Test.YtnbghappfclnjaaLabMetric
import Derived.Test.YtnbghappfclnjaaAppendL
import Derived.Deep.LoopGhost
namespace Go.Proofs.Ytnbghappfclnjaa
open Go.RowKit

theorem escL_snoc {l : List UInt8} {k : Nat} {c : UInt8} (h : l[k]? = some c) : escL (l.take (k + 1)) = escL (l.take k) ++ esc1 c := by
  rw [List.take_add_one, h, escL_append]
  simp [escL]
theorem esc1_lf : esc1 10 = [92] ++ [110] := rfl
theorem esc1_two {c : UInt8} (h : c = 92 ∨ c = 34) : esc1 c = [92] ++ [c] := by
  unfold esc1
  rw [if_neg (by rintro rfl; revert h; decide), if_pos h]; rfl
theorem esc1_one {c : UInt8} (h1 : c ≠ 10) (h2 : c ≠ 92) (h3 : c ≠ 34) : esc1 c = [c] := by
  unfold esc1
  rw [if_neg h1, if_neg (by rintro (h | h); exact h2 h; exact h3 h)]
theorem byte_ne {c d : UInt8} (h : c ≠ d) : ((c.toNat : Int) == (d.toNat : Int)) = false := by
  rw [beq_eq_false_iff_ne]
  intro e
  exact h (UInt8.toNat_inj.1 (by omega))

set_option maxRecDepth 100000 in
set_option maxHeartbeats 2000000 in
theorem escape_any (s : ByteArray) (w : World) (hs : s.size ≤ 20000) :
    Calls Try.prog 61 #[.string s] w fun e w' => e = .returned (.string ⟨(escL s.data.toList).toArray⟩) ∧ Below w.heap.size w w' := by
  obtain ⟨i0, hi, hz0, hz1, hz2⟩ := info_parts Try.infoU8
  have HB2 := Lib.hid (show i0.bytes * s.size ≤ 281474976710656 by rw [hz2]; omega)
  have HB3 := Lib.hid (show s.size ≤ maxLen by unfold maxLen; omega)
  have HEL := Lib.hid (show ∀ k, (escL (s.data.toList.take k)).length ≤ 40000 by
    intro k
    have h1 := escL_len (s.data.toList.take k)
    have h2 : (s.data.toList.take k).length ≤ s.size := by rw [Lib.size_eq]; exact List.length_take_le' ..
    omega)
  go_enter Try.func61, Try.ntmps61
  go_wp2_with (at_make; refine wpList_make_own _ rfl _ _ 74 rfl w.heap.size 5 i0 (.int .u8 0) 1 Try.underlying74 hi hz0 hz1 .i64 .i64 _ s.size rfl rfl (by omega) HB2.out HB3.out (Nat.le_refl _) ?_; intro w0 hown0 hg0; have HO0 := Lib.hid hown0; have HG0 := Lib.hid hg0; clear hown0 hg0)
  go_loopw [3, 11] (fun b i wr => ∃ (k : Nat) (bv : Value), bv = b ∧ k ≤ s.size ∧ i = .int .i64 k ∧ Hid (Owned w.heap.size wr b (escL (s.data.toList.take k))) ∧ Hid (Below w.heap.size w wr) ∧ w.heap.size ≤ wr.heap.size) (fun _ i _ => s.size - (intOf i).toNat)
  case atStart => exact ⟨0, _, rfl, Nat.zero_le _, rfl, Lib.hid HO0.out, Lib.hid ((Below.refl _ _).grown HG0.out (Nat.le_refl _) (fun g h => by cases h)), HG0.out.size⟩
  case round =>
    obtain ⟨k, bv, rfl, hk, rfl, HO, HB, hBr⟩ := hrel
    by_cases hlt : k < s.size
    · obtain ⟨c, hc, hcl⟩ := data_at s k hlt
      have HSN := Lib.hid (escL_snoc hcl)
      clear hcl
      have hlt' : (k : Int) < (s.size : Int) := by omega
      have hq : (c.toNat : Int) ≤ 255 := by have := c.toNat_lt; omega
      have HL1 := Lib.hid (show (escL (s.data.toList.take k)).length + 1 ≤ 1000000 by have := HEL.out k; omega)
      have HL2 := Lib.hid (show (escL (s.data.toList.take k) ++ [92]).length + 1 ≤ 1000000 by have := HEL.out k; rw [List.length_append]; simp; omega)
      by_cases h10 : c = 10
      · subst h10
        go_wp2_with (first | (at_builtin; refine wpList_append_bytes rfl (.tmp 23) (.tmp 24) rfl w.heap.size bv _ rfl (HO.out.alloc _) (wr.heap.size + 1) (some ⟨wr.heap.size, 0, none⟩) [92] 1 rfl (breads_one _ _ _ _ rfl) (fun h => by cases h) HL1.out (le_alloc hBr _) ?_; intro v1 w1 hown1 hb1; have HO1 := Lib.hid hown1; have HB1 := Lib.hid ((below_alloc hBr _).trans hb1); have hBr1 := Nat.le_trans hBr HB1.out.size; clear hown1 hb1) | (at_builtin; refine wpList_append_bytes rfl (.tmp 26) (.tmp 28) rfl w.heap.size v1 _ rfl (HO1.out.alloc _) (w1.heap.size + 1) (some ⟨w1.heap.size, 0, none⟩) [110] 1 rfl (breads_one _ _ _ _ rfl) (fun h => by cases h) HL2.out (le_alloc hBr1 _) ?_; intro v2 w2 hown2 hb2; have HO2 := Lib.hid hown2; have HB2 := Lib.hid ((below_alloc hBr1 _).trans hb2); have hBr2 := Nat.le_trans hBr1 HB2.out.size; clear hown2 hb2))
        have HN := Lib.hid (show Owned w.heap.size w2 v2 (escL (s.data.toList.take (k + 1))) by rw [HSN.out, esc1_lf, ← List.append_assoc]; exact HO2.out)
        have HG := Lib.hid (HB.out.trans (HB1.out.trans HB2.out))
        go_roundw
        case rel => exact ⟨k + 1, v2, rfl, by omega, by go_num, HN, HG, hBr2⟩
        case measure => simp [intOf] <;> omega
      have n10 : ((c.toNat : Int) == 10) = false := byte_ne h10
      by_cases h92 : c = 92
      · subst h92
        go_wp2_with (first | (at_builtin; refine wpList_append_bytes rfl (.tmp 23) (.tmp 24) rfl w.heap.size bv _ rfl (HO.out.alloc _) (wr.heap.size + 1) (some ⟨wr.heap.size, 0, none⟩) [92] 1 rfl (breads_one _ _ _ _ rfl) (fun h => by cases h) HL1.out (le_alloc hBr _) ?_; intro v1 w1 hown1 hb1; have HO1 := Lib.hid hown1; have HB1 := Lib.hid ((below_alloc hBr _).trans hb1); have hBr1 := Nat.le_trans hBr HB1.out.size; clear hown1 hb1) | (at_builtin; refine wpList_append_bytes rfl (.tmp 26) (.tmp 28) rfl w.heap.size v1 _ rfl (HO1.out.alloc _) (w1.heap.size + 1) (some ⟨w1.heap.size, 0, none⟩) [92] 1 rfl (breads_one _ _ _ _ rfl) (fun h => by cases h) HL2.out (le_alloc hBr1 _) ?_; intro v2 w2 hown2 hb2; have HO2 := Lib.hid hown2; have HB2 := Lib.hid ((below_alloc hBr1 _).trans hb2); have hBr2 := Nat.le_trans hBr1 HB2.out.size; clear hown2 hb2))
        have HN := Lib.hid (show Owned w.heap.size w2 v2 (escL (s.data.toList.take (k + 1))) by rw [HSN.out, esc1_two (.inl rfl), ← List.append_assoc]; exact HO2.out)
        have HG := Lib.hid (HB.out.trans (HB1.out.trans HB2.out))
        go_roundw
        case rel => exact ⟨k + 1, v2, rfl, by omega, by go_num, HN, HG, hBr2⟩
        case measure => simp [intOf] <;> omega
      have n92 : ((c.toNat : Int) == 92) = false := byte_ne h92
      by_cases h34 : c = 34
      · subst h34
        go_wp2_with (first | (at_builtin; refine wpList_append_bytes rfl (.tmp 23) (.tmp 24) rfl w.heap.size bv _ rfl (HO.out.alloc _) (wr.heap.size + 1) (some ⟨wr.heap.size, 0, none⟩) [92] 1 rfl (breads_one _ _ _ _ rfl) (fun h => by cases h) HL1.out (le_alloc hBr _) ?_; intro v1 w1 hown1 hb1; have HO1 := Lib.hid hown1; have HB1 := Lib.hid ((below_alloc hBr _).trans hb1); have hBr1 := Nat.le_trans hBr HB1.out.size; clear hown1 hb1) | (at_builtin; refine wpList_append_bytes rfl (.tmp 26) (.tmp 28) rfl w.heap.size v1 _ rfl (HO1.out.alloc _) (w1.heap.size + 1) (some ⟨w1.heap.size, 0, none⟩) [34] 1 rfl (breads_one _ _ _ _ rfl) (fun h => by cases h) HL2.out (le_alloc hBr1 _) ?_; intro v2 w2 hown2 hb2; have HO2 := Lib.hid hown2; have HB2 := Lib.hid ((below_alloc hBr1 _).trans hb2); have hBr2 := Nat.le_trans hBr1 HB2.out.size; clear hown2 hb2))
        have HN := Lib.hid (show Owned w.heap.size w2 v2 (escL (s.data.toList.take (k + 1))) by rw [HSN.out, esc1_two (.inr rfl), ← List.append_assoc]; exact HO2.out)
        have HG := Lib.hid (HB.out.trans (HB1.out.trans HB2.out))
        go_roundw
        case rel => exact ⟨k + 1, v2, rfl, by omega, by go_num, HN, HG, hBr2⟩
        case measure => simp [intOf] <;> omega
      have n34 : ((c.toNat : Int) == 34) = false := byte_ne h34
      have HS1 := Lib.hid (esc1_one h10 h92 h34)
      clear h10 h92 h34
      go_wp2_with (at_builtin; refine wpList_append_bytes rfl (.tmp 26) (.tmp 28) rfl w.heap.size bv _ rfl (HO.out.alloc _) (wr.heap.size + 1) (some ⟨wr.heap.size, 0, none⟩) [c] 1 rfl (breads_one _ _ _ _ rfl) (fun h => by cases h) HL1.out (le_alloc hBr _) ?_; intro v1 w1 hown1 hb1; have HO1 := Lib.hid hown1; have HB1 := Lib.hid ((below_alloc hBr _).trans hb1); have hBr1 := Nat.le_trans hBr HB1.out.size; clear hown1 hb1)
      have HN := Lib.hid (show Owned w.heap.size w1 v1 (escL (s.data.toList.take (k + 1))) by rw [HSN.out, HS1.out]; exact HO1.out)
      have HG := Lib.hid (HB.out.trans HB1.out)
      go_roundw
      case rel => exact ⟨k + 1, v1, rfl, by omega, by go_num, HN, HG, hBr1⟩
      case measure => simp [intOf] <;> omega
    · have hge : decide ((k : Int) < (s.size : Int)) = false := by simp; omega
      have HN := Lib.hid (show escL (s.data.toList.take k) = escL s.data.toList by rw [List.take_of_length_le (by rw [← Lib.size_eq]; omega)])
      obtain ⟨A, cap, rfl, hcv⟩ := owned_text HO.out
      go_wp2
      go_ret
      exact ⟨by rw [HN.out]; rfl, HB.out⟩
end Go.Proofs.Ytnbghappfclnjaa
