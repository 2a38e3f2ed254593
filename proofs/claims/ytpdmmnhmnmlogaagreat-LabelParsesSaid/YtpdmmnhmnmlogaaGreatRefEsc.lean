/- Values as they stand between quotes: the document's Escape and Unescape. -/
import Derived.Test.YtpdmmnhmnmlogaaGreatLabUnesc
namespace Go.Proofs.YtpdmmnhmnmlogaaGreat
open Go.RowKit

def uS : Option (List UInt8) → List UInt8
  | some v => v
  | none => []
def UPost (o : Option (List UInt8)) (w : World) (e : Ending) (w' : World) : Prop := e = .returned (.tuple #[.string ⟨(uS o).toArray⟩, .bool o.isSome]) ∧ Below w.heap.size w w'
theorem unescP_none {s : List UInt8} (h : rdV s = none) : unescP s = none := by unfold unescP; rw [h]
theorem unescP_some {s v : List UInt8} (h : rdV s = some (v, [])) : unescP s = some v := by unfold unescP; rw [h]
theorem unescP_more {s v r : List UInt8} {c : UInt8} (h : rdV s = some (v, c :: r)) : unescP s = none := by unfold unescP; rw [h]

set_option maxRecDepth 100000 in
set_option maxHeartbeats 6000000 in
theorem runescape_any (s : ByteArray) (w : World) (hs : s.size ≤ 100000) :
    Calls Tryz.prog 20 #[.string s] w (UPost (unescP s.data.toList) w) := by
  go_enter Tryz.func20, Tryz.ntmps20
  go_wp2
  go_loopw [4, 5] (fun b i wr => ∃ (k : Nat) (v : List UInt8) (bv : Value), bv = b ∧ k ≤ s.size ∧ i = .int .i64 k ∧ v.length ≤ k ∧ Hid (rdV s.data.toList = onV v (rdV (s.data.toList.drop k))) ∧ Hid (Owned w.heap.size wr b v) ∧ Hid (Below w.heap.size w wr) ∧ w.heap.size ≤ wr.heap.size) (fun _ i _ => s.size - (intOf i).toNat)
  case atStart => exact ⟨0, [], _, rfl, Nat.zero_le _, rfl, Nat.le_refl _, Lib.hid (by rw [List.drop_zero]; unfold onV; cases rdV s.data.toList <;> rfl), Lib.hid (World.ownsRow_nil _ _ _ _), Lib.hid (Below.refl _ _), Nat.le_refl _⟩
  case round =>
    obtain ⟨k, v, bv, rfl, hk, rfl, hvk, HR, HO, HB, hBr⟩ := hrel
    have HL1 := Lib.hid (show v.length + 1 ≤ 1000000 by omega)
    by_cases hlt : k < s.size
    · obtain ⟨c, hc, hcl⟩ := data_at s k hlt
      have HCL := Lib.hid hcl
      clear hcl
      have hlt' : (k : Int) < (s.size : Int) := by omega
      have hq : (c.toNat : Int) ≤ 255 := by have := c.toNat_lt; omega
      by_cases h34 : c = 34
      · subst h34
        have HE := Lib.hid (show unescP s.data.toList = none from unescP_more (v := v) (c := 34) (r := s.data.toList.drop (k + 1)) (by
          rw [HR.out, dropAt HCL.out, rdV_quote]
          simp [onV]))
        go_wp2
        go_ret2
        exact ⟨by rw [HE.out]; rfl, HB.out⟩
      have n34 : ((c.toNat : Int) == 34) = false := byte_ne h34
      by_cases h10 : c = 10
      · subst h10
        have HE := Lib.hid (show unescP s.data.toList = none from unescP_none (by
          rw [HR.out, dropAt HCL.out, rdV_lf]
          simp [onV]))
        go_wp2
        go_ret2
        exact ⟨by rw [HE.out]; rfl, HB.out⟩
      have n10 : ((c.toNat : Int) == 10) = false := byte_ne h10
      by_cases h92 : c = 92
      · subst h92
        clear h34 h10
        by_cases hl2 : k + 1 < s.size
        · obtain ⟨d, hd, hdl⟩ := data_at s (k + 1) hl2
          have HD := Lib.hid hdl
          clear hdl
          have hl2' : (k : Int) + 1 < (s.size : Int) := by omega
          have hl3' : decide ((s.size : Int) ≤ (k : Int) + 1) = false := by simp; omega
          have hl0 : (0 : Int) ≤ (k : Int) + 1 := by omega
          by_cases g1 : d = 110
          · subst g1
            have HN := Lib.hid (show rdV s.data.toList = onV (v ++ [10]) (rdV (s.data.toList.drop (k + 2))) by
              rw [HR.out, drop_two HCL.out HD.out, rdV_slash, if_pos rfl, onV_step])
            go_wp2_with (at_builtin; refine wpList_append_bytes rfl (.tmp 43) (.tmp 44) rfl w.heap.size bv v rfl (HO.out.alloc _) (wr.heap.size + 1) (some ⟨wr.heap.size, 0, none⟩) [10] 1 rfl (breads_one _ _ _ _ rfl) (fun h => by cases h) HL1.out (le_alloc hBr _) ?_; intro v1 w1 hown1 hb1; have HO1 := Lib.hid hown1; have HB1 := Lib.hid ((below_alloc hBr _).trans hb1); have hBr1 := Nat.le_trans hBr HB1.out.size; clear hown1 hb1)
            have HG := Lib.hid (HB.out.trans HB1.out)
            go_roundw
            case rel => exact ⟨k + 2, v ++ [10], v1, rfl, by omega, by go_num, by simp; omega, HN, HO1, HG, hBr1⟩
            case measure => simp [intOf] <;> omega
          have m1 : ((d.toNat : Int) == 110) = false := byte_ne g1
          by_cases g2 : d = 92
          · subst g2
            have HN := Lib.hid (show rdV s.data.toList = onV (v ++ [92]) (rdV (s.data.toList.drop (k + 2))) by
              rw [HR.out, drop_two HCL.out HD.out, rdV_slash, if_neg g1, if_pos (.inl rfl), onV_step])
            go_wp2_with (at_builtin; refine wpList_append_bytes rfl (.tmp 56) (.tmp 60) rfl w.heap.size bv v rfl (HO.out.alloc _) (wr.heap.size + 1) (some ⟨wr.heap.size, 0, none⟩) [92] 1 rfl (breads_one _ _ _ _ rfl) (fun h => by cases h) HL1.out (le_alloc hBr _) ?_; intro v1 w1 hown1 hb1; have HO1 := Lib.hid hown1; have HB1 := Lib.hid ((below_alloc hBr _).trans hb1); have hBr1 := Nat.le_trans hBr HB1.out.size; clear hown1 hb1)
            have HG := Lib.hid (HB.out.trans HB1.out)
            go_roundw
            case rel => exact ⟨k + 2, v ++ [92], v1, rfl, by omega, by go_num, by simp; omega, HN, HO1, HG, hBr1⟩
            case measure => simp [intOf] <;> omega
          have m2 : ((d.toNat : Int) == 92) = false := byte_ne g2
          by_cases g3 : d = 34
          · subst g3
            have HN := Lib.hid (show rdV s.data.toList = onV (v ++ [34]) (rdV (s.data.toList.drop (k + 2))) by
              rw [HR.out, drop_two HCL.out HD.out, rdV_slash, if_neg g1, if_pos (.inr rfl), onV_step])
            go_wp2_with (at_builtin; refine wpList_append_bytes rfl (.tmp 56) (.tmp 60) rfl w.heap.size bv v rfl (HO.out.alloc _) (wr.heap.size + 1) (some ⟨wr.heap.size, 0, none⟩) [34] 1 rfl (breads_one _ _ _ _ rfl) (fun h => by cases h) HL1.out (le_alloc hBr _) ?_; intro v1 w1 hown1 hb1; have HO1 := Lib.hid hown1; have HB1 := Lib.hid ((below_alloc hBr _).trans hb1); have hBr1 := Nat.le_trans hBr HB1.out.size; clear hown1 hb1)
            have HG := Lib.hid (HB.out.trans HB1.out)
            go_roundw
            case rel => exact ⟨k + 2, v ++ [34], v1, rfl, by omega, by go_num, by simp; omega, HN, HO1, HG, hBr1⟩
            case measure => simp [intOf] <;> omega
          have m3 : ((d.toNat : Int) == 34) = false := byte_ne g3
          have HE := Lib.hid (show unescP s.data.toList = none from unescP_none (by
            rw [HR.out, drop_two HCL.out HD.out, rdV_slash, if_neg g1, if_neg (by rintro (h | h); exact g2 h; exact g3 h)]
            simp [onV]))
          clear g1 g2 g3
          go_wp2
          go_ret2
          exact ⟨by rw [HE.out]; rfl, HB.out⟩
        · have hl3' : (s.size : Int) ≤ (k : Int) + 1 := by omega
          have HE := Lib.hid (show unescP s.data.toList = none from unescP_none (by
            rw [HR.out, drop_last HCL.out (by rw [← Lib.size_eq]; omega)]
            simp [onV, rdV]))
          go_wp2
          go_ret2
          exact ⟨by rw [HE.out]; rfl, HB.out⟩
      have n92 : ((c.toNat : Int) == 92) = false := byte_ne h92
      have n92' : ((c.toNat : Int) != 92) = true := by rw [bne, n92]; rfl
      have HN := Lib.hid (show rdV s.data.toList = onV (v ++ [c]) (rdV (s.data.toList.drop (k + 1))) by
        rw [HR.out, dropAt HCL.out, rdV_other _ h34 h10 h92, onV_step])
      clear h34 h10 h92
      go_wp2_with (at_builtin; refine wpList_append_bytes rfl (.tmp 26) (.tmp 30) rfl w.heap.size bv v rfl (HO.out.alloc _) (wr.heap.size + 1) (some ⟨wr.heap.size, 0, none⟩) [c] 1 rfl (breads_one _ _ _ _ rfl) (fun h => by cases h) HL1.out (le_alloc hBr _) ?_; intro v1 w1 hown1 hb1; have HO1 := Lib.hid hown1; have HB1 := Lib.hid ((below_alloc hBr _).trans hb1); have hBr1 := Nat.le_trans hBr HB1.out.size; clear hown1 hb1)
      have HG := Lib.hid (HB.out.trans HB1.out)
      go_roundw
      case rel => exact ⟨k + 1, v ++ [c], v1, rfl, by omega, by go_num, by simp; omega, HN, HO1, HG, hBr1⟩
      case measure => simp [intOf] <;> omega
    · have hge : decide ((k : Int) < (s.size : Int)) = false := by simp; omega
      have HE := Lib.hid (show unescP s.data.toList = some v from unescP_some (by
        rw [HR.out, List.drop_eq_nil_of_le (by rw [← Lib.size_eq]; omega)]
        simp [onV, rdV]))
      obtain ⟨A, cap, rfl, hcv⟩ := owned_text HO.out
      go_wp2
      go_ret2
      exact ⟨by rw [HE.out]; rfl, HB.out⟩

set_option maxRecDepth 100000 in
set_option maxHeartbeats 4000000 in
theorem rescape_any (s : ByteArray) (w : World) (hs : s.size ≤ 100000) :
    Calls Tryz.prog 36 #[.string s] w fun e w' => e = .returned (.string ⟨(escL s.data.toList).toArray⟩) ∧ Below w.heap.size w w' := by
  have HEL := Lib.hid (show ∀ k, (escL (s.data.toList.take k)).length ≤ 200000 by
    intro k
    have h1 := escL_len (s.data.toList.take k)
    have h2 : (s.data.toList.take k).length ≤ s.size := by rw [Lib.size_eq]; exact List.length_take_le' ..
    omega)
  go_enter Tryz.func36, Tryz.ntmps36
  go_wp2
  go_loopw [3, 4] (fun b i wr => ∃ (k : Nat) (bv : Value), bv = b ∧ k ≤ s.size ∧ i = .int .i64 k ∧ Hid (Owned w.heap.size wr b (escL (s.data.toList.take k))) ∧ Hid (Below w.heap.size w wr) ∧ w.heap.size ≤ wr.heap.size) (fun _ i _ => s.size - (intOf i).toNat)
  case atStart => exact ⟨0, _, rfl, Nat.zero_le _, rfl, Lib.hid (World.ownsRow_nil _ _ _ _), Lib.hid (Below.refl _ _), Nat.le_refl _⟩
  case round =>
    obtain ⟨k, bv, rfl, hk, rfl, HO, HB, hBr⟩ := hrel
    by_cases hlt : k < s.size
    · obtain ⟨c, hc, hcl⟩ := data_at s k hlt
      have HSN := Lib.hid (escL_snoc hcl)
      clear hcl
      have hlt' : (k : Int) < (s.size : Int) := by omega
      have hq : (c.toNat : Int) ≤ 255 := by have := c.toNat_lt; omega
      have HL1 := Lib.hid (show (escL (s.data.toList.take k)).length + 1 ≤ 1000000 by have := HEL.out k; omega)
      have HL2 := Lib.hid (show (escL (s.data.toList.take k)).length + 2 ≤ 1000000 by have := HEL.out k; omega)
      by_cases h10 : c = 10
      · subst h10
        go_wp2_with (at_builtin; refine wpList_append_bytes rfl (.tmp 22) (.tmp 23) rfl w.heap.size bv _ rfl (HO.out.alloc _) (wr.heap.size + 1) (some ⟨wr.heap.size, 0, none⟩) [92, 110] 2 rfl (breads_two _ _ _ _ _ _ rfl rfl) (fun h => by cases h) HL2.out (le_alloc hBr _) ?_; intro v1 w1 hown1 hb1; have HO1 := Lib.hid hown1; have HB1 := Lib.hid ((below_alloc hBr _).trans hb1); have hBr1 := Nat.le_trans hBr HB1.out.size; clear hown1 hb1)
        have HN := Lib.hid (show Owned w.heap.size w1 v1 (escL (s.data.toList.take (k + 1))) by rw [HSN.out]; exact HO1.out)
        have HG := Lib.hid (HB.out.trans HB1.out)
        go_roundw
        case rel => exact ⟨k + 1, v1, rfl, by omega, by go_num, HN, HG, hBr1⟩
        case measure => simp [intOf] <;> omega
      have n10 : ((c.toNat : Int) == 10) = false := byte_ne h10
      by_cases h92 : c = 92
      · subst h92
        go_wp2_with (at_builtin; refine wpList_append_bytes rfl (.tmp 28) (.tmp 32) rfl w.heap.size bv _ rfl (HO.out.alloc _) (wr.heap.size + 1) (some ⟨wr.heap.size, 0, none⟩) [92, 92] 2 rfl (breads_two _ _ _ _ _ _ rfl rfl) (fun h => by cases h) HL2.out (le_alloc hBr _) ?_; intro v1 w1 hown1 hb1; have HO1 := Lib.hid hown1; have HB1 := Lib.hid ((below_alloc hBr _).trans hb1); have hBr1 := Nat.le_trans hBr HB1.out.size; clear hown1 hb1)
        have HN := Lib.hid (show Owned w.heap.size w1 v1 (escL (s.data.toList.take (k + 1))) by rw [HSN.out]; exact HO1.out)
        have HG := Lib.hid (HB.out.trans HB1.out)
        go_roundw
        case rel => exact ⟨k + 1, v1, rfl, by omega, by go_num, HN, HG, hBr1⟩
        case measure => simp [intOf] <;> omega
      have n92 : ((c.toNat : Int) == 92) = false := byte_ne h92
      by_cases h34 : c = 34
      · subst h34
        go_wp2_with (at_builtin; refine wpList_append_bytes rfl (.tmp 28) (.tmp 32) rfl w.heap.size bv _ rfl (HO.out.alloc _) (wr.heap.size + 1) (some ⟨wr.heap.size, 0, none⟩) [92, 34] 2 rfl (breads_two _ _ _ _ _ _ rfl rfl) (fun h => by cases h) HL2.out (le_alloc hBr _) ?_; intro v1 w1 hown1 hb1; have HO1 := Lib.hid hown1; have HB1 := Lib.hid ((below_alloc hBr _).trans hb1); have hBr1 := Nat.le_trans hBr HB1.out.size; clear hown1 hb1)
        have HN := Lib.hid (show Owned w.heap.size w1 v1 (escL (s.data.toList.take (k + 1))) by rw [HSN.out]; exact HO1.out)
        have HG := Lib.hid (HB.out.trans HB1.out)
        go_roundw
        case rel => exact ⟨k + 1, v1, rfl, by omega, by go_num, HN, HG, hBr1⟩
        case measure => simp [intOf] <;> omega
      have n34 : ((c.toNat : Int) == 34) = false := byte_ne h34
      have HS1 := Lib.hid (esc1_one h10 h92 h34)
      clear h10 h92 h34
      go_wp2_with (at_builtin; refine wpList_append_bytes rfl (.tmp 14) (.tmp 18) rfl w.heap.size bv _ rfl (HO.out.alloc _) (wr.heap.size + 1) (some ⟨wr.heap.size, 0, none⟩) [c] 1 rfl (breads_one _ _ _ _ rfl) (fun h => by cases h) HL1.out (le_alloc hBr _) ?_; intro v1 w1 hown1 hb1; have HO1 := Lib.hid hown1; have HB1 := Lib.hid ((below_alloc hBr _).trans hb1); have hBr1 := Nat.le_trans hBr HB1.out.size; clear hown1 hb1)
      have HN := Lib.hid (show Owned w.heap.size w1 v1 (escL (s.data.toList.take (k + 1))) by rw [HSN.out, HS1.out]; exact HO1.out)
      have HG := Lib.hid (HB.out.trans HB1.out)
      go_roundw
      case rel => exact ⟨k + 1, v1, rfl, by omega, by go_num, HN, HG, hBr1⟩
      case measure => simp [intOf] <;> omega
    · have hge : decide ((k : Int) < (s.size : Int)) = false := by simp; omega
      have HN := Lib.hid (show escL (s.data.toList.take k) = escL s.data.toList by rw [List.take_of_length_le (by rw [← Lib.size_eq]; omega)])
      obtain ⟨A, cap, rfl, hcv⟩ := owned_text HO.out
      go_wp2
      go_ret
      exact ⟨by rw [HN.out]; rfl, HB.out⟩
end Go.Proofs.YtpdmmnhmnmlogaaGreat
