/- A value that stands between quotes, read: the program's readValue, Unescape. -/
import Derived.Test.YtpdmmnhmnmlogaaGreatLabEscape
import Derived.Test.YtpdmmnhmnmlogaaGreatLabErr
import Derived.Test.YtpdmmnhmnmlogaaGreatLabCheck
namespace Go.Proofs.YtpdmmnhmnmlogaaGreat
open Go.RowKit

set_option maxRecDepth 100000 in
set_option maxHeartbeats 1000000 in
theorem unescaped_n (w : World) : Calls Tryz.prog 80 #[.int .u8 110] w fun e w' => e = .returned (.tuple #[.int .u8 10, .bool true]) ∧ w = w' := by
  go_enter Tryz.func80, Tryz.ntmps80
  go_wp2
  go_ret2
  exact ⟨rfl, rfl⟩
set_option maxRecDepth 100000 in
set_option maxHeartbeats 1000000 in
theorem unescaped_same (c : UInt8) (w : World) (h : c = 92 ∨ c = 34) : Calls Tryz.prog 80 #[.int .u8 (c.toNat : Int)] w fun e w' => e = .returned (.tuple #[.int .u8 (c.toNat : Int), .bool true]) ∧ w = w' := by
  rcases h with rfl | rfl
  all_goals
    go_enter Tryz.func80, Tryz.ntmps80
    go_wp2
    go_ret2
    exact ⟨rfl, rfl⟩
set_option maxRecDepth 100000 in
set_option maxHeartbeats 1000000 in
theorem unescaped_no (c : UInt8) (w : World) (h1 : c ≠ 110) (h2 : c ≠ 92) (h3 : c ≠ 34) : Calls Tryz.prog 80 #[.int .u8 (c.toNat : Int)] w fun e w' => e = .returned (.tuple #[.int .u8 0, .bool false]) ∧ w = w' := by
  have n1 : ((c.toNat : Int) == 110) = false := byte_ne h1
  have n2 : ((c.toNat : Int) == 92) = false := byte_ne h2
  have n3 : ((c.toNat : Int) == 34) = false := byte_ne h3
  go_enter Tryz.func80, Tryz.ntmps80
  go_wp2
  go_ret2
  exact ⟨rfl, rfl⟩

theorem map_none' {f : List UInt8 × List UInt8 → List UInt8 × List UInt8} : (none : Option (List UInt8 × List UInt8)).map f = none := rfl
/-- What is read of l where v was read already and the rest is r. -/
def onV (v : List UInt8) (o : Option (List UInt8 × List UInt8)) : Option (List UInt8 × List UInt8) := o.map fun p => (v ++ p.1, p.2)
theorem onV_step {v : List UInt8} {c : UInt8} {o : Option (List UInt8 × List UInt8)} : onV v (o.map fun p => (c :: p.1, p.2)) = onV (v ++ [c]) o := by
  cases o <;> simp [onV]
theorem dropAt {l : List UInt8} {k : Nat} {c : UInt8} (h : l[k]? = some c) : l.drop k = c :: l.drop (k + 1) := by
  obtain ⟨hk, rfl⟩ := List.getElem?_eq_some_iff.1 h
  exact List.drop_eq_getElem_cons hk
theorem drop_two {l : List UInt8} {k : Nat} {c d : UInt8} (h1 : l[k]? = some c) (h2 : l[k + 1]? = some d) : l.drop k = c :: d :: l.drop (k + 2) := by
  rw [dropAt h1, dropAt h2]
theorem drop_last {l : List UInt8} {k : Nat} {c : UInt8} (h1 : l[k]? = some c) (h2 : k + 1 = l.length) : l.drop k = [c] := by
  rw [dropAt h1, h2, List.drop_length]

def RVPost (o : Option (List UInt8 × List UInt8)) (w : World) (e : Ending) (w' : World) : Prop :=
  ((∃ v r, o = some (v, r) ∧ e = .returned (.tuple #[.string ⟨v.toArray⟩, .string ⟨r.toArray⟩, .nilIface])) ∨ (o = none ∧ ∃ u, e = .returned (.tuple #[.string ⟨#[]⟩, .string ⟨#[]⟩, u]) ∧ FaultIs w' u)) ∧ Below w.heap.size w w'

set_option maxRecDepth 100000 in
set_option maxHeartbeats 6000000 in
theorem readValue_any (s : ByteArray) (w : World) (hs : s.size ≤ 100000) :
    Calls Tryz.prog 62 #[.string s] w (RVPost (rdV s.data.toList) w) := by
  go_enter Tryz.func62, Tryz.ntmps62
  go_wp2
  go_loopw [5, 6] (fun b i wr => ∃ (k : Nat) (v : List UInt8) (bv : Value), bv = b ∧ k ≤ s.size ∧ i = .int .i64 k ∧ v.length ≤ k ∧ Hid (rdV s.data.toList = onV v (rdV (s.data.toList.drop k))) ∧ Hid (Owned w.heap.size wr b v) ∧ Hid (Below w.heap.size w wr) ∧ w.heap.size ≤ wr.heap.size) (fun _ i _ => s.size - (intOf i).toNat)
  case atStart => exact ⟨0, [], _, rfl, Nat.zero_le _, rfl, Nat.le_refl _, Lib.hid (by rw [List.drop_zero]; unfold onV; cases rdV s.data.toList <;> rfl), Lib.hid (World.ownsRow_nil _ _ _ _), Lib.hid (Below.refl _ _), Nat.le_refl _⟩
  case round =>
    obtain ⟨k, v, bv, rfl, hk, rfl, hvk, HR, HO, HB, hBr⟩ := hrel
    have HL1 := Lib.hid (show v.length + 1 ≤ 1000000 by omega)
    by_cases hlt : k < s.size
    · obtain ⟨c, hc, hcl⟩ := data_at s k hlt
      have HCL := Lib.hid hcl
      clear hcl
      have hlt' : (k : Int) < (s.size : Int) := by omega
      have hq : (c.toNat : Int) ≤ 255 := by have := c.toNat_lt; omega
      by_cases h34 : c = 34
      · subst h34
        have HE := Lib.hid (show rdV s.data.toList = some (v, s.data.toList.drop k) by
          rw [HR.out, dropAt HCL.out, rdV_quote]
          simp [onV])
        have HX := Lib.hid (show s.extract k s.size = ⟨(s.data.toList.drop k).toArray⟩ from ba_eq (Lib.extract_to_end _ _))
        obtain ⟨A, cap, rfl, hcv0⟩ := owned_text HO.out
        have hcv : ∀ n, (convert 66 9 (.slice A v.length cap)).run Tryz.prog (wr.drewN n) = .ok (.string ⟨v.toArray⟩) (wr.drewN n) := fun n => by
          have h1 : Owned w.heap.size (wr.drewN n) (.slice A v.length cap) v := HO.out
          obtain ⟨A', cap', e, h2⟩ := owned_text h1
          cases e
          exact h2
        clear hcv0
        go_wp2
        go_quiet (fail)
        go_wp2
        go_ret3
        rw [HX.out]
        exact ⟨.inl ⟨v, _, HE.out, rfl⟩, below_drewN HB.out _⟩
      have n34 : ((c.toNat : Int) == 34) = false := byte_ne h34
      by_cases h10 : c = 10
      · subst h10
        have HE := Lib.hid (show rdV s.data.toList = none by
          rw [HR.out, dropAt HCL.out, rdV_lf]
          simp [onV])
        go_wp2
        go_ret3
        exact ⟨.inr ⟨HE.out, _, rfl, FaultIs.here (by simp) (n := 0) rfl⟩, HB.out.trans (below_alloc hBr _)⟩
      have n10 : ((c.toNat : Int) == 10) = false := byte_ne h10
      by_cases h92 : c = 92
      · subst h92
        clear h34 h10
        by_cases hl2 : k + 1 < s.size
        · obtain ⟨d, hd, hdl⟩ := data_at s (k + 1) hl2
          have HD := Lib.hid hdl
          clear hdl
          have hl2' : (k : Int) + 1 < (s.size : Int) := by omega
          have hl3' : ((k : Int) + 1 == (s.size : Int)) = false := by simp; omega
          have hl0 : (0 : Int) ≤ (k : Int) + 1 := by omega
          by_cases g1 : d = 110
          · subst g1
            have HN := Lib.hid (show rdV s.data.toList = onV (v ++ [10]) (rdV (s.data.toList.drop (k + 2))) by
              rw [HR.out, drop_two HCL.out HD.out, rdV_slash, if_pos rfl, onV_step])
            have HC := Lib.hid (fun W => unescaped_n W)
            go_wp2_with (first | (go_at_call 80; refine (Hid.out HC _).mono ?_; rintro e w' ⟨rfl, rfl⟩) | (at_builtin; refine wpList_append_bytes rfl (.tmp 59) (.tmp 61) rfl w.heap.size bv v rfl (HO.out.alloc _) (wr.heap.size + 1) (some ⟨wr.heap.size, 0, none⟩) [10] 1 rfl (breads_one _ _ _ _ rfl) (fun h => by cases h) HL1.out (le_alloc hBr _) ?_; intro v1 w1 hown1 hb1; have HO1 := Lib.hid hown1; have HB1 := Lib.hid ((below_alloc hBr _).trans hb1); have hBr1 := Nat.le_trans hBr HB1.out.size; clear hown1 hb1))
            have HG := Lib.hid (HB.out.trans HB1.out)
            go_roundw
            case rel => exact ⟨k + 2, v ++ [10], v1, rfl, by omega, by go_num, by simp; omega, HN, HO1, HG, hBr1⟩
            case measure => simp [intOf] <;> omega
          by_cases g2 : d = 92 ∨ d = 34
          · have HN := Lib.hid (show rdV s.data.toList = onV (v ++ [d]) (rdV (s.data.toList.drop (k + 2))) by
              rw [HR.out, drop_two HCL.out HD.out, rdV_slash, if_neg g1, if_pos g2, onV_step])
            have HC := Lib.hid (fun W => unescaped_same d W g2)
            clear g1 g2
            go_wp2_with (first | (go_at_call 80; refine (Hid.out HC _).mono ?_; rintro e w' ⟨rfl, rfl⟩) | (at_builtin; refine wpList_append_bytes rfl (.tmp 59) (.tmp 61) rfl w.heap.size bv v rfl (HO.out.alloc _) (wr.heap.size + 1) (some ⟨wr.heap.size, 0, none⟩) [d] 1 rfl (breads_one _ _ _ _ rfl) (fun h => by cases h) HL1.out (le_alloc hBr _) ?_; intro v1 w1 hown1 hb1; have HO1 := Lib.hid hown1; have HB1 := Lib.hid ((below_alloc hBr _).trans hb1); have hBr1 := Nat.le_trans hBr HB1.out.size; clear hown1 hb1))
            have HG := Lib.hid (HB.out.trans HB1.out)
            go_roundw
            case rel => exact ⟨k + 2, v ++ [d], v1, rfl, by omega, by go_num, by simp; omega, HN, HO1, HG, hBr1⟩
            case measure => simp [intOf] <;> omega
          · have HE := Lib.hid (show rdV s.data.toList = none by
              rw [HR.out, drop_two HCL.out HD.out, rdV_slash, if_neg g1, if_neg g2]
              simp [onV])
            have HC := Lib.hid (fun W => unescaped_no d W g1 (fun h => g2 (.inl h)) (fun h => g2 (.inr h)))
            clear g1 g2
            go_wp2_with (go_at_call 80; refine (Hid.out HC _).mono ?_; rintro e w' ⟨rfl, rfl⟩)
            go_ret3
            exact ⟨.inr ⟨HE.out, _, rfl, FaultIs.here (by simp) (n := 0) rfl⟩, HB.out.trans (below_alloc hBr _)⟩
        · have hl3' : ((k : Int) + 1 == (s.size : Int)) = true := by simp; omega
          have HE := Lib.hid (show rdV s.data.toList = none by
            rw [HR.out, drop_last HCL.out (by rw [← Lib.size_eq]; omega)]
            simp [onV, rdV])
          go_wp2
          go_ret3
          exact ⟨.inr ⟨HE.out, _, rfl, FaultIs.here (by simp) (n := 0) rfl⟩, HB.out.trans (below_alloc hBr _)⟩
      have n92 : ((c.toNat : Int) == 92) = false := byte_ne h92
      have HN := Lib.hid (show rdV s.data.toList = onV (v ++ [c]) (rdV (s.data.toList.drop (k + 1))) by
        rw [HR.out, dropAt HCL.out, rdV_other _ h34 h10 h92, onV_step])
      clear h34 h10 h92
      go_wp2_with (at_builtin; refine wpList_append_bytes rfl (.tmp 59) (.tmp 61) rfl w.heap.size bv v rfl (HO.out.alloc _) (wr.heap.size + 1) (some ⟨wr.heap.size, 0, none⟩) [c] 1 rfl (breads_one _ _ _ _ rfl) (fun h => by cases h) HL1.out (le_alloc hBr _) ?_; intro v1 w1 hown1 hb1; have HO1 := Lib.hid hown1; have HB1 := Lib.hid ((below_alloc hBr _).trans hb1); have hBr1 := Nat.le_trans hBr HB1.out.size; clear hown1 hb1)
      have HG := Lib.hid (HB.out.trans HB1.out)
      go_roundw
      case rel => exact ⟨k + 1, v ++ [c], v1, rfl, by omega, by go_num, by simp; omega, HN, HO1, HG, hBr1⟩
      case measure => simp [intOf] <;> omega
    · have hge : decide ((k : Int) < (s.size : Int)) = false := by simp; omega
      have HE := Lib.hid (show rdV s.data.toList = some (v, []) by
        rw [HR.out, List.drop_eq_nil_of_le (by rw [← Lib.size_eq]; omega)]
        simp [onV, rdV])
      obtain ⟨A, cap, rfl, hcv⟩ := owned_text HO.out
      go_wp2
      go_ret3
      exact ⟨.inl ⟨v, [], HE.out, rfl⟩, HB.out⟩
end Go.Proofs.YtpdmmnhmnmlogaaGreat
