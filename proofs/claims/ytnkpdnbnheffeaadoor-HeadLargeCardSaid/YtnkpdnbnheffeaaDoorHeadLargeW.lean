/- HeadLarge: the walk. -/
import Derived.Test.YtnkpdnbnheffeaaDoorHeadParsesW
import Derived.Test.YtnkpdnbnheffeaaDoorFullText
namespace Go.Proofs.YtnkpdnbnheffeaaDoor
open Go.RowKit

set_option maxRecDepth 100000 in
set_option maxHeartbeats 1000000 in
theorem large_early (F E R : Int) (w : World) (hm : MX w) (h : F < 0 ∨ F > 70 ∨ E < 0 ∨ E > 200 ∨ R < 0 ∨ R > 9000) :
    Calls Tryd.prog 4 #[.int .i64 F, .int .i64 E, .int .i64 R] w (FinP w) := by
  have HK := Lib.hid (known_yes w hm)
  clear hm
  have hh := h
  obtain ⟨a1, h1⟩ : ∃ b, b = decide (F < 0) := ⟨_, rfl⟩
  obtain ⟨a2, h2⟩ : ∃ b, b = decide (70 < F) := ⟨_, rfl⟩
  obtain ⟨a3, h3⟩ : ∃ b, b = decide (E < 0) := ⟨_, rfl⟩
  obtain ⟨a4, h4⟩ : ∃ b, b = decide (200 < E) := ⟨_, rfl⟩
  obtain ⟨a5, h5⟩ : ∃ b, b = decide (R < 0) := ⟨_, rfl⟩
  obtain ⟨a6, h6⟩ : ∃ b, b = decide (9000 < R) := ⟨_, rfl⟩
  have key : (a1 || a2 || a3 || a4 || a5 || a6) = true := by
    subst h1 h2 h3 h4 h5 h6
    simp only [Bool.or_eq_true, decide_eq_true_eq]
    omega
  have e1 := h1.symm
  have e2 := h2.symm
  have e3 := h3.symm
  have e4 := h4.symm
  have e5 := h5.symm
  have e6 := h6.symm
  clear h hh h1 h2 h3 h4 h5 h6
  cases a1 <;> cases a2 <;> cases a3 <;> cases a4 <;> cases a5 <;> cases a6 <;> first | (exact absurd key (by decide)) | skip
  all_goals
    clear key
    go_enter Tryd.func4, Tryd.ntmps4
    go_wp2_with fail
    refine (Hid.out HK).mono ?_
    rintro e w3 ⟨rfl, hb3⟩
    go_wp2
    go_ret
    exact ⟨rfl, hb3⟩
def ahead0 : List UInt8 := [72, 84, 84, 80, 47, 49, 46, 49, 32, 50, 48, 48, 32, 79, 75, 13, 10]
set_option maxRecDepth 100000 in
set_option maxHeartbeats 4000000 in
theorem large_main (F E R : Nat) (w : World) (hm : MX w) (hF : F ≤ 70) (hE : E ≤ 200) (hR : R ≤ 9000) :
    Calls Tryd.prog 4 #[.int .i64 (F : Int), .int .i64 (E : Int), .int .i64 (R : Int)] w (FinP w) := by
  have HPW : Hid (∀ (W : World) (v : Value) (l : List UInt8), l.length ≤ 1000000 → MX W → Owned w.heap.size W v l → Calls Tryd.prog 8 #[v] W fun e w' => e = .returned (PsV (parseL l)) ∧ Below W.heap.size W w') := Lib.hid (fun W v l hl hmx ho => by
    obtain ⟨A3, c3, hv, hr3, hc3, hn3⟩ := ho.sl
    rw [hv]
    exact parse_any hr3 hc3 hn3 hl hmx)
  have HRP : Hid (∀ (W : World) (v : Value) (l : List UInt8), l.length ≤ 1000000 → Owned w.heap.size W v l → Calls Tryd.prog 9 #[v] W fun e w' => e = .returned (PsV (parseL l)) ∧ Below W.heap.size W w') := Lib.hid (fun W v l hl ho => by
    obtain ⟨A3, c3, hv, hr3, hc3, hn3⟩ := ho.sl
    rw [hv]
    exact rparse_any hr3 hc3 hn3 hl)
  have HK : Hid (∀ W, Below w.heap.size w W → Calls Tryd.prog 7 #[] W fun e w' => e = .returned (.bool true) ∧ Below W.heap.size W w') := Lib.hid (fun W hb => known_yes W (mx_up hm hb))
  have HMX := Lib.hid hm
  have b1 : decide ((F : Int) < 0) = false := by simp
  have b2 : decide (70 < (F : Int)) = false := by simp; omega
  have b3 : decide ((E : Int) < 0) = false := by simp
  have b4 : decide (200 < (E : Int)) = false := by simp; omega
  have b5 : decide ((R : Int) < 0) = false := by simp
  have b6 : decide (9000 < (R : Int)) = false := by simp; omega
  have hcs := conv_lit
  clear hm
  go_enter Tryd.func4, Tryd.ntmps4
  go_wp2
  clear hcs b1 b2 b3 b4 b5 b6
  go_loopw [7, 8] (fun v i wr => ∃ (k : Nat) (vv : Value) (l : List UInt8), vv = v ∧ k ≤ F ∧ i = .int .i64 k ∧ Hid (Own2 w.heap.size wr vv l ∧ l.length ≤ 17 + 207 * k) ∧ Hid (Below w.heap.size w wr)) (fun _ i _ => F - (intOf i).toNat)
  case atStart => exact ⟨0, _, ahead0, rfl, Nat.zero_le _, rfl, Lib.hid ⟨own2_lit _ w ahead0 _ _ _ rfl rfl, by decide⟩, Lib.hid (below_alloc (Nat.le_refl _) _)⟩
  case round =>
    obtain ⟨k, vv, l, rfl, hk, rfl, HO, HB⟩ := hrel
    by_cases hlt : k < F
    · have hlt' : (k : Int) < (F : Int) := by omega
      have HL5 := Lib.hid (show l.length + 5 ≤ 1000000 by have := HO.out.2; omega)
      go_wp2_with (at_builtin; refine wpList_append_text2 rfl (.tmp 47) (.const (.string ⟨#[88, 45, 65, 58, 32]⟩)) rfl w.heap.size vv l rfl HO.out.1 ⟨#[88, 45, 65, 58, 32]⟩ rfl (by decide) HL5.out HB.out.size ?_; intro v1 w1 hown1 hb1; have HO1 := Lib.hid hown1; have HB1 := Lib.hid (HB.out.trans hb1); clear hown1 hb1)
      have HO1' : Hid (∃ l1, Owned w.heap.size w1 v1 l1 ∧ l1.length ≤ 22 + 207 * k) := Lib.hid ⟨_, HO1.out, by have := HO.out.2; simp; omega⟩
      clear HO1 HL5
      go_loopw [7, 9] (fun u j wq => ∃ (t : Nat) (uu : Value) (m : List UInt8), uu = u ∧ t ≤ E ∧ j = .int .i64 t ∧ Hid (Owned w.heap.size wq uu m ∧ m.length ≤ 22 + 207 * k + t) ∧ Hid (Below w.heap.size w wq)) (fun _ j _ => E - (intOf j).toNat)
      case atStart =>
        obtain ⟨l1, ho1, hl1⟩ := HO1'.out
        exact ⟨0, _, l1, rfl, Nat.zero_le _, rfl, Lib.hid ⟨ho1, by omega⟩, HB1⟩
      case round =>
        obtain ⟨t, uu, m, rfl, ht, rfl, HOm, HBm⟩ := hrel
        by_cases htl : t < E
        · have htl' : (t : Int) < (E : Int) := by omega
          have HLm := Lib.hid (show m.length + [(118 : UInt8)].length ≤ 1000000 by have := HOm.out.2; simp; omega)
          go_wp2_with (at_builtin; refine wpList_append_bytes rfl (.tmp 54) (.tmp 55) rfl w.heap.size uu m rfl (HOm.out.1.alloc _) (wr.heap.size + 1) (some ⟨wr.heap.size, 0, none⟩) [118] 1 rfl (breads_one wr 118 118 _ rfl) (fun h => by cases h) HLm.out (le_alloc HBm.out.size _) ?_; intro v2 w2 hown2 hb2; have HO2 := Lib.hid hown2; have HB2 := Lib.hid ((HBm.out.alloc HBm.out.size (.cells #[.int .u8 118] 5)).trans hb2); clear hown2 hb2)
          go_round
          case rel => exact ⟨t + 1, v2, _, rfl, by omega, by go_num, Lib.hid ⟨HO2.out, by have := HOm.out.2; simp; omega⟩, HB2⟩
          case measure => simp [intOf] <;> omega
        · have hge : decide ((t : Int) < (E : Int)) = false := by simp; omega
          have HL2 := Lib.hid (show m.length + 2 ≤ 1000000 by have := HOm.out.2; omega)
          go_wp2_with (at_builtin; refine wpList_append_text rfl (.tmp 57) (.const (.string ⟨#[13, 10]⟩)) rfl w.heap.size uu m rfl HOm.out.1 ⟨#[13, 10]⟩ rfl HL2.out HBm.out.size ?_; intro v3 w3 hown3 hb3; have HO3 := Lib.hid hown3; have HB3 := Lib.hid (HBm.out.trans hb3); clear hown3 hb3)
          go_round
          case rel => exact ⟨k + 1, v3, _, rfl, by omega, by go_num, Lib.hid ⟨.inl HO3.out, by have := HOm.out.2; simp; omega⟩, HB3⟩
          case measure => simp [intOf] <;> omega
    · have hge : decide ((k : Int) < (F : Int)) = false := by simp; omega
      have HL4 := Lib.hid (show l.length + 4 ≤ 1000000 by have := HO.out.2; omega)
      have HLL := Lib.hid (show l.length ≤ 15000 by have := HO.out.2; omega)
      go_wp2_with (at_builtin; refine wpList_append_text2 rfl (.tmp 59) (.const (.string ⟨#[88, 45, 66, 58]⟩)) rfl w.heap.size vv l rfl HO.out.1 ⟨#[88, 45, 66, 58]⟩ rfl (by decide) HL4.out HB.out.size ?_; intro v1 w1 hown1 hb1; have HO1 := Lib.hid hown1; have HB1 := Lib.hid (HB.out.trans hb1); clear hown1 hb1)
      have HO1' : Hid (∃ l1, Owned w.heap.size w1 v1 l1 ∧ l1.length ≤ 15004) := Lib.hid ⟨_, HO1.out, by have := HLL.out; simp; omega⟩
      clear HO1 HO HB HL4 HLL hge hlt hk
      go_loopw [7, 10] (fun u j wq => ∃ (t : Nat) (uu : Value) (m : List UInt8), uu = u ∧ t ≤ R ∧ j = .int .i64 t ∧ Hid (Owned w.heap.size wq uu m ∧ m.length ≤ 15004 + t) ∧ Hid (Below w.heap.size w wq)) (fun _ j _ => R - (intOf j).toNat)
      case atStart =>
        obtain ⟨l1, ho1, hl1⟩ := HO1'.out
        exact ⟨0, _, l1, rfl, Nat.zero_le _, rfl, Lib.hid ⟨ho1, by omega⟩, HB1⟩
      case round =>
        obtain ⟨t, uu, m, rfl, ht, rfl, HOm, HBm⟩ := hrel
        by_cases htl : t < R
        · have htl' : (t : Int) < (R : Int) := by omega
          have HLm := Lib.hid (show m.length + [(32 : UInt8)].length ≤ 1000000 by have := HOm.out.2; simp; omega)
          go_wp2_with (at_builtin; refine wpList_append_bytes rfl (.tmp 66) (.tmp 67) rfl w.heap.size uu m rfl (HOm.out.1.alloc _) (wr.heap.size + 1) (some ⟨wr.heap.size, 0, none⟩) [32] 1 rfl (breads_one wr 32 32 _ rfl) (fun h => by cases h) HLm.out (le_alloc HBm.out.size _) ?_; intro v2 w2 hown2 hb2; have HO2 := Lib.hid hown2; have HB2 := Lib.hid ((HBm.out.alloc HBm.out.size (.cells #[.int .u8 32] 5)).trans hb2); clear hown2 hb2)
          go_round
          case rel => exact ⟨t + 1, v2, _, rfl, by omega, by go_num, Lib.hid ⟨HO2.out, by have := HOm.out.2; simp; omega⟩, HB2⟩
          case measure => simp [intOf] <;> omega
        · have hge : decide ((t : Int) < (R : Int)) = false := by simp; omega
          have HL8 := Lib.hid (show m.length + 8 ≤ 1000000 by have := HOm.out.2; omega)
          have HLM := Lib.hid (show m.length ≤ 30000 by have := HOm.out.2; omega)
          go_wp2_with (at_builtin; refine wpList_append_text rfl (.tmp 69) (.const (.string ⟨#[13, 10, 13, 10, 98, 111, 100, 121]⟩)) rfl w.heap.size uu m rfl HOm.out.1 ⟨#[13, 10, 13, 10, 98, 111, 100, 121]⟩ rfl HL8.out HBm.out.size ?_; intro v2 w2 hown2 hb2; have HO2 := Lib.hid hown2; have HB2 := Lib.hid (HBm.out.trans hb2); clear hown2 hb2)
          have HLX := Lib.hid (show (m ++ (⟨#[13, 10, 13, 10, 98, 111, 100, 121]⟩ : ByteArray).data.toList).length ≤ 1000000 by have := HLM.out; simp; omega)
          generalize m ++ (⟨#[13, 10, 13, 10, 98, 111, 100, 121]⟩ : ByteArray).data.toList = lX at HO2 HLX
          obtain ⟨ya, yb, yc, yd, ym, ye, hx⟩ := psv_form' (parseL lX)
          have g3 : (ya == ya) = true := by simp
          have g4 : (yb == yb) = true := by simp
          have g5 : (yc == yc) = true := by simp
          have g6 : (yd == yd) = true := by simp
          have g7 : (ym == ym) = true := by simp
          have g8 : (ye == ye) = true := by simp
          have HX := Lib.hid hx
          clear HOm HBm HL8 HLM hge htl ht HO1' HB1 hx
          refine (HPW.out w2 v2 lX HLX.out (mx_up HMX.out HB2.out) HO2.out).mono ?_
          rintro e w3 ⟨rfl, hb3⟩
          rw [HX.out]
          have HA3 := Lib.hid (heap_alloc_new w3 (.cells #[.int .i64 ya, .int .i64 yb, .bool yc, .bool yd] 25))
          have HB3 := Lib.hid ((HB2.out.trans (hb3.mono HB2.out.size)).alloc (Nat.le_trans HB2.out.size hb3.size) (.cells #[.int .i64 ya, .int .i64 yb, .bool yc, .bool yd] 25))
          have HO3 := Lib.hid ((HO2.out.below hb3).alloc (.cells #[.int .i64 ya, .int .i64 yb, .bool yc, .bool yd] 25))
          have HZ3 := Lib.hid (show w3.heap.size + 1 ≤ (w3.alloc (.cells #[.int .i64 ya, .int .i64 yb, .bool yc, .bool yd] 25)).heap.size by simp)
          clear hb3 HPW HO2 HB2
          go_wp2_with fail
          refine (HRP.out _ v2 lX HLX.out HO3.out).mono ?_
          rintro e w4 ⟨rfl, hb4⟩
          rw [HX.out]
          have hh4 := (hb4.block w3.heap.size (Nat.lt_of_succ_le HZ3.out)).trans HA3.out
          have HB4 := Lib.hid ((HB3.out.trans (hb4.mono HB3.out.size)).alloc (Nat.le_trans HB3.out.size hb4.size) (.cells #[.int .i64 ya, .int .i64 yb, .bool yc, .bool yd] 25))
          have hh5 := (heap_alloc_old w4 (.cells #[.int .i64 ya, .int .i64 yb, .bool yc, .bool yd] 25) (lt_of_block hh4)).trans hh4
          obtain ⟨c0, c1, c2', c3, -⟩ := read_cells hh5
          clear hb4 HRP hh4 hh5 HO3
          go_wp2_with (go_at_call 7; refine (HK.out _ HB4.out).mono ?_; rintro e w5 ⟨rfl, hb5⟩)
          go_ret
          exact ⟨rfl, HB4.out.trans (hb5.mono HB4.out.size)⟩
end Go.Proofs.YtnkpdnbnheffeaaDoor
