/- A number's hexadecimal digits: what strconv reads of them. -/
import Derived.Test.YtlelemjmknbnaaaGreatDoorBodyLine
import Derived.Deep.CutBlock
namespace Go.Proofs.YtlelemjmknbnaaaGreatDoor
open Go.RowKit

def hexC (n : Nat) : Bool := decide (48 ≤ n ∧ n ≤ 57) || decide (97 ≤ n ∧ n ≤ 102) || decide (65 ≤ n ∧ n ≤ 70)
theorem hex_in : ∀ n : Fin 256, hexL.contains (UInt8.ofNat n.val) = hexC n.val := by decide +kernel
theorem hex_is (c : UInt8) : hexL.contains c = hexC c.toNat := by
  have h := hex_in ⟨c.toNat, c.toNat_lt⟩
  simpa using h
theorem low_dig : ∀ n : Fin 256, (97 ≤ n.val ∧ n.val ≤ 102 → bits .or .u8 (n.val : Int) 32 = (n.val : Int)) ∧ (65 ≤ n.val ∧ n.val ≤ 70 → bits .or .u8 (n.val : Int) 32 = (n.val : Int) + 32) := by decide +kernel
theorem low_of (c : UInt8) : (97 ≤ c.toNat ∧ c.toNat ≤ 102 → bits .or .u8 (c.toNat : Int) 32 = (c.toNat : Int)) ∧ (65 ≤ c.toNat ∧ c.toNat ≤ 70 → bits .or .u8 (c.toNat : Int) 32 = (c.toNat : Int) + 32) := low_dig ⟨c.toNat, c.toNat_lt⟩
theorem lower_any (q x : Int) (w : World) (h : bits .or .u8 q 32 = x) :
    Calls Tryz.prog 102 #[.int .u8 q] w fun e w' => e = .returned (.int .u8 x) ∧ w = w' := by
  go_enter Tryz.func102, Tryz.ntmps102
  go_wp2
  go_ret
  exact ⟨rfl, rfl⟩
theorem hexN_snoc (l : List UInt8) (c : UInt8) : hexN (l ++ [c]) = 16 * hexN l + hexV c := by
  unfold hexN
  rw [List.foldl_append]
  rfl
theorem hexN_take {l : List UInt8} {k : Nat} {c : UInt8} (h : l[k]? = some c) : hexN (l.take (k + 1)) = 16 * hexN (l.take k) + hexV c := by
  rw [List.take_add_one, h]
  exact hexN_snoc _ _
theorem hexV_lt {c : UInt8} (h : hexC c.toNat = true) : hexV c < 16 := by
  unfold hexC at h
  simp only [Bool.or_eq_true, decide_eq_true_eq] at h
  unfold hexV
  split
  · omega
  · split <;> omega
set_option maxRecDepth 100000 in
set_option maxHeartbeats 4000000 in
theorem parseU_any (s : ByteArray) (w : World) (h0 : 0 < s.size) (h8 : s.size ≤ 8) (hx : ∀ c ∈ s.data.toList, hexC c.toNat = true) :
    Calls Tryz.prog 91 #[.string s, .int .i64 16, .int .i64 64] w fun e w' => e = .returned (.tuple #[.int .u64 (hexN s.data.toList : Int), .nilIface]) ∧ Below w.heap.size w w' := by
  obtain ⟨cap, w1, hcv, hm, hb, hc1, hc2⟩ := conv_mut w s (by unfold maxLen; omega)
  have HM := Lib.hid hm
  have HB := Lib.hid hb
  have hc1' : (s.size : Int) ≤ (cap : Int) := by omega
  have HZ := Lib.hid (Lib.size_eq s)
  have he2 : s.toList.isEmpty = false := by
    rw [Lib.toList_data]
    have hz := Lib.size_eq s
    cases hd : s.data.toList with
    | nil =>
      rw [hd] at hz
      change s.size = 0 at hz
      omega
    | cons a l => rfl
  have HX := Lib.hid hx
  clear hm hb hc2 hx
  have hw0 : IntKind.u64.wrap 18446744073709551616 = 0 := by decide
  have hw1 : IntKind.u64.wrap (0 - 1) = 18446744073709551615 := by decide
  have hw2 : IntKind.u64.wrap (-1) = 18446744073709551615 := by decide
  go_enter Tryz.func91, Tryz.ntmps91
  go_wp2
  clear hw0 hw1 hw2
  go_loopw [12, 13, 101] (fun uv nv iv wr => ∃ k : Nat, k ≤ s.size ∧ uv = .bool false ∧ iv = .int .i64 k ∧ nv = .int .u64 (hexN (s.data.toList.take k) : Int) ∧ hexN (s.data.toList.take k) < 16 ^ k ∧ w1 = wr) (fun _ _ iv _ => s.size - (intOf iv).toNat)
  case atStart => exact ⟨0, Nat.zero_le _, rfl, rfl, rfl, by simp [hexN], rfl⟩
  case round =>
    obtain ⟨k, hk, rfl, rfl, rfl, hm, rfl⟩ := hrel
    by_cases hlt : k < s.size
    · obtain ⟨c, hc, hcl⟩ := data_at s k hlt
      have hlt' : (k : Int) < (s.size : Int) := by omega
      obtain ⟨hcell, -⟩ := HM.out.cell k c hcl
      have HCL := Lib.hid hcl
      have hh := HX.out c (List.mem_of_getElem? hcl)
      have HLW := Lib.hid (low_of c)
      have HT := Lib.hid (hexN_take hcl)
      have HV := Lib.hid (hexV_lt hh)
      obtain ⟨M, hM⟩ : ∃ M, M = hexN (s.data.toList.take k) := ⟨_, rfl⟩
      rw [← hM] at hm ⊢
      have HMM := Lib.hid hM
      have h7 : M < 268435456 := by
        have h2 : 16 ^ k ≤ 16 ^ 7 := Nat.pow_le_pow_right (by decide) (by omega)
        have h3 : (16 : Nat) ^ 7 = 268435456 := by decide
        omega
      have HP : Hid (16 * M + hexV c < 16 ^ (k + 1)) := Lib.hid (by rw [Nat.pow_succ]; have := HV.out; omega)
      clear hc hcl hM
      obtain ⟨q, hq⟩ : ∃ q : Int, q = (c.toNat : Int) := ⟨_, rfl⟩
      unfold bcell at hcell
      rw [← hq] at hcell
      have HQ := Lib.hid hq
      have hor : (48 ≤ q ∧ q ≤ 57) ∨ (97 ≤ q ∧ q ≤ 102) ∨ (65 ≤ q ∧ q ≤ 70) := by
        unfold hexC at hh
        simp only [Bool.or_eq_true, decide_eq_true_eq] at hh
        omega
      clear hh hq
      obtain ⟨N, hN⟩ : ∃ N : Int, N = (M : Int) := ⟨_, rfl⟩
      rw [← hN]
      have HN := Lib.hid hN
      have n0 : 0 ≤ N := by omega
      have n7 : N < 268435456 := by omega
      have HM7 := Lib.hid h7
      clear hN h7 hm
      rcases hor with ⟨q1, q2⟩ | ⟨q1, q2⟩ | ⟨q1, q2⟩
      · have HE : Hid (hexV c = (q - 48).toNat) := Lib.hid (by unfold hexV; have := HQ.out; rw [if_pos (by omega)]; omega)
        have g1 : decide (16 ≤ q - 48) = false := by simp; omega
        have g2 : decide (1152921504606846976 ≤ N) = false := by simp; omega
        have g3 : decide (N * 16 + (q - 48) < N * 16) = false := by simp; omega
        have g4 : decide (18446744073709551615 < N * 16 + (q - 48)) = false := by simp; omega
        have k1 : IntKind.u64.wrap (N * 16) = N * 16 := by rw [IntKind.wrap_u64]; omega
        have k2 : IntKind.u64.wrap (q - 48) = q - 48 := by rw [IntKind.wrap_u64]; omega
        have k3 : IntKind.u64.wrap (N * 16 + (q - 48)) = N * 16 + (q - 48) := by rw [IntKind.wrap_u64]; omega
        go_wp2
        go_round
        case rel => exact ⟨k + 1, by omega, rfl, by go_num, by rw [HT.out, ← HMM.out]; have := HN.out; have := HE.out; congr 1; omega, by rw [HT.out, ← HMM.out]; exact HP.out, trivial⟩
        case measure => simp [intOf] <;> omega
      · have HE : Hid (hexV c = (q - 97 + 10).toNat) := Lib.hid (by unfold hexV; have := HQ.out; rw [if_neg (by omega), if_neg (by omega)]; omega)
        have HLA := Lib.hid (fun W => lower_any q (q) W (by have := HQ.out; rw [this]; exact (HLW.out.1 (by omega)).trans (by omega)))
        have gz : decide (q ≤ 57) = false := by simp; omega
        have g1 : decide (16 ≤ q - 97 + 10) = false := by simp; omega
        have g2 : decide (1152921504606846976 ≤ N) = false := by simp; omega
        have g3 : decide (N * 16 + (q - 97 + 10) < N * 16) = false := by simp; omega
        have g4 : decide (18446744073709551615 < N * 16 + (q - 97 + 10)) = false := by simp; omega
        have k1 : IntKind.u64.wrap (N * 16) = N * 16 := by rw [IntKind.wrap_u64]; omega
        have k2 : IntKind.u64.wrap (q - 97 + 10) = q - 97 + 10 := by rw [IntKind.wrap_u64]; omega
        have k3 : IntKind.u64.wrap (N * 16 + (q - 97 + 10)) = N * 16 + (q - 97 + 10) := by rw [IntKind.wrap_u64]; omega
        go_wp2_with (go_at_call 102; refine (HLA.out _).mono ?_; rintro e w2 ⟨rfl, rfl⟩)
        go_round
        case rel => exact ⟨k + 1, by omega, rfl, by go_num, by rw [HT.out, ← HMM.out]; have := HN.out; have := HE.out; congr 1; omega, by rw [HT.out, ← HMM.out]; exact HP.out, trivial⟩
        case measure => simp [intOf] <;> omega
      · have HE : Hid (hexV c = (q + 32 - 97 + 10).toNat) := Lib.hid (by unfold hexV; have := HQ.out; rw [if_neg (by omega), if_pos (by omega)]; omega)
        have HLA := Lib.hid (fun W => lower_any q (q + 32) W (by have := HQ.out; rw [this]; exact (HLW.out.2 (by omega)).trans (by omega)))
        have gz : decide (q ≤ 57) = false := by simp; omega
        have g1 : decide (16 ≤ q + 32 - 97 + 10) = false := by simp; omega
        have g2 : decide (1152921504606846976 ≤ N) = false := by simp; omega
        have g3 : decide (N * 16 + (q + 32 - 97 + 10) < N * 16) = false := by simp; omega
        have g4 : decide (18446744073709551615 < N * 16 + (q + 32 - 97 + 10)) = false := by simp; omega
        have k1 : IntKind.u64.wrap (N * 16) = N * 16 := by rw [IntKind.wrap_u64]; omega
        have k2 : IntKind.u64.wrap (q + 32 - 97 + 10) = q + 32 - 97 + 10 := by rw [IntKind.wrap_u64]; omega
        have k3 : IntKind.u64.wrap (N * 16 + (q + 32 - 97 + 10)) = N * 16 + (q + 32 - 97 + 10) := by rw [IntKind.wrap_u64]; omega
        go_wp2_with (go_at_call 102; refine (HLA.out _).mono ?_; rintro e w2 ⟨rfl, rfl⟩)
        go_round
        case rel => exact ⟨k + 1, by omega, rfl, by go_num, by rw [HT.out, ← HMM.out]; have := HN.out; have := HE.out; congr 1; omega, by rw [HT.out, ← HMM.out]; exact HP.out, trivial⟩
        case measure => simp [intOf] <;> omega
    · have hge : decide ((k : Int) < (s.size : Int)) = false := by simp; omega
      have HK := Lib.hid (show s.data.toList.take k = s.data.toList from List.take_of_length_le (by rw [← HZ.out]; omega))
      go_wp2
      go_ret2
      rw [HK.out]
      exact ⟨rfl, HB.out⟩
end Go.Proofs.YtlelemjmknbnaaaGreatDoor
