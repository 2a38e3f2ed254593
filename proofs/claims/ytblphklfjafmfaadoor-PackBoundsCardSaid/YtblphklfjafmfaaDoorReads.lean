/- What was put is read as it was: the document's bytes, and the program's readers where all is well. -/
import Derived.Test.YtblphklfjafmfaaDoorPutV
import Derived.Test.YtblphklfjafmfaaDoorRead
import Derived.Lib.AppendStr
namespace Go.Proofs.YtblphklfjafmfaaDoor
open Go.RowKit

theorem readG_put (j i acc m : Nat) (r : List UInt8) (hij : i + j = 9) (hm : m < 128 ^ (j + 1)) (h64 : m * 128 ^ i < 18446744073709551616) (h0 : 0 < i → 0 < m) :
    readG i acc (putK j m ++ r) = .inl (acc + m * 128 ^ i, i + (putK j m).length) := by
  induction j generalizing i acc m with
  | zero =>
    obtain rfl : i = 9 := by omega
    have h1 : m ≤ 1 := by
      rcases Nat.lt_or_ge m 2 with h | h
      · omega
      · have : 2 * 128 ^ 9 ≤ m * 128 ^ 9 := Nat.mul_le_mul_right _ h
        omega
    have hc : (UInt8.ofNat m).toNat = m := by rw [UInt8.toNat_ofNat']; omega
    show readG 9 acc (UInt8.ofNat m :: r) = _
    rw [readG_cons, hc, if_neg (by omega), if_neg (by omega), if_pos (by omega)]
    rfl
  | succ j ih =>
    by_cases hs : m < 128
    · have hc : (UInt8.ofNat m).toNat = m := by rw [UInt8.toNat_ofNat']; omega
      rw [putK_small _ _ hs]
      show readG i acc (UInt8.ofNat m :: r) = _
      rw [readG_cons, hc, if_neg (by omega), if_neg (by omega), if_pos hs]
      rfl
    · have hc : (UInt8.ofNat (m % 128 + 128)).toNat = m % 128 + 128 := by rw [UInt8.toNat_ofNat']; omega
      rw [putK_big _ _ hs, List.cons_append, readG_cons, hc, if_neg (by omega), if_neg (by omega), if_neg (by omega)]
      have e : m = 128 * (m / 128) + m % 128 := by omega
      have hq : m / 128 * 128 ^ (i + 1) ≤ m * 128 ^ i := by
        rw [Nat.pow_succ, ← Nat.mul_assoc, Nat.mul_right_comm]
        exact Nat.mul_le_mul_right _ (by omega)
      rw [ih (i + 1) _ (m / 128) (by omega) (by rw [Nat.pow_succ] at hm; omega) (by omega) (fun _ => by omega)]
      congr 1
      rw [List.length_cons]
      refine Prod.ext ?_ (by simp only; omega)
      show acc + (m % 128 + 128 - 128) * 128 ^ i + m / 128 * 128 ^ (i + 1) = acc + m * 128 ^ i
      rw [Nat.add_sub_cancel, Nat.pow_succ, ← Nat.mul_assoc, Nat.mul_right_comm, Nat.add_assoc, ← Nat.add_mul]
      congr 2
      omega
theorem read_put (n : Nat) (r : List UInt8) (hn : n < 18446744073709551616) : readG 0 0 (putL n ++ r) = .inl (n, (putL n).length) := by
  have := readG_put 9 0 0 n r rfl (by omega) (by omega) (fun h => by omega)
  rw [show putL n = putK 9 n from rfl, this]
  simp

set_option maxRecDepth 100000 in
set_option maxHeartbeats 800000 in
theorem rput_any (n : Nat) (w : World) (hn : n < 18446744073709551616) :
    Calls Tryd.prog 9 #[.int .u64 n] w (Gives w.heap.size w (putL n)) := by
  obtain ⟨i0, hi, hz0, hz1, hz2⟩ := info_parts Tryd.infoU8
  have HPL := Lib.hid (putL_len n)
  go_enter Tryd.func9, Tryd.ntmps9
  go_wp2
  go_loopw [0, 3] (fun x b wr => ∃ (m j : Nat) (l' : List UInt8) (bv : Value), bv = b ∧ x = .int .u64 m ∧ m < 18446744073709551616 ∧ m < 128 ^ (j + 1) ∧ j ≤ 9 ∧ Hid (l' ++ putK j m = putL n) ∧ Hid (Owned w.heap.size wr b l') ∧ Hid (Below w.heap.size w wr)) (fun x _ _ => (intOf x).toNat)
  case atStart => exact ⟨n, 9, [], _, rfl, rfl, hn, by omega, Nat.le_refl _, Lib.hid rfl, Lib.hid (World.ownsRow_nil _ _ _ _), Lib.hid (Below.refl _ _)⟩
  case round =>
    obtain ⟨m, j, l', bv, rfl, rfl, hm, hmj, hj, HL, HO, HB⟩ := hrel
    have hBr := HB.out.size
    have HOW := Lib.hid (show wr.ownsRow w.heap.size 5 1 bv l'.length (l'.map bcell) from HO.out)
    have HLEN := Lib.hid (show l'.length + (putK j m).length = (putL n).length by rw [← map_append_len, HL.out])
    have HC3 := Lib.hid (show l'.length + 1 ≤ maxLen by have := HLEN.out; have := HPL.out; have := putK_len j m; unfold maxLen; omega)
    have HC4 := Lib.hid (show (l'.length + 1) * 1 ≤ 140737488355328 by have := HLEN.out; have := HPL.out; have := putK_len j m; omega)
    have HC5 := Lib.hid (fun (o : Obj) => show w.heap.size ≤ (wr.alloc o).heap.size by simp; omega)
    by_cases hlt : m < 128
    · have HCC := Lib.hid (byte_of m hlt)
      go_wp2_with (at_builtin; refine wpList_append_own _ rfl _ _ 22 rfl w.heap.size 5 i0 (.int .u8 0) 1 1 Tryd.underlying22 hi hz0 hz1 hz2 rfl (by decide) _ _ _ rfl (HOW.out.alloc _) ⟨wr.heap.size, 0, none⟩ 1 1 [.int .u8 (m : Int)] rfl rfl (one_cell _ _ _) (one_one _) HC3.out HC4.out (HC5.out _) ?_; intro v' w1 hown' hgrow _)
      have HN := Lib.hid (show Owned w.heap.size w1 v' (putL n) by
        rw [← HL.out, putK_small j m hlt]
        unfold Owned
        rw [← map_snoc l' _ _ HCC.out, map_append_len]
        exact hown')
      have HG := Lib.hid (show Below w.heap.size w w1 from (((HB.out.alloc hBr _)).grown hgrow (by simp; omega) (fun k hk => HO.out.grows k hk)))
      clear hown' hgrow
      go_wp2
      go_ret
      exact ⟨v', rfl, HN.out, HG.out⟩
    · obtain ⟨j, rfl⟩ : ∃ j', j = j' + 1 := ⟨j - 1, by
        rcases Nat.eq_zero_or_pos j with h | h
        · subst h; simp at hmj; omega
        · omega⟩
      have HCC := Lib.hid (show (m : Int) % 128 + 128 = (((UInt8.ofNat (m % 128 + 128)).toNat : Nat) : Int) by rw [UInt8.toNat_ofNat']; omega)
      go_wp2_with (at_builtin; refine wpList_append_own _ rfl _ _ 22 rfl w.heap.size 5 i0 (.int .u8 0) 1 1 Tryd.underlying22 hi hz0 hz1 hz2 rfl (by decide) _ _ _ rfl (HOW.out.alloc _) ⟨wr.heap.size, 0, none⟩ 1 1 [.int .u8 ((m : Int) % 128 + 128)] rfl rfl (one_cell _ _ _) (one_one _) HC3.out HC4.out (HC5.out _) ?_; intro v' w1 hown' hgrow _)
      have HN := Lib.hid (show Owned w.heap.size w1 v' (l' ++ [UInt8.ofNat (m % 128 + 128)]) by
        unfold Owned
        rw [← map_snoc l' _ _ HCC.out, map_append_len]
        exact hown')
      have HG := Lib.hid (show Below w.heap.size w w1 from (((HB.out.alloc hBr _)).grown hgrow (by simp; omega) (fun k hk => HO.out.grows k hk)))
      have HE := Lib.hid (show (l' ++ [UInt8.ofNat (m % 128 + 128)]) ++ putK j (m / 128) = putL n by
        rw [← HL.out, putK_big j m hlt, List.append_assoc]
        rfl)
      clear hown' hgrow
      go_wp2
      go_roundw
      case rel => exact ⟨m / 128, j, _, v', rfl, by go_num, by omega, by rw [Nat.pow_succ] at hmj; omega, by omega, HE, HN, HG⟩
      case measure => simp [intOf]; omega

set_option maxHeartbeats 400000 in
theorem rsigned_any (n : Int) (w : World) (h0 : -9223372036854775808 ≤ n) (h1 : n ≤ 9223372036854775807) :
    Calls Tryd.prog 10 #[.int .i64 n] w fun e w' => e = .returned (.int .u64 (foldN n : Nat)) ∧ w = w' := by
  by_cases hn : n < 0
  · go_enter Tryd.func10, Tryd.ntmps10
    go_wp2
    go_ret
    refine ⟨ret_int' ?_, rfl⟩
    unfold foldN
    rw [if_pos hn]
    omega
  · go_enter Tryd.func10, Tryd.ntmps10
    go_wp2
    go_ret
    refine ⟨ret_int' ?_, rfl⟩
    unfold foldN
    rw [if_neg (by omega)]
    omega
end Go.Proofs.YtblphklfjafmfaaDoor
