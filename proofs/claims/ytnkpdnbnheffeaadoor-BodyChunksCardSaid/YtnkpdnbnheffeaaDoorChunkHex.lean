/- The law's hexadecimal digits. -/
import Derived.Test.YtnkpdnbnheffeaaDoorChunkPlain
import Derived.Test.YtnkpdnbnheffeaaDoorHeadKnown
namespace Go.Proofs.YtnkpdnbnheffeaaDoor
open Go.RowKit

theorem hex_slice : ∀ n : Fin 16, (⟨#[48, 49, 50, 51, 52, 53, 54, 55, 56, 57, 97, 98, 99, 100, 101, 102]⟩ : ByteArray).extract n.val (n.val + 1) = ⟨#[digH n.val]⟩ := by decide +kernel
theorem bytes_snoc (c : UInt8) (l : List UInt8) : (⟨#[c]⟩ : ByteArray) ++ ⟨l.toArray⟩ = ⟨(c :: l).toArray⟩ := ba_eq (by simp)
def hexT (n : Nat) (s : List UInt8) : List UInt8 := if n = 0 ∧ s ≠ [] then s else hexS n ++ s
theorem hexT_step {n : Nat} {s : List UInt8} (h : 0 < n) : hexT n s = hexT (n / 16) (digH (n % 16) :: s) := by
  unfold hexT
  rw [if_neg (by omega)]
  by_cases h2 : n < 16
  · rw [if_pos ⟨by omega, by simp⟩, hexS_small h2, Nat.mod_eq_of_lt h2]
    rfl
  · rw [if_neg (by omega), hexS_big h2]
    simp
theorem hexT_le (n : Nat) (s : List UInt8) : s.length ≤ (hexT n s).length := by
  unfold hexT
  split
  · exact Nat.le_refl _
  · simp
theorem hexT_end {s : List UInt8} (h : s ≠ []) : hexT 0 s = s := if_pos ⟨rfl, h⟩
set_option maxRecDepth 100000 in
set_option maxHeartbeats 2000000 in
theorem hex_any (n : Nat) (w : World) (h0 : 0 < n) (hn : n ≤ 1000000) :
    Calls Tryd.prog 11 #[.int .i64 (n : Int)] w fun e w' => e = .returned (.string ⟨(hexS n).toArray⟩) ∧ w = w' := by
  have HG := Lib.hid (show hexT n [] = hexS n by unfold hexT; rw [if_neg (by simp)]; simp)
  have HGL := Lib.hid (hexS_len n 4 (by omega))
  generalize hexS n = g at HG HGL ⊢
  go_enter Tryd.func11, Tryd.ntmps11
  go_wp2
  go_loopw [0, 3] (fun nv sv wr => ∃ (m : Nat) (s : List UInt8), m ≤ 1000000 ∧ nv = .int .i64 (m : Int) ∧ sv = .string ⟨s.toArray⟩ ∧ Hid (hexT m s = g) ∧ (0 < m ∨ s ≠ []) ∧ w = wr) (fun nv _ _ => (intOf nv).toNat)
  case atStart => exact ⟨n, [], hn, rfl, rfl, HG, .inl h0, rfl⟩
  case round =>
    obtain ⟨m, s, hm, rfl, rfl, HT, hor, rfl⟩ := hrel
    by_cases h1 : 0 < m
    · have HS := Lib.hid ((hexT_step h1).symm.trans HT.out)
      have HX := Lib.hid (hex_slice ⟨m % 16, by omega⟩)
      change Hid ((⟨#[48, 49, 50, 51, 52, 53, 54, 55, 56, 57, 97, 98, 99, 100, 101, 102]⟩ : ByteArray).extract (m % 16) (m % 16 + 1) = ⟨#[digH (m % 16)]⟩) at HX
      have hmi : (0 : Int) < (m : Int) := by omega
      have hsl : s.length ≤ 5 := Nat.le_trans (hexT_le m s) (by rw [HT.out]; exact HGL.out)
      have hlen : ¬ 9223372036854775807 < min (m % 16 + 1) 16 - m % 16 + s.length := by omega
      clear hor hsl
      go_wp2
      go_round
      case rel => exact ⟨m / 16, digH (m % 16) :: s, by omega, by congr 1, by rw [HX.out, bytes_snoc], HS, .inr (by simp), trivial⟩
      case measure => simp [intOf] <;> omega
    · have hm0 : m = 0 := by omega
      subst hm0
      have hs0 : s ≠ [] := hor.resolve_left h1
      have he : s.isEmpty = false := by
        cases s with
        | nil => exact absurd rfl hs0
        | cons a l => rfl
      have HS := Lib.hid ((hexT_end hs0).symm.trans HT.out)
      clear hor h1 hs0
      go_wp2
      go_ret
      exact ⟨by rw [HS.out]; rfl, rfl⟩
end Go.Proofs.YtnkpdnbnheffeaaDoor
