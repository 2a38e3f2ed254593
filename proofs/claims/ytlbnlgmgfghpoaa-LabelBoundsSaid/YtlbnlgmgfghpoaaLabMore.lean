/- The laws' own helper: a byte so many times; and labels at their bounds. -/
import Derived.Test.YtlbnlgmgfghpoaaLabWith
import Derived.Test.YtlbnlgmgfghpoaaLabKnown
import Derived.Deep.AppendLies
namespace Go.Proofs.Ytlbnlgmgfghpoaa
open Go.RowKit

/-- A byte so many times (behind a name: the walk would write it out). -/
def repL (n : Nat) (c : UInt8) : List UInt8 := List.replicate n c
theorem repL_len (n : Nat) (c : UInt8) : (repL n c).length = n := List.length_replicate ..
set_option maxRecDepth 100000 in
set_option maxHeartbeats 1000000 in
theorem more_any (c : UInt8) (n : Nat) (w : World) (hn : n ≤ 2000) :
    Calls Try.prog 24 #[.string ⟨#[c]⟩, .int .i64 n] w fun e w' => e = .returned (.string ⟨(repL n c).toArray⟩) ∧ w = w' := by
  go_enter Try.func24, Try.ntmps24
  go_wp2
  go_loop [5, 6] (fun v i => ∃ (k : Nat) (o : ByteArray), k ≤ n ∧ i = .int .i64 k ∧ v = .string o ∧ Hid (o.data.toList = repL k c)) (fun _ i => n - (intOf i).toNat)
  case atStart => exact ⟨0, ⟨#[]⟩, Nat.zero_le _, rfl, rfl, Lib.hid rfl⟩
  case round =>
    obtain ⟨k, o, hk, rfl, rfl, HO⟩ := hrel
    by_cases hlt : k < n
    · have hlt' : (k : Int) < (n : Int) := by omega
      have hosz : o.size < 4294967281 := by
        have h1 := congrArg List.length HO.out
        rw [← Lib.size_eq] at h1
        rw [repL_len] at h1
        omega
      have HN := Lib.hid (show (o ++ ⟨#[c]⟩ : ByteArray).data.toList = repL (k + 1) c by
        unfold repL
        rw [List.replicate_succ', show List.replicate k c = repL k c from rfl, ← HO.out]
        simp)
      go_wp2
      go_round
      case rel => exact ⟨k + 1, _, by omega, by go_num, rfl, HN⟩
      case measure => simp [intOf] <;> omega
    · have hge : decide ((k : Int) < (n : Int)) = false := by simp; omega
      have HE := Lib.hid (show o = ⟨(repL n c).toArray⟩ from ba_eq (by rw [HO.out, show k = n by omega]))
      go_wp2
      go_ret
      exact ⟨by rw [HE.out]; rfl, rfl⟩
end Go.Proofs.Ytlbnlgmgfghpoaa
