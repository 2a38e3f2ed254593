/- The document's text in small letters, and how many digits stand ahead. -/
import Derived.Test.YtmbdggbppbkojaaDoorFixLang
import Derived.Test.YtmbdggbppbkojaaDoorText
namespace Go.Proofs.YtmbdggbppbkojaaDoor
open Go.RowKit

def lowerB (c : UInt8) : UInt8 := if 65 ≤ c.toNat ∧ c.toNat ≤ 90 then c + 32 else c

set_option maxRecDepth 100000 in
set_option maxHeartbeats 1000000 in
theorem rlower_any (s : ByteArray) (w : World) (hs : s.size < 4294967281) :
    Calls Tryd.prog 24 #[.string s] w fun e w' => (∃ o : ByteArray, e = .returned (.string o) ∧ o.data.toList = s.data.toList.map lowerB) ∧ Below w.heap.size w w' := by
  have hcv := fun (W : World) (n : Int) => run_one_byte (P := Tryd.prog) W 48 9 5 n Tryd.underlying48 Tryd.underlying5 Tryd.underlying9
  go_enter Tryd.func24, Tryd.ntmps24
  go_wp2
  go_loopw [3, 4] (fun v i wr => ∃ (k : Nat) (o : ByteArray), k ≤ s.size ∧ i = .int .i64 k ∧ v = .string o ∧ Hid (o.data.toList = (s.data.toList.take k).map lowerB) ∧ Below w.heap.size w wr) (fun _ i _ => s.size - (intOf i).toNat)
  case atStart => exact ⟨0, ⟨#[]⟩, Nat.zero_le _, rfl, rfl, Lib.hid rfl, Below.refl _ _⟩
  case round =>
    obtain ⟨k, o, hk, rfl, rfl, HO, hb⟩ := hrel
    by_cases hlt : k < s.size
    · obtain ⟨c, hc⟩ : ∃ c : UInt8, s[k]'hlt = c := ⟨_, rfl⟩
      have hcl : s.data.toList[k]? = some c := by rw [← hc]; exact Lib.data_getElem? s k hlt
      have HCL := Lib.hid hcl
      clear hcl
      have hosz : o.size < 4294967281 := by
        have h1 := congrArg List.length HO.out
        rw [← Lib.size_eq] at h1
        simp at h1
        omega
      have hnew : ∀ d : UInt8, lowerB c = d → (o ++ ⟨#[d]⟩ : ByteArray).data.toList = (s.data.toList.take (k + 1)).map lowerB := fun d hd => by
        have h1 : s.data.toList.take (k + 1) = s.data.toList.take k ++ [c] := by
          rw [List.take_add_one, HCL.out]; rfl
        rw [h1, List.map_append, ← HO.out]
        simp [hd]
      have HNEW := Lib.hid hnew
      clear hnew
      by_cases hu : 65 ≤ (c.toNat : Int)
      · by_cases hu2 : (c.toNat : Int) ≤ 90
        · go_wp2
          go_roundw
          case rel => exact ⟨k + 1, _, by omega, by go_num, rfl, Lib.hid (HNEW.out _ (if_pos (by omega))), hb.alloc hb.size _⟩
          case measure => simp [intOf] <;> omega
        · go_wp2
          go_roundw
          case rel => exact ⟨k + 1, _, by omega, by go_num, rfl, Lib.hid (HNEW.out _ (if_neg (by omega))), hb.alloc hb.size _⟩
          case measure => simp [intOf] <;> omega
      · have hu' : decide (65 ≤ (c.toNat : Int)) = false := by simpa using hu
        go_wp2
        go_roundw
        case rel => exact ⟨k + 1, _, by omega, by go_num, rfl, Lib.hid (HNEW.out _ (if_neg (by omega))), hb.alloc hb.size _⟩
        case measure => simp [intOf] <;> omega
    · have hk' : k = s.size := by omega
      have hE : o.data.toList = s.data.toList.map lowerB := by rw [HO.out, List.take_of_length_le (by rw [← Lib.size_eq]; omega)]
      have HE := Lib.hid hE
      clear hE hk'
      go_wp2
      go_ret
      exact ⟨⟨o, rfl, HE.out⟩, hb⟩

def digitsN (l : List UInt8) : Nat := (l.takeWhile isD).length
set_option maxRecDepth 100000 in
set_option maxHeartbeats 1000000 in
theorem rdigits_any (s : ByteArray) (w : World) (hs : s.size < 4294967281) :
    Calls Tryd.prog 25 #[.string s] w fun e w' => e = .returned (.int .i64 (digitsN s.data.toList)) ∧ w = w' := by
  go_enter Tryd.func25, Tryd.ntmps25
  go_wp2
  go_loop [3] (fun i => ∃ k : Nat, k ≤ s.size ∧ i = .int .i64 k ∧ Hid (digitsN s.data.toList = k + digitsN (s.data.toList.drop k))) (fun i => s.size - (intOf i).toNat)
  case atStart => exact ⟨0, Nat.zero_le _, rfl, Lib.hid (by simp)⟩
  case round =>
    obtain ⟨k, hk, rfl, HK⟩ := hrel
    by_cases hlt : k < s.size
    · obtain ⟨c, hc⟩ : ∃ c : UInt8, s[k]'hlt = c := ⟨_, rfl⟩
      have hcl : s.data.toList[k]? = some c := by rw [← hc]; exact Lib.data_getElem? s k hlt
      have HCL := Lib.hid hcl
      clear hcl
      have hlt' : (k : Int) < (s.size : Int) := by omega
      by_cases hu : 48 ≤ (c.toNat : Int)
      · by_cases hu2 : (c.toNat : Int) ≤ 57
        · have HN := Lib.hid (show digitsN s.data.toList = (k + 1) + digitsN (s.data.toList.drop (k + 1)) by
            rw [HK.out, Lib.drop_at HCL.out]; simp [digitsN, (isD_iff c).2 (by omega)]; omega)
          go_wp2
          go_round
          case rel => exact ⟨k + 1, by omega, by go_num, HN⟩
          case measure => simp [intOf] <;> omega
        · have HN := Lib.hid (show digitsN s.data.toList = k by
            rw [HK.out, Lib.drop_at HCL.out]; simp [digitsN, show isD c = false by simp [isD]; omega])
          go_wp2
          go_ret
          exact ⟨ret_int (by rw [HN.out]), rfl⟩
      · have hu' : decide ((c.toNat : Int) ≥ 48) = false := by simpa using hu
        have HN := Lib.hid (show digitsN s.data.toList = k by
            rw [HK.out, Lib.drop_at HCL.out]; simp [digitsN, show isD c = false by simp [isD]; omega])
        go_wp2
        go_ret
        exact ⟨ret_int (by rw [HN.out]), rfl⟩
    · have hge : decide ((k : Int) < (s.size : Int)) = false := by simp; omega
      have HN := Lib.hid (show digitsN s.data.toList = k by
            rw [HK.out, List.drop_eq_nil_of_le (by rw [← Lib.size_eq]; omega)]; simp [digitsN])
      go_wp2
      go_ret
      exact ⟨ret_int (by rw [HN.out]), rfl⟩
end Go.Proofs.YtmbdggbppbkojaaDoor
