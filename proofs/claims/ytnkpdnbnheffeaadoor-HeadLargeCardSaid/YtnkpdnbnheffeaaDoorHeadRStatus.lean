/- The document's status line. -/
import Derived.Test.YtnkpdnbnheffeaaDoorHeadRLine
namespace Go.Proofs.YtnkpdnbnheffeaaDoor
open Go.RowKit

def statusB (l : List UInt8) : Bool := decide (13 ≤ l.length) && ((l.take 8 == t11 || l.take 8 == t10) && (l[8]?.getD 0 == 32 && (l[12]?.getD 0 == 32 && (digB (l[9]?.getD 0) && (digB (l[10]?.getD 0) && (digB (l[11]?.getD 0) && mayText (l.drop 13)))))))
theorem getD_at {l : List UInt8} {k : Nat} {c : UInt8} (h : l[k]? = some c) : l[k]?.getD 0 = c := by rw [h]; rfl
set_option maxRecDepth 100000 in
set_option maxHeartbeats 600000 in
theorem rstatus_any (s : ByteArray) (w : World) (hs : s.size ≤ 1000000) :
    Calls Tryd.prog 42 #[.string s] w fun e w' => e = .returned (.bool (statusB s.data.toList)) ∧ w = w' := by
  have HZ := Lib.hid (Lib.size_eq s)
  by_cases h13 : (s.size : Int) < 13
  · have HR := Lib.hid (show statusB s.data.toList = false by unfold statusB; rw [decide_eq_false (by have := HZ.out; omega)]; rfl)
    go_enter Tryd.func42, Tryd.ntmps42
    go_wp2
    go_ret
    exact ⟨ret_bool' HR.out.symm, rfl⟩
  · obtain ⟨c8, q8, d8⟩ := data_at s 8 (by omega)
    obtain ⟨c9, q9, d9⟩ := data_at s 9 (by omega)
    obtain ⟨c10, q10, d10⟩ := data_at s 10 (by omega)
    obtain ⟨c11, q11, d11⟩ := data_at s 11 (by omega)
    obtain ⟨c12, q12, d12⟩ := data_at s 12 (by omega)
    have HSB := Lib.hid (show statusB s.data.toList = ((s.data.toList.take 8 == t11 || s.data.toList.take 8 == t10) && (c8 == 32 && (c12 == 32 && (digB c9 && (digB c10 && (digB c11 && mayText (s.data.toList.drop 13))))))) by
      unfold statusB
      rw [decide_eq_true (by have := HZ.out; omega), getD_at d8, getD_at d9, getD_at d10, getD_at d11, getD_at d12, Bool.true_and])
    have hx8 : s.extract 0 8 = ⟨(s.data.toList.take 8).toArray⟩ := ba_eq (by rw [ByteArray.data_extract]; simp)
    have hx13 : s.extract 13 s.size = ⟨(s.data.toList.drop 13).toArray⟩ := ba_eq (by rw [Lib.extract_to_end])
    have HT : Hid (∀ W, Calls Tryd.prog 56 #[.string ⟨(s.data.toList.drop 13).toArray⟩] W fun e w' => e = .returned (.bool (mayText (s.data.toList.drop 13))) ∧ W = w') := Lib.hid (fun W => rmayText_any ⟨(s.data.toList.drop 13).toArray⟩ W (by rw [Lib.size_eq]; show (s.data.toList.drop 13).length ≤ _; rw [List.length_drop]; have := HZ.out; omega))
    have HDG := Lib.hid (fun c W => digit_any c W)
    have g13 : decide ((s.size : Int) < 13) = false := by simp; omega
    have g13n : decide (s.size < 13) = false := by simp; omega
    have i8 : (8 : Int) ≤ (s.size : Int) := by omega
    have i13 : (13 : Int) ≤ (s.size : Int) := by omega
    have j8 : (8 : Int) < (s.size : Int) := by omega
    have j9 : (9 : Int) < (s.size : Int) := by omega
    have j10 : (10 : Int) < (s.size : Int) := by omega
    have j11 : (11 : Int) < (s.size : Int) := by omega
    have j12 : (12 : Int) < (s.size : Int) := by omega
    generalize s.data.toList.take 8 = T at HSB hx8
    generalize s.data.toList.drop 13 = R at HSB hx13 HT
    generalize mayText R = bt at HSB HT
    clear d8 d9 d10 d11 d12
    have e8 : (c8 == 32) = decide ((c8.toNat : Int) = 32) := by
      rw [Bool.eq_iff_iff, eq_num, decide_eq_true_eq]
      show 32 = c8.toNat ↔ _
      omega
    have e12 : (c12 == 32) = decide ((c12.toNat : Int) = 32) := by
      rw [Bool.eq_iff_iff, eq_num, decide_eq_true_eq]
      show 32 = c12.toNat ↔ _
      omega
    rw [e8, e12] at HSB
    clear e8 e12
    by_cases hT : T = [72, 84, 84, 80, 47, 49, 46, 49] ∨ T = [72, 84, 84, 80, 47, 49, 46, 48]
    · by_cases h8 : (c8.toNat : Int) = 32
      · by_cases h12 : (c12.toNat : Int) = 32
        · have HR := Lib.hid (show statusB s.data.toList = (digB c9 && (digB c10 && (digB c11 && bt))) by
            rw [HSB.out, decide_eq_true h8, decide_eq_true h12]
            rcases hT with rfl | rfl <;> rfl)
          cases k9 : digB c9 with
          | false =>
            have HR2 := Lib.hid (show statusB s.data.toList = false by rw [HR.out, k9]; rfl)
            rcases hT with rfl | rfl
            all_goals
              go_enter Tryd.func42, Tryd.ntmps42
              go_wp2_with (first | (go_at_call 44; refine (HDG.out _ _).mono ?_; rintro e w1 ⟨rfl, rfl⟩) | (go_at_call 56; refine (HT.out _).mono ?_; rintro e w1 ⟨rfl, rfl⟩))
              go_ret
              exact ⟨ret_bool' (by rw [HR2.out]), rfl⟩
          | true =>
            cases k10 : digB c10 with
            | false =>
              have HR2 := Lib.hid (show statusB s.data.toList = false by rw [HR.out, k9, k10]; rfl)
              rcases hT with rfl | rfl
              all_goals
                go_enter Tryd.func42, Tryd.ntmps42
                go_wp2_with (first | (go_at_call 44; refine (HDG.out _ _).mono ?_; rintro e w1 ⟨rfl, rfl⟩) | (go_at_call 56; refine (HT.out _).mono ?_; rintro e w1 ⟨rfl, rfl⟩))
                go_ret
                exact ⟨ret_bool' (by rw [HR2.out]), rfl⟩
            | true =>
              cases k11 : digB c11 with
              | false =>
                have HR2 := Lib.hid (show statusB s.data.toList = false by rw [HR.out, k9, k10, k11]; rfl)
                rcases hT with rfl | rfl
                all_goals
                  go_enter Tryd.func42, Tryd.ntmps42
                  go_wp2_with (first | (go_at_call 44; refine (HDG.out _ _).mono ?_; rintro e w1 ⟨rfl, rfl⟩) | (go_at_call 56; refine (HT.out _).mono ?_; rintro e w1 ⟨rfl, rfl⟩))
                  go_ret
                  exact ⟨ret_bool' (by rw [HR2.out]), rfl⟩
              | true =>
                have HR2 := Lib.hid (show statusB s.data.toList = bt by rw [HR.out, k9, k10, k11]; rfl)
                rcases hT with rfl | rfl
                all_goals
                  go_enter Tryd.func42, Tryd.ntmps42
                  go_wp2_with (first | (go_at_call 44; refine (HDG.out _ _).mono ?_; rintro e w1 ⟨rfl, rfl⟩) | (go_at_call 56; refine (HT.out _).mono ?_; rintro e w1 ⟨rfl, rfl⟩))
                  go_ret
                  exact ⟨ret_bool' (by rw [HR2.out]), rfl⟩
        · have HR := Lib.hid (show statusB s.data.toList = false by rw [HSB.out, decide_eq_false h12]; simp)
          have g12 : ((c12.toNat : Int) == 32) = false := by simpa using h12
          have g12b : ((c12.toNat : Int) != 32) = true := by simpa using h12
          rcases hT with rfl | rfl
          all_goals
            go_enter Tryd.func42, Tryd.ntmps42
            go_wp2
            go_ret
            exact ⟨ret_bool' HR.out.symm, rfl⟩
      · have HR := Lib.hid (show statusB s.data.toList = false by rw [HSB.out, decide_eq_false h8]; simp)
        have g8 : ((c8.toNat : Int) == 32) = false := by simpa using h8
        have g8b : ((c8.toNat : Int) != 32) = true := by simpa using h8
        rcases hT with rfl | rfl
        all_goals
          go_enter Tryd.func42, Tryd.ntmps42
          go_wp2
          go_ret
          exact ⟨ret_bool' HR.out.symm, rfl⟩
    · have hT1 : ¬ T = [72, 84, 84, 80, 47, 49, 46, 49] := fun h => hT (.inl h)
      have hT2 : ¬ T = [72, 84, 84, 80, 47, 49, 46, 48] := fun h => hT (.inr h)
      have k1 : (T == [72, 84, 84, 80, 47, 49, 46, 49]) = false := by simpa using hT1
      have k2 : (T == [72, 84, 84, 80, 47, 49, 46, 48]) = false := by simpa using hT2
      have HR := Lib.hid (show statusB s.data.toList = false by
        rw [HSB.out]
        show ((T == [72, 84, 84, 80, 47, 49, 46, 49] || T == [72, 84, 84, 80, 47, 49, 46, 48]) && _) = false
        rw [k1, k2]
        rfl)
      clear hT hT1 hT2
      go_enter Tryd.func42, Tryd.ntmps42
      go_wp2
      go_ret
      exact ⟨ret_bool' HR.out.symm, rfl⟩
end Go.Proofs.YtnkpdnbnheffeaaDoor
