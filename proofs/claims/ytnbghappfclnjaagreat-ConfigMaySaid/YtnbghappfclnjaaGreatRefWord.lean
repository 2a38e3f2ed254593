/- Words and metrics' names: the document's. -/
import Derived.Test.YtnbghappfclnjaaGreatLabMetric
namespace Go.Proofs.YtnbghappfclnjaaGreat
open Go.RowKit

def letB (c : UInt8) : Bool := decide ((97 ≤ c.toNat ∧ c.toNat ≤ 122) ∨ (65 ≤ c.toNat ∧ c.toNat ≤ 90) ∨ c.toNat = 95)
set_option maxRecDepth 100000 in
set_option maxHeartbeats 1000000 in
theorem rletter_of (n : Int) (b : Bool) (w : World) (h0 : 0 ≤ n) (hq : n ≤ 255) (hb : Hid (b = decide ((97 ≤ n ∧ n ≤ 122) ∨ (65 ≤ n ∧ n ≤ 90) ∨ n = 95))) :
    Calls Tryz.prog 68 #[.int .u8 n] w fun e w' => e = .returned (.bool b) ∧ w = w' := by
  by_cases h1 : 97 ≤ n
  · by_cases h2 : n ≤ 122
    · have HR := Lib.hid (show b = true by rw [hb.out, decide_eq_true_eq]; omega)
      go_enter Tryz.func68, Tryz.ntmps68
      go_wp2
      go_ret
      exact ⟨ret_bool' HR.out.symm, rfl⟩
    · have h2' : decide (n ≤ 122) = false := by simpa using h2
      have h3 : 65 ≤ n := by omega
      have h4' : decide (n ≤ 90) = false := by simp; omega
      have h5 : (n == 95) = false := by simp; omega
      have HR := Lib.hid (show b = false by rw [hb.out, decide_eq_false_iff_not]; omega)
      go_enter Tryz.func68, Tryz.ntmps68
      go_wp2
      go_ret
      exact ⟨ret_bool' HR.out.symm, rfl⟩
  · have h1' : decide (97 ≤ n) = false := by simpa using h1
    by_cases h3 : 65 ≤ n
    · by_cases h4 : n ≤ 90
      · have HR := Lib.hid (show b = true by rw [hb.out, decide_eq_true_eq]; omega)
        go_enter Tryz.func68, Tryz.ntmps68
        go_wp2
        go_ret
        exact ⟨ret_bool' HR.out.symm, rfl⟩
      · have h4' : decide (n ≤ 90) = false := by simp; omega
        by_cases h5 : n = 95
        · subst h5
          have HR := Lib.hid (show b = true by rw [hb.out]; decide)
          go_enter Tryz.func68, Tryz.ntmps68
          go_wp2
          go_ret
          exact ⟨ret_bool' HR.out.symm, rfl⟩
        · have h5' : (n == 95) = false := by simpa using h5
          have HR := Lib.hid (show b = false by rw [hb.out, decide_eq_false_iff_not]; omega)
          go_enter Tryz.func68, Tryz.ntmps68
          go_wp2
          go_ret
          exact ⟨ret_bool' HR.out.symm, rfl⟩
    · have h3' : decide (65 ≤ n) = false := by simpa using h3
      have h5' : (n == 95) = false := by simp; omega
      have HR := Lib.hid (show b = false by rw [hb.out, decide_eq_false_iff_not]; omega)
      go_enter Tryz.func68, Tryz.ntmps68
      go_wp2
      go_ret
      exact ⟨ret_bool' HR.out.symm, rfl⟩
theorem rletter_any (c : UInt8) (w : World) :
    Calls Tryz.prog 68 #[.int .u8 (c.toNat : Int)] w fun e w' => e = .returned (.bool (letB c)) ∧ w = w' :=
  rletter_of _ _ w (by omega) (by have := c.toNat_lt; omega) (Lib.hid (by unfold letB; congr 1; simp only [eq_iff_iff]; omega))
theorem isLt_letB (c : UInt8) : isLt c = (letB c || decide (c.toNat = 58)) := by
  unfold isLt letB
  rw [Bool.eq_iff_iff, Bool.or_eq_true, decide_eq_true_eq, decide_eq_true_eq, decide_eq_true_eq]
  omega

/-- All that was seen so far may stand in a metric's name. -/
def seenB (l : List UInt8) : Bool := metAll l && (match l with | [] => true | c :: _ => !isDg c)
theorem seenB_snoc {l : List UInt8} {k : Nat} {c : UInt8} (h : l[k]? = some c) (h1 : seenB (l.take k) = true) (h2 : (isLt c || isDg c) = true) (h3 : k = 0 → isDg c = false) : seenB (l.take (k + 1)) = true := by
  unfold seenB at *
  rw [metAll_snoc h, h2, Bool.and_true]
  cases l with
  | nil => simp at h
  | cons d l =>
    cases k with
    | zero => simp at h; subst h; simp [h3 rfl, metAll]
    | succ k => simpa using h1
theorem seenB_met {l : List UInt8} (h0 : l ≠ []) (hl : l.length ≤ 200) (h : seenB l = true) : metB l = true := by
  cases l with
  | nil => exact absurd rfl h0
  | cons c l =>
    unfold seenB at h
    rw [Bool.and_eq_true] at h
    rw [metB_eq rfl, decide_eq_true hl, h.1, Bool.true_and, Bool.and_true]
    exact h.2
theorem bad_met {l : List UInt8} {k : Nat} {c : UInt8} (h : l[k]? = some c) (h1 : isLt c = false) (h2 : isDg c = false ∨ k = 0) : metB l = false := by
  cases l with
  | nil => rfl
  | cons d l =>
    rcases h2 with h2 | rfl
    · rw [metB_eq rfl, metAll_false h h1 h2, Bool.and_false]
    · simp at h
      subst h
      cases hd : isDg d with
      | true => rw [metB_eq rfl, hd]; simp
      | false => rw [metB_eq rfl, metAll_false (k := 0) rfl h1 hd, Bool.and_false]

set_option maxRecDepth 100000 in
set_option maxHeartbeats 1000000 in
theorem rmetric_none (s : ByteArray) (w : World) (hs : s.size ≤ 9223372036854775807) (h : (s.size : Int) < 1 ∨ 200 < (s.size : Int)) :
    Calls Tryz.prog 55 #[.string s] w fun e w' => e = .returned (.bool false) ∧ w = w' := by
  by_cases h1 : (s.size : Int) < 1
  · go_enter Tryz.func55, Tryz.ntmps55
    go_wp2
    go_ret
    exact ⟨rfl, rfl⟩
  · have h1' : decide ((s.size : Int) < 1) = false := by simpa using h1
    have h2 : 200 < (s.size : Int) := by omega
    go_enter Tryz.func55, Tryz.ntmps55
    go_wp2
    go_ret
    exact ⟨rfl, rfl⟩
set_option maxRecDepth 100000 in
set_option maxHeartbeats 4000000 in
theorem rmetric_some (s : ByteArray) (w : World) (h0 : 0 < s.size) (h1 : s.size ≤ 200) :
    Calls Tryz.prog 55 #[.string s] w fun e w' => e = .returned (.bool (metB s.data.toList)) ∧ w = w' := by
  have h0' : decide ((s.size : Int) < 1) = false := by simp; omega
  have h1' : decide (200 < (s.size : Int)) = false := by simp; omega
  have hsl := Lib.hid (show s.data.toList ≠ [] ∧ s.data.toList.length ≤ 200 by
    rw [← Lib.size_eq]
    refine ⟨fun e => ?_, h1⟩
    rw [Lib.size_eq, e] at h0
    simp at h0)
  go_enter Tryz.func55, Tryz.ntmps55
  go_wp2
  go_loop [3] (fun i => ∃ k : Nat, k ≤ s.size ∧ i = .int .i64 k ∧ Hid (seenB (s.data.toList.take k) = true)) (fun i => s.size - (intOf i).toNat)
  case atStart => exact ⟨0, Nat.zero_le _, rfl, Lib.hid rfl⟩
  case round =>
    obtain ⟨k, hk, rfl, HK⟩ := hrel
    by_cases hlt : k < s.size
    · obtain ⟨c, hc, hcl⟩ := data_at s k hlt
      have HCL := Lib.hid hcl
      clear hcl
      have hlt' : (k : Int) < (s.size : Int) := by omega
      have hq : (c.toNat : Int) ≤ 255 := by have := c.toNat_lt; omega
      have HLT := Lib.hid (isLt_letB c)
      cases hlb : letB c with
      | true =>
        have HC := Lib.hid (show Calls Tryz.prog 68 #[.int .u8 (c.toNat : Int)] w fun e w' => e = .returned (.bool true) ∧ w = w' by rw [← hlb]; exact rletter_any _ w)
        have hr : 48 ≤ (c.toNat : Int) ∧ 57 < (c.toNat : Int) := by unfold letB at hlb; rw [decide_eq_true_eq] at hlb; omega
        have hd1 := hr.1
        have hd2 : decide ((c.toNat : Int) ≤ 57) = false := by simp; exact_mod_cast hr.2
        have HN := Lib.hid (seenB_snoc HCL.out HK.out (by rw [HLT.out, hlb]; rfl) (fun _ => by unfold isDg; rw [decide_eq_false_iff_not]; omega))
        clear hlb hr
        go_wp2_with (refine (Hid.out HC).mono ?_; rintro e w1 ⟨rfl, rfl⟩)
        go_round
        case rel => exact ⟨k + 1, by omega, by go_num, HN⟩
        case measure => simp [intOf] <;> omega
      | false =>
        have HC := Lib.hid (show Calls Tryz.prog 68 #[.int .u8 (c.toNat : Int)] w fun e w' => e = .returned (.bool false) ∧ w = w' by rw [← hlb]; exact rletter_any _ w)
        by_cases h58 : c.toNat = 58
        · have hd1 : 48 ≤ (c.toNat : Int) := by omega
          have hd2 : decide ((c.toNat : Int) ≤ 57) = false := by simp; omega
          have hd3 : ((c.toNat : Int) == 58) = true := by simp; omega
          have hd4 : ((c.toNat : Int) != 58) = false := by simp; omega
          have HN := Lib.hid (seenB_snoc HCL.out HK.out (by rw [HLT.out, hlb, decide_eq_true h58]; rfl) (fun _ => by unfold isDg; rw [decide_eq_false_iff_not]; omega))
          clear hlb h58
          go_wp2_with (refine (Hid.out HC).mono ?_; rintro e w1 ⟨rfl, rfl⟩)
          go_round
          case rel => exact ⟨k + 1, by omega, by go_num, HN⟩
          case measure => simp [intOf] <;> omega
        · have hd3 : ((c.toNat : Int) == 58) = false := by simp; omega
          have hd4 : ((c.toNat : Int) != 58) = true := by simp; omega
          have hLF := Lib.hid (show isLt c = false by rw [HLT.out, hlb, decide_eq_false h58]; rfl)
          clear hlb h58
          by_cases hd1 : 48 ≤ (c.toNat : Int)
          · by_cases hd2 : (c.toNat : Int) ≤ 57
            · have hDG := Lib.hid (show isDg c = true by unfold isDg; rw [decide_eq_true_eq]; omega)
              cases k with
              | zero =>
                have HN := Lib.hid (bad_met HCL.out hLF.out (.inr rfl))
                go_wp2_with (refine (Hid.out HC).mono ?_; rintro e w1 ⟨rfl, rfl⟩)
                go_ret
                exact ⟨ret_bool' HN.out.symm, rfl⟩
              | succ j =>
                have hj : (((j + 1 : Nat) : Int) == 0) = false := by simp; omega
                have hj2 : ((j : Int) + 1 == 0) = false := by simp; omega
                have HN := Lib.hid (seenB_snoc HCL.out HK.out (by rw [hDG.out, Bool.or_true]) (fun h => by omega))
                go_wp2_with (refine (Hid.out HC).mono ?_; rintro e w1 ⟨rfl, rfl⟩)
                go_round
                case rel => exact ⟨j + 1 + 1, by omega, by go_num, HN⟩
                case measure => simp [intOf] <;> omega
            · have hDG := Lib.hid (show isDg c = false by unfold isDg; rw [decide_eq_false_iff_not]; omega)
              have HN := Lib.hid (bad_met HCL.out hLF.out (.inl hDG.out))
              go_wp2_with (refine (Hid.out HC).mono ?_; rintro e w1 ⟨rfl, rfl⟩)
              go_ret
              exact ⟨ret_bool' HN.out.symm, rfl⟩
          · have hDG := Lib.hid (show isDg c = false by unfold isDg; rw [decide_eq_false_iff_not]; omega)
            have hd1' : decide (48 ≤ (c.toNat : Int)) = false := by simpa using hd1
            have HN := Lib.hid (bad_met HCL.out hLF.out (.inl hDG.out))
            go_wp2_with (refine (Hid.out HC).mono ?_; rintro e w1 ⟨rfl, rfl⟩)
            go_ret
            exact ⟨ret_bool' HN.out.symm, rfl⟩
    · have hge : decide ((k : Int) < (s.size : Int)) = false := by simp; omega
      have HN := Lib.hid (show metB s.data.toList = true by
        refine seenB_met hsl.out.1 hsl.out.2 ?_
        rw [← HK.out, List.take_of_length_le (by rw [← Lib.size_eq]; omega)])
      go_wp2
      go_ret
      exact ⟨ret_bool' HN.out.symm, rfl⟩
theorem rmetric_any (s : ByteArray) (w : World) (hs : s.size ≤ 9223372036854775807) :
    Calls Tryz.prog 55 #[.string s] w fun e w' => e = .returned (.bool (metB s.data.toList)) ∧ w = w' := by
  by_cases h : (s.size : Int) < 1 ∨ 200 < (s.size : Int)
  · have hf : metB s.data.toList = false := by
      cases hm : metB s.data.toList with
      | false => rfl
      | true =>
        have h1 := metB_len hm
        rw [← Lib.size_eq] at h1
        have h2 : s.data.toList = [] := by
          apply List.eq_nil_of_length_eq_zero
          rw [← Lib.size_eq]
          omega
        rw [h2] at hm
        cases hm
    rw [hf]
    exact rmetric_none s w hs h
  · exact rmetric_some s w (by omega) (by omega)

theorem colB_false {l : List UInt8} {k : Nat} {c : UInt8} (h : l[k]? = some c) (h1 : c.toNat = 58) : colB l = false := by
  unfold colB
  rw [List.all_eq_false]
  exact ⟨c, List.mem_of_getElem? h, by simp [h1]⟩
theorem colB_snoc {l : List UInt8} {k : Nat} {c : UInt8} (h : l[k]? = some c) (h1 : c.toNat ≠ 58) : colB (l.take (k + 1)) = colB (l.take k) := by
  rw [List.take_add_one, h]
  unfold colB
  simp [h1]
set_option maxRecDepth 100000 in
set_option maxHeartbeats 2000000 in
theorem rword_any (s : ByteArray) (w : World) (hs : s.size ≤ 9223372036854775806) :
    Calls Tryz.prog 29 #[.string s] w fun e w' => e = .returned (.bool (wrdB s.data.toList)) ∧ w = w' := by
  have HM := Lib.hid (rmetric_any s w (by omega))
  go_enter Tryz.func29, Tryz.ntmps29
  go_wp2
  go_loop [3] (fun i => ∃ k : Nat, k ≤ s.size ∧ i = .int .i64 k ∧ Hid (colB (s.data.toList.take k) = true)) (fun i => s.size - (intOf i).toNat)
  case atStart => exact ⟨0, Nat.zero_le _, rfl, Lib.hid rfl⟩
  case round =>
    obtain ⟨k, hk, rfl, HK⟩ := hrel
    by_cases hlt : k < s.size
    · obtain ⟨c, hc, hcl⟩ := data_at s k hlt
      have HCL := Lib.hid hcl
      clear hcl
      have hlt' : (k : Int) < (s.size : Int) := by omega
      by_cases h58 : c.toNat = 58
      · have hd3 : ((c.toNat : Int) == 58) = true := by simp; omega
        have HN := Lib.hid (show wrdB s.data.toList = false by unfold wrdB; rw [colB_false HCL.out h58, Bool.and_false])
        clear h58
        go_wp2
        go_ret
        exact ⟨ret_bool' HN.out.symm, rfl⟩
      · have hd3 : ((c.toNat : Int) == 58) = false := by simp; omega
        have HN := Lib.hid (show colB (s.data.toList.take (k + 1)) = true by rw [colB_snoc HCL.out h58, HK.out])
        clear h58
        go_wp2
        go_round
        case rel => exact ⟨k + 1, by omega, by go_num, HN⟩
        case measure => simp [intOf] <;> omega
    · have hge : decide ((k : Int) < (s.size : Int)) = false := by simp; omega
      have HN := Lib.hid (show wrdB s.data.toList = metB s.data.toList by
        have h := HK.out
        rw [List.take_of_length_le (by rw [← Lib.size_eq]; omega)] at h
        unfold wrdB
        rw [h, Bool.and_true])
      go_wp2_with (refine (Hid.out HM).mono ?_; rintro e w1 ⟨rfl, rfl⟩)
      go_ret
      exact ⟨ret_bool' HN.out.symm, rfl⟩
end Go.Proofs.YtnbghappfclnjaaGreat
