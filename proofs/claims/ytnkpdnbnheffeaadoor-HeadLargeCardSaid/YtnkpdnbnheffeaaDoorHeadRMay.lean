/- Which bytes may be in a name, in text: the document's. -/
import Derived.Test.YtnkpdnbnheffeaaDoorHeadMay
import Derived.Deep.DeepCutAuto
import Derived.Deep.CutBlock
namespace Go.Proofs.YtnkpdnbnheffeaaDoor
open Go.RowKit

theorem digit_any (c : UInt8) (w : World) :
    Calls Tryd.prog 44 #[.int .u8 (c.toNat : Int)] w fun e w' => e = .returned (.bool (digB c)) ∧ w = w' := by
  have hP : Hid (digB c = decide (48 ≤ c.toNat ∧ c.toNat ≤ 57)) := Lib.hid rfl
  obtain ⟨n, hn⟩ : ∃ n : Int, n = (c.toNat : Int) := ⟨_, rfl⟩
  rw [← hn]
  have HN := Lib.hid hn
  have hq0 : 0 ≤ n := by omega
  have hq : n ≤ 255 := by have := c.toNat_lt; omega
  clear hn
  by_cases h1 : 48 ≤ n
  · by_cases h2 : n ≤ 57
    · have HR := Lib.hid (show digB c = true by rw [hP.out, decide_eq_true_eq]; have := HN.out; omega)
      clear hP
      go_enter Tryd.func44, Tryd.ntmps44
      go_wp2
      go_ret
      exact ⟨ret_bool' HR.out.symm, rfl⟩
    · have HR := Lib.hid (show digB c = false by rw [hP.out, decide_eq_false_iff_not]; have := HN.out; omega)
      have g2 : decide (n ≤ 57) = false := by simp; omega
      clear hP
      go_enter Tryd.func44, Tryd.ntmps44
      go_wp2
      go_ret
      exact ⟨ret_bool' HR.out.symm, rfl⟩
  · have HR := Lib.hid (show digB c = false by rw [hP.out, decide_eq_false_iff_not]; have := HN.out; omega)
    have g1 : decide (48 ≤ n) = false := by simp; omega
    clear hP
    go_enter Tryd.func44, Tryd.ntmps44
    go_wp2
    go_ret
    exact ⟨ret_bool' HR.out.symm, rfl⟩
set_option maxRecDepth 100000 in
set_option maxHeartbeats 2000000 in
theorem rmayText_any (s : ByteArray) (w : World) (hs : s.size ≤ 9223372036854775807) :
    Calls Tryd.prog 56 #[.string s] w fun e w' => e = .returned (.bool (mayText s.data.toList)) ∧ w = w' := by
  have HA : Hid (mayText s.data.toList = allB textB' s.data.toList) := Lib.hid rfl
  go_enter Tryd.func56, Tryd.ntmps56
  go_wp2
  go_loop [3] (fun i => ∃ k : Nat, k ≤ s.size ∧ i = .int .i64 k ∧ Hid (allB textB' (s.data.toList.take k) = true)) (fun i => s.size - (intOf i).toNat)
  case atStart => exact ⟨0, Nat.zero_le _, rfl, Lib.hid rfl⟩
  case round =>
    obtain ⟨k, hk, rfl, HK⟩ := hrel
    by_cases hlt : k < s.size
    · obtain ⟨c, hc, hcl⟩ := data_at s k hlt
      have hlt' : (k : Int) < (s.size : Int) := by omega
      have HY := Lib.hid (fun (h1 : textB' c = true) => show allB textB' (s.data.toList.take (k + 1)) = true by rw [allB_snoc hcl, HK.out, h1]; rfl)
      have HNO := Lib.hid (fun (h1 : textB' c = false) => show mayText s.data.toList = false by rw [HA.out]; exact allB_false hcl h1)
      clear hcl
      have hP : Hid (textB' c = decide (c.toNat = 9 ∨ (32 ≤ c.toNat ∧ c.toNat ≤ 126) ∨ 128 ≤ c.toNat)) := Lib.hid rfl
      obtain ⟨n, hn⟩ : ∃ n : Int, n = (c.toNat : Int) := ⟨_, rfl⟩
      have hcn : (c.toNat : Int) = n := hn.symm
      have HN := Lib.hid hn
      have hq0 : 0 ≤ n := by omega
      have hq : n ≤ 255 := by have := c.toNat_lt; omega
      clear hn
      have hcases : n < 9 ∨ n = 9 ∨ (9 < n ∧ n < 32) ∨ (32 ≤ n ∧ n ≤ 126) ∨ n = 127 ∨ 128 ≤ n := by omega
      rcases hcases with h | h | h | h | h | h
      · have hv : textB' c = false := by rw [hP.out, decide_eq_false_iff_not]; have := HN.out; omega
        have HR := Lib.hid (HNO.out hv)
        have g0 : (n == 9) = false := by simp; omega
        have g1 : decide (32 ≤ n) = false := by simp; omega
        have g2 : decide (128 ≤ n) = false := by simp; omega
        clear hP h hv HY HNO HN
        go_wp2
        go_ret
        exact ⟨ret_bool' HR.out.symm, rfl⟩
      · have hv : textB' c = true := by rw [hP.out, decide_eq_true_eq]; have := HN.out; omega
        have HR := Lib.hid (HY.out hv)
        have g0 : n = 9 := h
        clear hP h hv HY HNO HN
        go_wp2
        go_round
        case rel => exact ⟨k + 1, by omega, by go_num, HR⟩
        case measure => simp [intOf] <;> omega
      · have hv : textB' c = false := by rw [hP.out, decide_eq_false_iff_not]; have := HN.out; omega
        have HR := Lib.hid (HNO.out hv)
        have g0 : (n == 9) = false := by simp; omega
        have g1 : decide (32 ≤ n) = false := by simp; omega
        have g2 : decide (128 ≤ n) = false := by simp; omega
        clear hP h hv HY HNO HN
        go_wp2
        go_ret
        exact ⟨ret_bool' HR.out.symm, rfl⟩
      · have hv : textB' c = true := by rw [hP.out, decide_eq_true_eq]; have := HN.out; omega
        have HR := Lib.hid (HY.out hv)
        have g0 : (n == 9) = false := by simp; omega
        have g1 : 32 ≤ n := by omega
        have g2 : n ≤ 126 := by omega
        clear hP h hv HY HNO HN
        go_wp2
        go_round
        case rel => exact ⟨k + 1, by omega, by go_num, HR⟩
        case measure => simp [intOf] <;> omega
      · have hv : textB' c = false := by rw [hP.out, decide_eq_false_iff_not]; have := HN.out; omega
        have HR := Lib.hid (HNO.out hv)
        have g0 : (n == 9) = false := by simp; omega
        have g1 : 32 ≤ n := by omega
        have g2 : decide (n ≤ 126) = false := by simp; omega
        have g3 : decide (128 ≤ n) = false := by simp; omega
        clear hP h hv HY HNO HN
        go_wp2
        go_ret
        exact ⟨ret_bool' HR.out.symm, rfl⟩
      · have hv : textB' c = true := by rw [hP.out, decide_eq_true_eq]; have := HN.out; omega
        have HR := Lib.hid (HY.out hv)
        have g0 : (n == 9) = false := by simp; omega
        have g1 : 32 ≤ n := by omega
        have g2 : decide (n ≤ 126) = false := by simp; omega
        have g3 : 128 ≤ n := by omega
        clear hP h hv HY HNO HN
        go_wp2
        go_round
        case rel => exact ⟨k + 1, by omega, by go_num, HR⟩
        case measure => simp [intOf] <;> omega
    · have hge : decide ((k : Int) < (s.size : Int)) = false := by simp; omega
      have HN := Lib.hid (show mayText s.data.toList = true by rw [HA.out, ← HK.out, List.take_of_length_le (by rw [← Lib.size_eq]; omega)])
      go_wp2
      go_ret
      exact ⟨ret_bool' HN.out.symm, rfl⟩
def alnB (c : UInt8) : Bool := decide (97 ≤ c.toNat ∧ c.toNat ≤ 122) || decide (65 ≤ c.toNat ∧ c.toNat ≤ 90) || decide (48 ≤ c.toNat ∧ c.toNat ≤ 57)
def okAt (c : UInt8) (k : Nat) : Bool := alnB c || (signsL.take k).contains c
theorem okAt_end (c : UInt8) : okAt c 15 = nameB c := rfl
theorem okAt_zero (c : UInt8) : okAt c 0 = alnB c := by simp [okAt]
theorem okAt_succ {c : UInt8} {k : Nat} {d : UInt8} (h : signsL[k]? = some d) : okAt c (k + 1) = (okAt c k || ((d.toNat : Int) == (c.toNat : Int))) := by
  unfold okAt
  rw [List.take_add_one, h, Option.toList_some, Bool.or_assoc]
  congr 1
  rw [List.contains_eq_any_beq, List.contains_eq_any_beq, List.any_append]
  congr 1
  have e : (c = d) ↔ c.toNat = d.toNat := ⟨fun h => by rw [h], fun h => UInt8.toNat_inj.1 h⟩
  rw [Bool.eq_iff_iff]
  simp [e]
  omega
theorem mayName_all {l : List UInt8} (h : allB nameB l = true) : mayName l = decide (0 < l.length) := by
  unfold mayName
  have : l.all nameB = true := h
  rw [this, Bool.and_true]
theorem mayName_no {l : List UInt8} (h : allB nameB l = false) : mayName l = false := by
  unfold mayName
  have : l.all nameB = false := h
  rw [this, Bool.and_false]
set_option maxRecDepth 100000 in
set_option maxHeartbeats 4000000 in
theorem rmayName_any (s : ByteArray) (w : World) (hs : s.size ≤ 9223372036854775807) :
    Calls Tryd.prog 57 #[.string s] w fun e w' => e = .returned (.bool (mayName s.data.toList)) ∧ w = w' := by
  have HZ := Lib.hid (Lib.size_eq s)
  go_enter Tryd.func57, Tryd.ntmps57
  go_wp2
  go_loop [4] (fun i => ∃ k : Nat, k ≤ s.size ∧ i = .int .i64 k ∧ Hid (allB nameB (s.data.toList.take k) = true)) (fun i => s.size - (intOf i).toNat)
  case atStart => exact ⟨0, Nat.zero_le _, rfl, Lib.hid rfl⟩
  case round =>
    obtain ⟨k, hk, rfl, HK⟩ := hrel
    by_cases hlt : k < s.size
    · obtain ⟨c, hc, hcl⟩ := data_at s k hlt
      have hlt' : (k : Int) < (s.size : Int) := by omega
      have HY := Lib.hid (fun (h1 : okAt c 15 = true) => show allB nameB (s.data.toList.take (k + 1)) = true by rw [allB_snoc hcl, HK.out, ← okAt_end, h1]; rfl)
      have HNO := Lib.hid (fun (h1 : okAt c 15 = false) => show mayName s.data.toList = false from mayName_no (allB_false hcl (by rw [← okAt_end, h1])))
      clear hcl
      have hP : Hid (okAt c 0 = (decide (97 ≤ c.toNat ∧ c.toNat ≤ 122) || decide (65 ≤ c.toNat ∧ c.toNat ≤ 90) || decide (48 ≤ c.toNat ∧ c.toNat ≤ 57))) := Lib.hid (okAt_zero c)
      obtain ⟨n, hn⟩ : ∃ n : Int, n = (c.toNat : Int) := ⟨_, rfl⟩
      have hcn : (c.toNat : Int) = n := hn.symm
      have HN := Lib.hid hn
      have hq0 : 0 ≤ n := by omega
      have hq : n ≤ 255 := by have := c.toNat_lt; omega
      clear hn
      go_upto_region 6 with fail
      go_cut [6] (fun v wx => w = wx ∧ v = .bool (okAt c 0))
      case first =>
        have hcases : n < 48 ∨ (48 ≤ n ∧ n ≤ 57) ∨ (57 < n ∧ n < 65) ∨ (65 ≤ n ∧ n ≤ 90) ∨ (90 < n ∧ n < 97) ∨ (97 ≤ n ∧ n ≤ 122) ∨ 122 < n := by omega
        rcases hcases with h | h | h | h | h | h | h
        · have HV := Lib.hid (show okAt c 0 = false by rw [hP.out]; have := HN.out; simp; omega)
          have g0 : decide (97 ≤ n) = false := by simp; omega
          have g1 : decide (65 ≤ n) = false := by simp; omega
          have g2 : decide (48 ≤ n) = false := by simp; omega
          clear hP h HN HY HNO
          go_wp2_with fail
          go_meet
          exact ⟨rfl, congrArg Value.bool HV.out.symm⟩
        · have HV := Lib.hid (show okAt c 0 = true by rw [hP.out]; have := HN.out; simp; omega)
          have g0 : decide (97 ≤ n) = false := by simp; omega
          have g1 : decide (65 ≤ n) = false := by simp; omega
          have g2 : 48 ≤ n := by omega
          have g3 : n ≤ 57 := by omega
          clear hP h HN HY HNO
          go_wp2_with fail
          go_meet
          exact ⟨rfl, congrArg Value.bool HV.out.symm⟩
        · have HV := Lib.hid (show okAt c 0 = false by rw [hP.out]; have := HN.out; simp; omega)
          have g0 : decide (97 ≤ n) = false := by simp; omega
          have g1 : decide (65 ≤ n) = false := by simp; omega
          have g2 : 48 ≤ n := by omega
          have g3 : decide (n ≤ 57) = false := by simp; omega
          clear hP h HN HY HNO
          go_wp2_with fail
          go_meet
          exact ⟨rfl, congrArg Value.bool HV.out.symm⟩
        · have HV := Lib.hid (show okAt c 0 = true by rw [hP.out]; have := HN.out; simp; omega)
          have g0 : decide (97 ≤ n) = false := by simp; omega
          have g1 : 65 ≤ n := by omega
          have g2 : n ≤ 90 := by omega
          have g3 : 48 ≤ n := by omega
          have g4 : decide (n ≤ 57) = false := by simp; omega
          clear hP h HN HY HNO
          go_wp2_with fail
          go_meet
          exact ⟨rfl, congrArg Value.bool HV.out.symm⟩
        · have HV := Lib.hid (show okAt c 0 = false by rw [hP.out]; have := HN.out; simp; omega)
          have g0 : decide (97 ≤ n) = false := by simp; omega
          have g1 : 65 ≤ n := by omega
          have g2 : decide (n ≤ 90) = false := by simp; omega
          have g3 : 48 ≤ n := by omega
          have g4 : decide (n ≤ 57) = false := by simp; omega
          clear hP h HN HY HNO
          go_wp2_with fail
          go_meet
          exact ⟨rfl, congrArg Value.bool HV.out.symm⟩
        · have HV := Lib.hid (show okAt c 0 = true by rw [hP.out]; have := HN.out; simp; omega)
          have g0 : 97 ≤ n := by omega
          have g1 : n ≤ 122 := by omega
          have g2 : 65 ≤ n := by omega
          have g3 : decide (n ≤ 90) = false := by simp; omega
          have g4 : 48 ≤ n := by omega
          have g5 : decide (n ≤ 57) = false := by simp; omega
          clear hP h HN HY HNO
          go_wp2_with fail
          go_meet
          exact ⟨rfl, congrArg Value.bool HV.out.symm⟩
        · have HV := Lib.hid (show okAt c 0 = false by rw [hP.out]; have := HN.out; simp; omega)
          have g0 : 97 ≤ n := by omega
          have g1 : decide (n ≤ 122) = false := by simp; omega
          have g2 : 65 ≤ n := by omega
          have g3 : decide (n ≤ 90) = false := by simp; omega
          have g4 : 48 ≤ n := by omega
          have g5 : decide (n ≤ 57) = false := by simp; omega
          clear hP h HN HY HNO
          go_wp2_with fail
          go_meet
          exact ⟨rfl, congrArg Value.bool HV.out.symm⟩
      case rest =>
        obtain ⟨rfl, rfl⟩ := hcut
        go_wp2_with fail
        go_loop [6, 7] (fun v i => ∃ (j : Nat) (b : Bool), j ≤ 15 ∧ i = .int .i64 j ∧ v = .bool b ∧ Hid (b = okAt c j)) (fun _ i => 15 - (intOf i).toNat)
        case atStart => exact ⟨0, _, Nat.zero_le _, rfl, rfl, Lib.hid rfl⟩
        case round =>
          obtain ⟨j, b, hj, rfl, rfl, HB⟩ := hrel
          have hjs : j = 15 ∨ j = 0 ∨ j = 1 ∨ j = 2 ∨ j = 3 ∨ j = 4 ∨ j = 5 ∨ j = 6 ∨ j = 7 ∨ j = 8 ∨ j = 9 ∨ j = 10 ∨ j = 11 ∨ j = 12 ∨ j = 13 ∨ j = 14 := by omega
          rcases hjs with rfl | rfl | rfl | rfl | rfl | rfl | rfl | rfl | rfl | rfl | rfl | rfl | rfl | rfl | rfl | rfl
          · cases b with
            | true =>
              have HR := Lib.hid (HY.out HB.out.symm)
              clear HY HNO hP HN HB
              go_wp2
              go_round
              case rel => exact ⟨k + 1, by omega, by go_num, HR⟩
              case measure => simp [intOf] <;> omega
            | false =>
              have HR := Lib.hid (HNO.out HB.out.symm)
              clear HY HNO hP HN HB
              go_wp2
              go_ret
              exact ⟨ret_bool' HR.out.symm, rfl⟩
          · have HS := Lib.hid (okAt_succ (c := c) (k := 0) rfl)
            cases b with
            | true =>
              go_wp2
              go_round
              case rel => exact ⟨1, true, by omega, rfl, rfl, Lib.hid (by rw [HS.out, ← HB.out]; rfl)⟩
              case measure => simp [intOf] <;> omega
            | false =>
              go_wp2
              go_round
              case rel => exact ⟨1, _, by omega, rfl, rfl, Lib.hid (by rw [HS.out, ← HB.out, HN.out.symm]; rfl)⟩
              case measure => simp [intOf] <;> omega
          · have HS := Lib.hid (okAt_succ (c := c) (k := 1) rfl)
            cases b with
            | true =>
              go_wp2
              go_round
              case rel => exact ⟨2, true, by omega, rfl, rfl, Lib.hid (by rw [HS.out, ← HB.out]; rfl)⟩
              case measure => simp [intOf] <;> omega
            | false =>
              go_wp2
              go_round
              case rel => exact ⟨2, _, by omega, rfl, rfl, Lib.hid (by rw [HS.out, ← HB.out, HN.out.symm]; rfl)⟩
              case measure => simp [intOf] <;> omega
          · have HS := Lib.hid (okAt_succ (c := c) (k := 2) rfl)
            cases b with
            | true =>
              go_wp2
              go_round
              case rel => exact ⟨3, true, by omega, rfl, rfl, Lib.hid (by rw [HS.out, ← HB.out]; rfl)⟩
              case measure => simp [intOf] <;> omega
            | false =>
              go_wp2
              go_round
              case rel => exact ⟨3, _, by omega, rfl, rfl, Lib.hid (by rw [HS.out, ← HB.out, HN.out.symm]; rfl)⟩
              case measure => simp [intOf] <;> omega
          · have HS := Lib.hid (okAt_succ (c := c) (k := 3) rfl)
            cases b with
            | true =>
              go_wp2
              go_round
              case rel => exact ⟨4, true, by omega, rfl, rfl, Lib.hid (by rw [HS.out, ← HB.out]; rfl)⟩
              case measure => simp [intOf] <;> omega
            | false =>
              go_wp2
              go_round
              case rel => exact ⟨4, _, by omega, rfl, rfl, Lib.hid (by rw [HS.out, ← HB.out, HN.out.symm]; rfl)⟩
              case measure => simp [intOf] <;> omega
          · have HS := Lib.hid (okAt_succ (c := c) (k := 4) rfl)
            cases b with
            | true =>
              go_wp2
              go_round
              case rel => exact ⟨5, true, by omega, rfl, rfl, Lib.hid (by rw [HS.out, ← HB.out]; rfl)⟩
              case measure => simp [intOf] <;> omega
            | false =>
              go_wp2
              go_round
              case rel => exact ⟨5, _, by omega, rfl, rfl, Lib.hid (by rw [HS.out, ← HB.out, HN.out.symm]; rfl)⟩
              case measure => simp [intOf] <;> omega
          · have HS := Lib.hid (okAt_succ (c := c) (k := 5) rfl)
            cases b with
            | true =>
              go_wp2
              go_round
              case rel => exact ⟨6, true, by omega, rfl, rfl, Lib.hid (by rw [HS.out, ← HB.out]; rfl)⟩
              case measure => simp [intOf] <;> omega
            | false =>
              go_wp2
              go_round
              case rel => exact ⟨6, _, by omega, rfl, rfl, Lib.hid (by rw [HS.out, ← HB.out, HN.out.symm]; rfl)⟩
              case measure => simp [intOf] <;> omega
          · have HS := Lib.hid (okAt_succ (c := c) (k := 6) rfl)
            cases b with
            | true =>
              go_wp2
              go_round
              case rel => exact ⟨7, true, by omega, rfl, rfl, Lib.hid (by rw [HS.out, ← HB.out]; rfl)⟩
              case measure => simp [intOf] <;> omega
            | false =>
              go_wp2
              go_round
              case rel => exact ⟨7, _, by omega, rfl, rfl, Lib.hid (by rw [HS.out, ← HB.out, HN.out.symm]; rfl)⟩
              case measure => simp [intOf] <;> omega
          · have HS := Lib.hid (okAt_succ (c := c) (k := 7) rfl)
            cases b with
            | true =>
              go_wp2
              go_round
              case rel => exact ⟨8, true, by omega, rfl, rfl, Lib.hid (by rw [HS.out, ← HB.out]; rfl)⟩
              case measure => simp [intOf] <;> omega
            | false =>
              go_wp2
              go_round
              case rel => exact ⟨8, _, by omega, rfl, rfl, Lib.hid (by rw [HS.out, ← HB.out, HN.out.symm]; rfl)⟩
              case measure => simp [intOf] <;> omega
          · have HS := Lib.hid (okAt_succ (c := c) (k := 8) rfl)
            cases b with
            | true =>
              go_wp2
              go_round
              case rel => exact ⟨9, true, by omega, rfl, rfl, Lib.hid (by rw [HS.out, ← HB.out]; rfl)⟩
              case measure => simp [intOf] <;> omega
            | false =>
              go_wp2
              go_round
              case rel => exact ⟨9, _, by omega, rfl, rfl, Lib.hid (by rw [HS.out, ← HB.out, HN.out.symm]; rfl)⟩
              case measure => simp [intOf] <;> omega
          · have HS := Lib.hid (okAt_succ (c := c) (k := 9) rfl)
            cases b with
            | true =>
              go_wp2
              go_round
              case rel => exact ⟨10, true, by omega, rfl, rfl, Lib.hid (by rw [HS.out, ← HB.out]; rfl)⟩
              case measure => simp [intOf] <;> omega
            | false =>
              go_wp2
              go_round
              case rel => exact ⟨10, _, by omega, rfl, rfl, Lib.hid (by rw [HS.out, ← HB.out, HN.out.symm]; rfl)⟩
              case measure => simp [intOf] <;> omega
          · have HS := Lib.hid (okAt_succ (c := c) (k := 10) rfl)
            cases b with
            | true =>
              go_wp2
              go_round
              case rel => exact ⟨11, true, by omega, rfl, rfl, Lib.hid (by rw [HS.out, ← HB.out]; rfl)⟩
              case measure => simp [intOf] <;> omega
            | false =>
              go_wp2
              go_round
              case rel => exact ⟨11, _, by omega, rfl, rfl, Lib.hid (by rw [HS.out, ← HB.out, HN.out.symm]; rfl)⟩
              case measure => simp [intOf] <;> omega
          · have HS := Lib.hid (okAt_succ (c := c) (k := 11) rfl)
            cases b with
            | true =>
              go_wp2
              go_round
              case rel => exact ⟨12, true, by omega, rfl, rfl, Lib.hid (by rw [HS.out, ← HB.out]; rfl)⟩
              case measure => simp [intOf] <;> omega
            | false =>
              go_wp2
              go_round
              case rel => exact ⟨12, _, by omega, rfl, rfl, Lib.hid (by rw [HS.out, ← HB.out, HN.out.symm]; rfl)⟩
              case measure => simp [intOf] <;> omega
          · have HS := Lib.hid (okAt_succ (c := c) (k := 12) rfl)
            cases b with
            | true =>
              go_wp2
              go_round
              case rel => exact ⟨13, true, by omega, rfl, rfl, Lib.hid (by rw [HS.out, ← HB.out]; rfl)⟩
              case measure => simp [intOf] <;> omega
            | false =>
              go_wp2
              go_round
              case rel => exact ⟨13, _, by omega, rfl, rfl, Lib.hid (by rw [HS.out, ← HB.out, HN.out.symm]; rfl)⟩
              case measure => simp [intOf] <;> omega
          · have HS := Lib.hid (okAt_succ (c := c) (k := 13) rfl)
            cases b with
            | true =>
              go_wp2
              go_round
              case rel => exact ⟨14, true, by omega, rfl, rfl, Lib.hid (by rw [HS.out, ← HB.out]; rfl)⟩
              case measure => simp [intOf] <;> omega
            | false =>
              go_wp2
              go_round
              case rel => exact ⟨14, _, by omega, rfl, rfl, Lib.hid (by rw [HS.out, ← HB.out, HN.out.symm]; rfl)⟩
              case measure => simp [intOf] <;> omega
          · have HS := Lib.hid (okAt_succ (c := c) (k := 14) rfl)
            cases b with
            | true =>
              go_wp2
              go_round
              case rel => exact ⟨15, true, by omega, rfl, rfl, Lib.hid (by rw [HS.out, ← HB.out]; rfl)⟩
              case measure => simp [intOf] <;> omega
            | false =>
              go_wp2
              go_round
              case rel => exact ⟨15, _, by omega, rfl, rfl, Lib.hid (by rw [HS.out, ← HB.out, HN.out.symm]; rfl)⟩
              case measure => simp [intOf] <;> omega
    · have hge : decide ((k : Int) < (s.size : Int)) = false := by simp; omega
      have HA := Lib.hid (show mayName s.data.toList = decide (0 < s.size) by rw [HZ.out]; exact mayName_all (by rw [← HK.out, List.take_of_length_le (by rw [← Lib.size_eq]; omega)]))
      go_wp2
      go_ret
      exact ⟨ret_bool' (by rw [HA.out]), rfl⟩
end Go.Proofs.YtnkpdnbnheffeaaDoor
