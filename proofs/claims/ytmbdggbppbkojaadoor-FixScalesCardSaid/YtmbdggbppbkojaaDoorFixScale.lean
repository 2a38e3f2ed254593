/- fix.Scale at any three numbers. -/
import Derived.Test.YtmbdggbppbkojaaDoorScalePlain
import Derived.Test.YtmbdggbppbkojaaDoorDiv64
import Derived.Test.YtmbdggbppbkojaaDoorMul64
namespace Go.Proofs.YtmbdggbppbkojaaDoor
open Go.RowKit

set_option maxRecDepth 100000 in
set_option maxHeartbeats 4000000 in
theorem scale_any (a num den : Int) (w : World) (a0 : -9223372036854775808 ≤ a) (a1 : a ≤ 9223372036854775807) (b0 : -9223372036854775808 ≤ num) (b1 : num ≤ 9223372036854775807) (d0 : -9223372036854775808 ≤ den) (d1 : den ≤ 9223372036854775807) (neg : Bool) (B : Nat)
    (hn : (decide (a < 0) != decide (num < 0)) = neg) (hB : (B : Int) = max den 1) :
    Calls Tryd.prog 17 #[.int .i64 a, .int .i64 num, .int .i64 den] w fun e w' => e = .returned (.tuple #[.int .i64 (scaled a.natAbs num.natAbs B neg).1, .bool (scaled a.natAbs num.natAbs B neg).2]) ∧ ∃ n, w.drewN n = w' := by
  have HN := Lib.hid hn
  have HB := Lib.hid hB
  have HB1 := Lib.hid (show 0 < B ∧ B < 9223372036854775808 by omega)
  have HSA := Lib.hid (size_any a w a0 a1)
  have HSB := Lib.hid (size_any num w b0 b1)
  obtain ⟨X, hX⟩ : ∃ X, a.natAbs = X := ⟨_, rfl⟩
  obtain ⟨Y, hY⟩ : ∃ Y, num.natAbs = Y := ⟨_, rfl⟩
  rw [hX] at HSA ⊢
  rw [hY] at HSB ⊢
  have HM := Lib.hid (Tryd.bits_Mul64 X Y (by omega) (by omega) w)
  obtain ⟨HI, hHI⟩ : ∃ HI, X * Y / 18446744073709551616 = HI := ⟨_, rfl⟩
  obtain ⟨LO, hLO⟩ : ∃ LO, X * Y % 18446744073709551616 = LO := ⟨_, rfl⟩
  rw [hHI, hLO] at HM
  have HHI := Lib.hid hHI
  have HLO := Lib.hid hLO
  clear hn hX hY hHI hLO a0 a1 b0 b1 hB
  go_enter Tryd.func17, Tryd.ntmps17
  go_upto_region 1 with fail
  go_cut [8] (fun v wx => w = wx ∧ v = .bool neg)
  case first =>
    go_wp2_with fail
    go_meet
    exact ⟨rfl, congrArg Value.bool HN.out⟩
  case rest =>
  obtain ⟨rfl, rfl⟩ := hcut
  go_upto_region 2 with fail
  go_cut [9] (fun v wx => w = wx ∧ v = .int .u64 B)
  case first =>
    go_wp2_with fail
    go_meet
    exact ⟨rfl, congrArg (Value.int .u64) HB.out.symm⟩
  case rest =>
  obtain ⟨rfl, rfl⟩ := hcut
  go_upto_region 3 with fail
  go_cut [10, 11] (fun v u wx => w = wx ∧ v = .int .u64 HI ∧ u = .int .u64 LO)
  case first =>
    go_wp2_with (first | (go_at_call 28; refine (Hid.out HSA).mono ?_; rintro e w' ⟨rfl, rfl⟩) | (go_at_call 28; refine (Hid.out HSB).mono ?_; rintro e w' ⟨rfl, rfl⟩) | (go_at_call 33; refine (Hid.out HM).mono ?_; rintro e w' ⟨rfl, rfl⟩))
    go_meet
    exact ⟨rfl, rfl, rfl⟩
  case rest =>
  obtain ⟨rfl, rfl, rfl⟩ := hcut
  by_cases hb : HI < B
  · have HD0 := div64_any HI LO B w hb HB1.out.2 (by rw [← HLO.out]; exact Nat.mod_lt _ (by omega))
    have hP : HI * 18446744073709551616 + LO = X * Y := by
      have := Nat.div_add_mod (X * Y) 18446744073709551616
      rw [HHI.out, HLO.out] at this
      rw [Nat.mul_comm HI]
      exact this
    rw [hP] at HD0
    have hql : X * Y / B < 18446744073709551616 := high_small (by rw [HHI.out]; exact hb)
    obtain ⟨Q, hQ⟩ : ∃ Q, X * Y / B = Q := ⟨_, rfl⟩
    obtain ⟨R, hR⟩ : ∃ R, X * Y % B = R := ⟨_, rfl⟩
    rw [hQ, hR] at HD0
    rw [hQ] at hql
    obtain ⟨Qi, hQi⟩ : ∃ Qi : Int, (Q : Int) = Qi := ⟨_, rfl⟩
    rw [hQi] at HD0
    have HD := Lib.hid HD0
    have HQI := Lib.hid hQi
    have HQ := Lib.hid hQ
    have HR := Lib.hid hR
    have HQL := Lib.hid hql
    have hbi : ¬ (B : Int) ≤ (HI : Int) := by omega
    clear hP HD0 hQ hR hql hb hQi
    go_upto_region 6 with fail
    go_cut [12, 13] (fun v u wx => (∃ n, w.drewN n = wx) ∧ v = .int .u64 Qi ∧ u = .int .u64 R)
    case first =>
      go_wp2_with (go_at_call 34; refine (Hid.out HD).mono ?_; rintro e w' ⟨rfl, n, rfl⟩)
      go_meet
      exact ⟨⟨n, rfl⟩, rfl, rfl⟩
    case rest =>
    obtain ⟨⟨n, rfl⟩, rfl, rfl⟩ := hcut
    cases neg
    · have HS := Lib.hid (scaled_even (neg := false) HQ.out HR.out (Or.inl rfl))
      have hG0 := signed_any Q false (w.drewN n) (by have := HQL.out; omega)
      rw [HQI.out] at hG0
      have HG := Lib.hid hG0
      clear hG0
      go_wp2_with (go_at_call 35; refine (Hid.out HG).mono ?_; rintro e w' ⟨rfl, rfl⟩)
      go_ret2
      exact ⟨ret_pair (by rw [HS.out]) (by rw [HS.out]), _, rfl⟩
    · by_cases hr : 0 < R
      · have hri : (0 : Int) < (R : Int) := by omega
        by_cases hm : Q < 18446744073709551615
        · have HS := Lib.hid (scaled_up HQ.out HR.out hr)
          obtain ⟨Q2, hQ2⟩ : ∃ Q2, Q + 1 = Q2 := ⟨_, rfl⟩
          rw [hQ2] at HS
          have HG := Lib.hid (signed_any Q2 true (w.drewN n) (by omega))
          have hw : IntKind.u64.wrap (Qi + 1) = (Q2 : Int) := by rw [← HQI.out, show (Q : Int) + 1 = (Q2 : Int) by omega]; exact word_nat _ (by omega)
          have hmi : Qi < 18446744073709551615 := by have := HQI.out; omega
          clear hr hm hQ2
          go_wp2_with (go_at_call 35; refine (Hid.out HG).mono ?_; rintro e w' ⟨rfl, rfl⟩)
          go_ret2
          exact ⟨ret_pair (by rw [HS.out]) (by rw [HS.out]), _, rfl⟩
        · have HS := Lib.hid (scaled_most HQ.out HR.out (by omega))
          have hG0 := signed_any Q true (w.drewN n) (by have := HQL.out; omega)
          rw [HQI.out] at hG0
          have HG := Lib.hid hG0
          clear hG0
          have hmi : ¬ Qi < 18446744073709551615 := by have := HQI.out; omega
          clear hr hm
          go_wp2_with (go_at_call 35; refine (Hid.out HG).mono ?_; rintro e w' ⟨rfl, rfl⟩)
          go_ret2
          exact ⟨ret_pair (by rw [HS.out]) (by rw [HS.out]), _, rfl⟩
      · have HS := Lib.hid (scaled_even (neg := true) HQ.out HR.out (Or.inr (by omega)))
        have hG0 := signed_any Q true (w.drewN n) (by have := HQL.out; omega)
        rw [HQI.out] at hG0
        have HG := Lib.hid hG0
        clear hG0
        have hri : ¬ (0 : Int) < (R : Int) := by omega
        clear hr
        go_wp2_with (go_at_call 35; refine (Hid.out HG).mono ?_; rintro e w' ⟨rfl, rfl⟩)
        go_ret2
        exact ⟨ret_pair (by rw [HS.out]) (by rw [HS.out]), _, rfl⟩
  · have HS := Lib.hid (scaled_big (X := X) (Y := Y) (neg := neg) HB1.out.1 (by rw [HHI.out]; omega))
    have HE := Lib.hid (end_any neg w)
    have hbi : (B : Int) ≤ (HI : Int) := by omega
    clear hb
    cases neg
    · go_wp2_with (go_at_call 32; refine (Hid.out HE).mono ?_; rintro e w' ⟨rfl, rfl⟩)
      go_ret2
      exact ⟨ret_pair (by rw [HS.out]; rfl) (by rw [HS.out]), 0, rfl⟩
    · go_wp2_with (go_at_call 32; refine (Hid.out HE).mono ?_; rintro e w' ⟨rfl, rfl⟩)
      go_ret2
      exact ⟨ret_pair (by rw [HS.out]; rfl) (by rw [HS.out]), 0, rfl⟩
end Go.Proofs.YtmbdggbppbkojaaDoor
