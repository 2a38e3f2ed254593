/- odometerref01.Scale at any three numbers. -/
import Derived.Test.YtmbdggbppbkojaaDoorScalePlain
import Derived.Test.YtmbdggbppbkojaaDoorDiv64
namespace Go.Proofs.YtmbdggbppbkojaaDoor
open Go.RowKit

theorem bit_test (X k : Nat) (hk : k ≤ 63) : (((X : Int) / 2 ^ min k 64).tmod 2 == 1) = decide (X / 2 ^ k % 2 = 1) := by
  have e : min k 64 = k := by omega
  have h : (X : Int) / 2 ^ k = ((X / 2 ^ k : Nat) : Int) := by simp
  rw [e, h]
  obtain ⟨Z, hZ⟩ : ∃ Z, X / 2 ^ k = Z := ⟨_, rfl⟩
  rw [hZ, Int.tmod_eq_emod_of_nonneg (by omega)]
  clear h hZ
  by_cases h1 : Z % 2 = 1
  · rw [decide_eq_true h1]
    exact beq_iff_eq.2 (by omega)
  · rw [decide_eq_false h1]
    exact beq_eq_false_iff_ne.2 (by omega)
set_option maxRecDepth 100000 in
set_option maxHeartbeats 40000000 in
theorem rscale_any (a num den : Int) (w : World) (a0 : -9223372036854775808 ≤ a) (a1 : a ≤ 9223372036854775807) (b0 : -9223372036854775808 ≤ num) (b1 : num ≤ 9223372036854775807) (d0 : -9223372036854775808 ≤ den) (d1 : den ≤ 9223372036854775807) (neg : Bool) (B : Nat)
    (hn : (decide (a < 0) != decide (num < 0)) = neg) (hB : (B : Int) = max den 1) :
    Calls Tryd.prog 18 #[.int .i64 a, .int .i64 num, .int .i64 den] w fun e w' => e = .returned (.tuple #[.int .i64 (scaled a.natAbs num.natAbs B neg).1, .bool (scaled a.natAbs num.natAbs B neg).2]) ∧ ∃ n, w.drewN n = w' := by
  have HN := Lib.hid hn
  have HB := Lib.hid hB
  have HB1 := Lib.hid (show 0 < B ∧ B < 9223372036854775808 by omega)
  obtain ⟨X, hX⟩ : ∃ X, a.natAbs = X := ⟨_, rfl⟩
  obtain ⟨Y, hY⟩ : ∃ Y, num.natAbs = Y := ⟨_, rfl⟩
  rw [hX, hY]
  have HX := Lib.hid hX
  have HY := Lib.hid hY
  have HR := Lib.hid (show X ≤ 9223372036854775808 ∧ Y ≤ 9223372036854775808 ∧ -9223372036854775808 ≤ a ∧ a ≤ 9223372036854775807 ∧ -9223372036854775808 ≤ num ∧ num ≤ 9223372036854775807 ∧ -9223372036854775808 ≤ den ∧ den ≤ 9223372036854775807 by omega)
  obtain ⟨W, hW⟩ : ∃ W, IntKind.u64.wrap den = W := ⟨_, rfl⟩
  obtain ⟨xa, hxa⟩ : ∃ xa, IntKind.u64.wrap a = xa := ⟨_, rfl⟩
  obtain ⟨ya, hya⟩ : ∃ ya, IntKind.u64.wrap num = ya := ⟨_, rfl⟩
  have HW := Lib.hid hW
  have HXA := Lib.hid hxa
  have HYA := Lib.hid hya
  have hbp : 0 < B := by omega
  clear hn hX hY hB a0 a1 b0 b1 d0 d1 hW hxa hya
  go_enter Tryd.func18, Tryd.ntmps18
  go_upto_region 1 with fail
  go_cut [8] (fun v wx => w = wx ∧ v = .int .u64 W)
  case first =>
    go_wp2_with fail
    go_meet
    exact ⟨rfl, congrArg (Value.int .u64) HW.out⟩
  case rest =>
  obtain ⟨rfl, rfl⟩ := hcut
  go_upto_if 22 with fail
  go_cut [8] (fun v wx => w = wx ∧ v = .int .u64 B)
  case first =>
    by_cases hd : den < 1
    · go_wp2_with fail
      go_meet
      exact ⟨rfl, congrArg (Value.int .u64) (by have := HB.out; omega)⟩
    · go_wp2_with fail
      go_meet
      exact ⟨rfl, congrArg (Value.int .u64) (by have := HB.out; have h2 := HW.out; have := HR.out; rw [IntKind.wrap_u64] at h2; omega)⟩
  case rest =>
  obtain ⟨rfl, rfl⟩ := hcut
  go_upto_region 4 with fail
  go_cut [9] (fun v wx => w = wx ∧ v = .bool neg)
  case first =>
    go_wp2_with fail
    go_meet
    exact ⟨rfl, congrArg Value.bool HN.out⟩
  case rest =>
  obtain ⟨rfl, rfl⟩ := hcut
  go_upto_region 5 with fail
  go_cut [10, 11] (fun v u wx => w = wx ∧ v = .int .u64 xa ∧ u = .int .u64 ya)
  case first =>
    go_wp2_with fail
    go_meet
    exact ⟨rfl, congrArg (Value.int .u64) HXA.out, congrArg (Value.int .u64) HYA.out⟩
  case rest =>
  obtain ⟨rfl, rfl, rfl⟩ := hcut
  go_upto_if 33 with fail
  go_cut [10] (fun v wx => w = wx ∧ v = .int .u64 X)
  case first =>
    by_cases hd : a < 0
    · go_wp2_with fail
      go_meet
      exact ⟨rfl, congrArg (Value.int .u64) (by have := HX.out; have h2 := HXA.out; have := HR.out; rw [IntKind.wrap_u64] at h2 ⊢; omega)⟩
    · go_wp2_with fail
      go_meet
      exact ⟨rfl, congrArg (Value.int .u64) (by have := HX.out; have h2 := HXA.out; have := HR.out; rw [IntKind.wrap_u64] at h2; omega)⟩
  case rest =>
  obtain ⟨rfl, rfl⟩ := hcut
  go_upto_if 37 with fail
  go_cut [11] (fun v wx => w = wx ∧ v = .int .u64 Y)
  case first =>
    by_cases hd : num < 0
    · go_wp2_with fail
      go_meet
      exact ⟨rfl, congrArg (Value.int .u64) (by have := HY.out; have h2 := HYA.out; have := HR.out; rw [IntKind.wrap_u64] at h2 ⊢; omega)⟩
    · go_wp2_with fail
      go_meet
      exact ⟨rfl, congrArg (Value.int .u64) (by have := HY.out; have h2 := HYA.out; have := HR.out; rw [IntKind.wrap_u64] at h2; omega)⟩
  case rest =>
  obtain ⟨rfl, rfl⟩ := hcut
  go_upto_block 0 with fail
  go_cut [12, 13, 14, 15, 16, 17, 18] (fun s12 s13 s14 s15 s16 s17 s18 wx => (∃ n, w.drewN n = wx) ∧ ∃ (q r : Nat) (qi : Int) (o : Bool), s12 = .int .u64 qi ∧ s13 = .int .u64 r ∧ s14 = .bool o ∧ Hid ((q : Int) = qi ∧ Inv B (X * Y) q r o))
  case first =>
    go_wp2_with fail
    go_loopg [12, 13, 14, 15, 16, 17, 18] 64 (fun g s12 s13 s14 s15 s16 s17 s18 wx => (∃ n, w.drewN n = wx) ∧ ∃ (q r : Nat) (qi : Int) (o : Bool), g ≤ 64 ∧ s12 = .int .u64 qi ∧ s13 = .int .u64 r ∧ s14 = .bool o ∧ s15 = .int .i64 ((g : Int) - 1) ∧ Hid ((q : Int) = qi ∧ Inv B (X / 2 ^ g * Y) q r o))
    case atStart => exact ⟨⟨0, rfl⟩, 0, 0, 0, false, by omega, rfl, rfl, rfl, rfl, Lib.hid ⟨rfl, (Inv.zero hbp).cast (by rw [bits_done (by have := HR.out; omega), Nat.zero_mul])⟩⟩
    case round =>
      obtain ⟨⟨nn, rfl⟩, q, r, qi, o, hg, rfl, rfl, rfl, rfl, HI⟩ := hrel
      cases gk with
      | zero =>
        go_wp2
        go_meet
        exact ⟨⟨nn, rfl⟩, q, r, qi, o, rfl, rfl, rfl, Lib.hid ⟨HI.out.1, HI.out.2.cast (by rw [Nat.pow_zero, Nat.div_one])⟩⟩
      | succ k =>
        have hk0 : ((k + 1 : Nat) : Int) - 1 = (k : Int) := by omega
        rw [hk0]
        have HH := Lib.hid (show k + 1 ≤ 64 from hg)
        clear hk0 hg
        obtain ⟨P, hP⟩ : ∃ P, X / 2 ^ (k + 1) * Y = P := ⟨_, rfl⟩
        rw [hP] at HI
        have HP := Lib.hid hP
        have I2 := Inv.twice HI.out.2
        obtain ⟨o1, ho1⟩ : ∃ o1, (o || decide (9223372036854775807 < q)) = o1 := ⟨_, rfl⟩
        obtain ⟨tw, htw⟩ : ∃ tw, decide (B ≤ 2 * r) = tw := ⟨_, rfl⟩
        obtain ⟨q1, hq1⟩ : ∃ q1, 2 * q % 18446744073709551616 = q1 := ⟨_, rfl⟩
        obtain ⟨r1, hr1⟩ : ∃ r1, 2 * r = r1 := ⟨_, rfl⟩
        rw [ho1, htw, hq1, hr1] at I2
        obtain ⟨q2, hq2⟩ : ∃ q2, (if tw then (q1 + 1) % 18446744073709551616 else q1) = q2 := ⟨_, rfl⟩
        obtain ⟨r2, hr2⟩ : ∃ r2, (if tw then r1 - B else r1) = r2 := ⟨_, rfl⟩
        rw [hq2, hr2] at I2
        obtain ⟨q1i, hq1i⟩ : ∃ q1i : Int, (q1 : Int) = q1i := ⟨_, rfl⟩
        obtain ⟨q2i, hq2i⟩ : ∃ q2i : Int, (q2 : Int) = q2i := ⟨_, rfl⟩
        obtain ⟨m, hm⟩ : ∃ m, B - r = m := ⟨_, rfl⟩
        have hw1 : IntKind.u64.wrap ((B : Int) - (r : Int)) = (m : Int) := by
          rw [show (B : Int) - (r : Int) = (m : Int) by have := HI.out.2.rl; omega]
          exact word_nat _ (by have := HB1.out; omega)
        have hw2 : IntKind.u64.wrap (2 * qi) = q1i := by rw [IntKind.wrap_u64, ← HI.out.1]; omega
        have hw3 : IntKind.u64.wrap ((r : Int) + (r : Int)) = (r1 : Int) := by
          rw [show (r : Int) + (r : Int) = (r1 : Int) by omega]
          exact word_nat _ (by have := HB1.out; have := HI.out.2.rl; omega)
        have HI2 := Lib.hid I2
        have HO1 := Lib.hid ho1
        have HTW := Lib.hid htw
        have HQ1 := Lib.hid hq1
        have HR1 := Lib.hid hr1
        have HQ2 := Lib.hid hq2
        have HR2 := Lib.hid hr2
        have HQ1I := Lib.hid hq1i
        have HQ2I := Lib.hid hq2i
        have HM := Lib.hid hm
        clear hP I2 ho1 htw hq1 hr1 hq2 hr2 hq1i hq2i hm
        go_upto_block 1 with fail
        go_cut [12, 13, 14, 16, 17, 18] (fun s12 s13 s14 s16 s17 s18 wx => (∃ n, w.drewN n = wx) ∧ ∃ (q r : Nat) (qi : Int) (o : Bool), s12 = .int .u64 qi ∧ s13 = .int .u64 r ∧ s14 = .bool o ∧ Hid ((q : Int) = qi ∧ Inv B (X / 2 ^ k * Y) q r o))
        case first =>
          go_upto_region 14 with fail
          go_cut [14] (fun v wx => w.drewN nn = wx ∧ v = .bool o1)
          case first =>
            cases o
            · go_wp2
              go_meet
              refine ⟨rfl, congrArg Value.bool ?_⟩
              rw [← HO1.out, Bool.false_or]
              exact decide_eq_decide.2 (by have := HI.out.1; omega)
            · go_wp2
              go_meet
              exact ⟨rfl, congrArg Value.bool HO1.out⟩
          case rest =>
          obtain ⟨rfl, rfl⟩ := hcut
          go_upto_region 15 with fail
          go_cut [12] (fun v wx => w.drewN nn = wx ∧ v = .int .u64 q1i)
          case first =>
            go_wp2
            go_meet
            exact ⟨rfl, rfl⟩
          case rest =>
          obtain ⟨rfl, rfl⟩ := hcut
          go_upto_region 16 with fail
          go_cut [16] (fun v wx => w.drewN nn = wx ∧ v = .bool tw)
          case first =>
            go_wp2
            go_meet
            refine ⟨rfl, congrArg Value.bool ?_⟩
            rw [← HTW.out]
            exact decide_eq_decide.2 (by have := HM.out; have := HI.out.2.rl; omega)
          case rest =>
          obtain ⟨rfl, rfl⟩ := hcut
          go_upto_region 17 with fail
          go_cut [13] (fun v wx => w.drewN nn = wx ∧ v = .int .u64 r1)
          case first =>
            go_wp2
            go_meet
            exact ⟨rfl, rfl⟩
          case rest =>
          obtain ⟨rfl, rfl⟩ := hcut
          clear hw1 hw2 hw3
          go_upto_if 59 with fail
          go_cut [12, 13] (fun v u wx => w.drewN nn = wx ∧ v = .int .u64 q2i ∧ u = .int .u64 r2)
          case first =>
            cases tw
            · go_wp2
              go_meet
              have h1 := HQ2.out
              have h2 := HR2.out
              simp only [Bool.false_eq_true, if_false] at h1 h2
              exact ⟨rfl, congrArg (Value.int .u64) (by rw [← HQ1I.out, ← HQ2I.out, h1]), congrArg (Value.int .u64) (by rw [h2])⟩
            · go_wp2
              go_meet
              have h1 := HQ2.out
              have h2 := HR2.out
              have h3 := of_decide_eq_true HTW.out
              simp only [if_true] at h1 h2
              exact ⟨rfl, congrArg (Value.int .u64) (by rw [← HQ1I.out, ← HQ2I.out, IntKind.wrap_u64]; omega), congrArg (Value.int .u64) (by have := HR1.out; have := HI.out.2.rl; have := HB1.out; rw [IntKind.wrap_u64]; omega)⟩
          case rest =>
          obtain ⟨rfl, rfl, rfl⟩ := hcut
          obtain ⟨bt, hbt⟩ : ∃ bt, decide (X / 2 ^ k % 2 = 1) = bt := ⟨_, rfl⟩
          have HBT := Lib.hid hbt
          clear hbt
          go_upto_region 21 with fail
          go_cut [69] (fun v wx => w.drewN nn = wx ∧ v = .bool bt)
          case first =>
            go_wp2
            go_meet
            refine ⟨rfl, congrArg Value.bool ?_⟩
            rw [← HBT.out]
            exact bit_test X k (by have := HH.out; omega)
          case rest =>
          obtain ⟨rfl, rfl⟩ := hcut
          go_upto_if 69 with fail
          · cases bt
            · go_wp2
              go_meet
              exact ⟨⟨nn, rfl⟩, q2, r2, q2i, o1, rfl, rfl, rfl, Lib.hid ⟨HQ2I.out, HI2.out.cast (by rw [← HP.out]; exact bits_even X Y k (by have := of_decide_eq_false HBT.out; omega))⟩⟩
            · have hE := bits_odd X Y k (of_decide_eq_true HBT.out)
              rw [HP.out] at hE
              have HE := Lib.hid hE
              obtain ⟨D, hD⟩ : ∃ D, Y / B = D := ⟨_, rfl⟩
              obtain ⟨E, hEe⟩ : ∃ E, Y % B = E := ⟨_, rfl⟩
              have hEl : E < B := by rw [← hEe]; exact Nat.mod_lt _ hbp
              have hDq := quo_word Y B (by have := HR.out; omega)
              rw [hD] at hDq
              have HDQ := Lib.hid hDq
              have HD := Lib.hid hD
              have HEE := Lib.hid hEe
              have HEL := Lib.hid hEl
              clear hE hD hEe hEl hDq
              go_upto_region 22 with fail
              go_cut [17, 18] (fun v u wx => (∃ n, w.drewN n = wx) ∧ v = .int .u64 D ∧ u = .int .u64 E)
              case first =>
                go_quiet (fail)
                go_wp2
                go_meet
                exact ⟨⟨nn + nq, by simp⟩, congrArg (Value.int .u64) HDQ.out, congrArg (Value.int .u64) (by rw [← HEE.out]; simp)⟩
              case rest =>
              obtain ⟨⟨n2, rfl⟩, rfl, rfl⟩ := hcut
              obtain ⟨q3, hq3⟩ : ∃ q3, (q2 + D) % 18446744073709551616 = q3 := ⟨_, rfl⟩
              obtain ⟨q3i, hq3i⟩ : ∃ q3i : Int, (q3 : Int) = q3i := ⟨_, rfl⟩
              obtain ⟨o2, ho2⟩ : ∃ o2, (o1 || decide (q3 < q2)) = o2 := ⟨_, rfl⟩
              obtain ⟨m2, hm2⟩ : ∃ m2, B - E = m2 := ⟨_, rfl⟩
              have hw4 : IntKind.u64.wrap (q2i + (D : Int)) = q3i := by rw [IntKind.wrap_u64, ← HQ2I.out, ← hq3i]; omega
              have hw5 : IntKind.u64.wrap ((B : Int) - (E : Int)) = (m2 : Int) := by
                rw [show (B : Int) - (E : Int) = (m2 : Int) by have := HEL.out; omega]
                exact word_nat _ (by have := HB1.out; omega)
              have HQ3 := Lib.hid hq3
              have HQ3I := Lib.hid hq3i
              have HO2 := Lib.hid ho2
              have HM2 := Lib.hid hm2
              clear hq3 hq3i ho2 hm2
              go_upto_region 23 with fail
              go_cut [14] (fun v wx => w.drewN n2 = wx ∧ v = .bool o2)
              case first =>
                cases o1
                · go_wp2
                  go_meet
                  refine ⟨rfl, congrArg Value.bool ?_⟩
                  rw [← HO2.out, Bool.false_or]
                  exact decide_eq_decide.2 (by have := HQ2I.out; have := HQ3I.out; omega)
                · go_wp2
                  go_meet
                  exact ⟨rfl, congrArg Value.bool HO2.out⟩
              case rest =>
              obtain ⟨rfl, rfl⟩ := hcut
              go_upto_region 24 with fail
              go_cut [12] (fun v wx => w.drewN n2 = wx ∧ v = .int .u64 q3i)
              case first =>
                go_wp2
                go_meet
                exact ⟨rfl, rfl⟩
              case rest =>
              obtain ⟨rfl, rfl⟩ := hcut
              clear hw4
              by_cases hc : B ≤ r2 + E
              · have hci : (m2 : Int) ≤ (r2 : Int) := by have := HM2.out; omega
                obtain ⟨r3, hr3⟩ : ∃ r3, r2 + E - B = r3 := ⟨_, rfl⟩
                obtain ⟨q4, hq4⟩ : ∃ q4, (q3 + 1) % 18446744073709551616 = q4 := ⟨_, rfl⟩
                obtain ⟨q4i, hq4i⟩ : ∃ q4i : Int, (q4 : Int) = q4i := ⟨_, rfl⟩
                have hI := Inv.addc (q2 := q3) (q3 := q4) hbp (show Y < 9223372036854775809 by have := HR.out; omega) HI2.out (by rw [HD.out]; exact HQ3.out.symm) hq4.symm (by rw [HEE.out]; exact hc)
                rw [HEE.out, hr3, HO2.out, HE.out] at hI
                have HI3 := Lib.hid hI
                have hw6 : IntKind.u64.wrap ((r2 : Int) - (m2 : Int)) = (r3 : Int) := by
                  have h1 := HM2.out
                  have h2 := HEL.out
                  rw [show (r2 : Int) - (m2 : Int) = (r3 : Int) by omega]
                  exact word_nat _ (by have := HI2.out.rl; have := HB1.out; omega)
                have hw7 : IntKind.u64.wrap (q3i + 1) = q4i := by rw [IntKind.wrap_u64, ← HQ3I.out, ← hq4i]; omega
                have HQ4I := Lib.hid hq4i
                clear hc hr3 hq4 hq4i hI
                cases o2
                · cases hz : decide (q4 = 0)
                  · have hz2 : (q4i == 0) = false := beq_eq_false_iff_ne.2 (by have := HQ4I.out; have := of_decide_eq_false hz; omega)
                    rw [hz] at HI3
                    clear hz
                    go_wp2
                    go_meet
                    exact ⟨⟨n2, rfl⟩, q4, r3, q4i, false, rfl, rfl, rfl, Lib.hid ⟨HQ4I.out, HI3.out⟩⟩
                  · have hz2 : (q4i == 0) = true := beq_iff_eq.2 (by have := HQ4I.out; have := of_decide_eq_true hz; omega)
                    rw [hz] at HI3
                    clear hz
                    go_wp2
                    go_meet
                    exact ⟨⟨n2, rfl⟩, q4, r3, q4i, true, rfl, rfl, rfl, Lib.hid ⟨HQ4I.out, HI3.out⟩⟩
                · go_wp2
                  go_meet
                  exact ⟨⟨n2, rfl⟩, q4, r3, q4i, true, rfl, rfl, rfl, Lib.hid ⟨HQ4I.out, HI3.out⟩⟩
              · have hci : ¬ (m2 : Int) ≤ (r2 : Int) := by have := HM2.out; have := HEL.out; omega
                obtain ⟨r3, hr3⟩ : ∃ r3, r2 + E = r3 := ⟨_, rfl⟩
                have hI := Inv.add (q2 := q3) hbp (show Y < 18446744073709551616 by have := HR.out; omega) HI2.out (by rw [HD.out]; exact HQ3.out.symm) (by rw [HEE.out]; exact hc)
                rw [HEE.out, hr3, HO2.out, HE.out] at hI
                have HI3 := Lib.hid hI
                have hw6 : IntKind.u64.wrap ((r2 : Int) + (E : Int)) = (r3 : Int) := by
                  rw [show (r2 : Int) + (E : Int) = (r3 : Int) by omega]
                  exact word_nat _ (by have := HB1.out; omega)
                clear hc hr3 hI
                go_wp2
                go_meet
                exact ⟨⟨n2, rfl⟩, q3, r3, q3i, o2, rfl, rfl, rfl, Lib.hid ⟨HQ3I.out, HI3.out⟩⟩
        case rest =>
        obtain ⟨⟨n3, rfl⟩, q', r', qi', o', rfl, rfl, rfl, HI'⟩ := hcut
        go_wp2
        go_roundg k
        case measure => omega
        case rel => exact ⟨⟨n3, rfl⟩, q', r', qi', o', by have := HH.out; omega, rfl, rfl, rfl, congrArg (Value.int .i64) (by unfold RowKit.wrap64; have := HH.out; omega), HI'⟩
  case rest =>
  obtain ⟨⟨n, rfl⟩, q, r, qi, o, rfl, rfl, rfl, HI⟩ := hcut
  have HQ := Lib.hid HI.out.1
  cases neg
  · have F := fin_even (neg := false) hbp HI.out.2 (Or.inl rfl)
    cases o
    · have HS0 := F.f rfl
      clear F
      by_cases hm : 9223372036854775807 < qi
      · rw [sgn_pos_big q (by have := HQ.out; omega)] at HS0
        have HS := Lib.hid HS0
        clear HS0
        go_wp2
        go_ret2
        exact ⟨ret_pair (by rw [HS.out]) (by rw [HS.out]), n, rfl⟩
      · rw [sgn_pos_small q (by have := HQ.out; omega)] at HS0
        have HS := Lib.hid HS0
        clear HS0
        have hqq := HQ.out
        have HWN := Lib.hid (show wrap64 qi = (q : Int) by rw [HQ.out]; simp only [wrap64]; have := HQ.out; omega)
        clear hqq
        go_wp2
        go_ret2
        exact ⟨ret_pair (by rw [HS.out]; exact HWN.out) (by rw [HS.out]), n, rfl⟩
    · have HS := Lib.hid (F.t rfl)
      clear F
      go_wp2
      go_ret2
      exact ⟨ret_pair (by rw [HS.out]; rfl) (by rw [HS.out]), n, rfl⟩
  · by_cases hr : 0 < r
    · have hri : (0 : Int) < (r : Int) := by omega
      obtain ⟨q2, hq2⟩ : ∃ q2, q2 = (q + 1) % 18446744073709551616 := ⟨_, rfl⟩
      obtain ⟨q2i, hq2i⟩ : ∃ q2i : Int, (q2 : Int) = q2i := ⟨_, rfl⟩
      have F0 := fin_up hbp HI.out.2 hr hq2
      have hw : IntKind.u64.wrap (qi + 1) = q2i := by rw [IntKind.wrap_u64, ← HQ.out, ← hq2i]; omega
      clear HQ hq2 hr
      have HQ := Lib.hid hq2i
      clear hq2i
      cases o
      · cases hz : decide (q2 = 0)
        · have hz2 : (q2i == 0) = false := beq_eq_false_iff_ne.2 (by have := HQ.out; have := of_decide_eq_false hz; omega)
          rw [hz] at F0
          have F : Fin (scaled X Y B true) q2 true false := F0
          clear hz F0
          have HS0 := F.f rfl
          clear F
          by_cases hm : 9223372036854775808 < q2i
          · rw [sgn_neg_big q2 (by have := HQ.out; omega)] at HS0
            have HS := Lib.hid HS0
            clear HS0
            go_wp2
            go_ret2
            exact ⟨ret_pair (by rw [HS.out]) (by rw [HS.out]), n, rfl⟩
          · rw [sgn_neg_small q2 (by have := HQ.out; omega)] at HS0
            have HS := Lib.hid HS0
            clear HS0
            have hqq := HQ.out
            have hwn : wrap64 (IntKind.u64.wrap (-q2i)) = -(q2 : Int) := by rw [← HQ.out]; exact wrap_neg_eq q2 (by omega)
            have HWN := Lib.hid hwn
            clear hwn
            clear hqq
            go_wp2
            go_ret2
            exact ⟨ret_pair (by rw [HS.out]; exact HWN.out) (by rw [HS.out]), n, rfl⟩
        · have hz2 : (q2i == 0) = true := beq_iff_eq.2 (by have := HQ.out; have := of_decide_eq_true hz; omega)
          rw [hz] at F0
          have F : Fin (scaled X Y B true) q2 true true := F0
          clear hz F0
          have HS := Lib.hid (F.t rfl)
          clear F
          go_wp2
          go_ret2
          exact ⟨ret_pair (by rw [HS.out]; rfl) (by rw [HS.out]), n, rfl⟩
      · have F : Fin (scaled X Y B true) q2 true true := F0
        clear F0
        have HS := Lib.hid (F.t rfl)
        clear F
        go_wp2
        go_ret2
        exact ⟨ret_pair (by rw [HS.out]; rfl) (by rw [HS.out]), n, rfl⟩
    · have hri : ¬ (0 : Int) < (r : Int) := by omega
      have F := fin_even (neg := true) hbp HI.out.2 (Or.inr (by omega))
      clear hr
      cases o
      · have HS0 := F.f rfl
        clear F
        by_cases hm : 9223372036854775808 < qi
        · rw [sgn_neg_big q (by have := HQ.out; omega)] at HS0
          have HS := Lib.hid HS0
          clear HS0
          go_wp2
          go_ret2
          exact ⟨ret_pair (by rw [HS.out]) (by rw [HS.out]), n, rfl⟩
        · rw [sgn_neg_small q (by have := HQ.out; omega)] at HS0
          have HS := Lib.hid HS0
          clear HS0
          have hqq := HQ.out
          have hwn : wrap64 (IntKind.u64.wrap (-qi)) = -(q : Int) := by rw [← HQ.out]; exact wrap_neg_eq q (by omega)
          have HWN := Lib.hid hwn
          clear hwn
          clear hqq
          go_wp2
          go_ret2
          exact ⟨ret_pair (by rw [HS.out]; exact HWN.out) (by rw [HS.out]), n, rfl⟩
      · have HS := Lib.hid (F.t rfl)
        clear F
        go_wp2
        go_ret2
        exact ⟨ret_pair (by rw [HS.out]; rfl) (by rw [HS.out]), n, rfl⟩
end Go.Proofs.YtmbdggbppbkojaaDoor
