/- RequestReads: the walk. -/
import Derived.Test.YtlpmfckhioppaaaReqKnown
namespace Go.Proofs.Ytlpmfckhioppaaa
open Go.RowKit

namespace requestReads
def Fin (w : World) (e : Ending) (w' : World) : Prop := e = .returned (.bool true) ∧ Below w.heap.size w w'
set_option maxRecDepth 100000 in
set_option maxHeartbeats 1000000 in
theorem early (A : Option Addr) (c n : Nat) (w : World) (hn : n ≤ 9223372036854775807) (h : 4000 < (n : Int)) :
    Calls Try.prog 6 #[.slice A n c] w (Fin w) := by
  have HK := Lib.hid (known_yes w)
  go_enter Try.func6, Try.ntmps6
  go_wp2_with fail
  refine (Hid.out HK).mono ?_
  rintro e w1 ⟨rfl, hb1⟩
  go_wp2
  go_ret
  exact ⟨rfl, hb1⟩
theorem first_three (s : ByteArray) (w : World) (hs : s.size ≤ 100000) (o : Option (List UInt8 × List UInt8)) (ho : o = firstB s.data.toList) :
    Calls Try.prog 28 #[.string s] w fun e w' => e = .returned (.tuple #[.string ⟨(hostR o).toArray⟩, .string ⟨(pathR o).toArray⟩, .int .i64 (sizeB o : Int)]) ∧ w = w' := by
  subst ho
  exact first_any s w hs
set_option maxRecDepth 100000 in
set_option maxHeartbeats 4000000 in
theorem main (A : Option Addr) (c : Nat) (l : List UInt8) (w : World) (hl : l.length ≤ 4000) (hr : BReads w w.heap.size A l) (hc : l.length ≤ c) (hn : A = none → c = 0) (hm : MX w) (h0 : 0 < w.heap.size) :
    Calls Try.prog 6 #[.slice A l.length c] w (Fin w) := by
  have HR := Lib.hid hr
  have HC := Lib.hid hc
  have HN := Lib.hid hn
  have HM := Lib.hid hm
  have H0 := Lib.hid h0
  have HL := Lib.hid hl
  have HK := Lib.hid (fun W => known_yes W)
  have HLE := Lib.hid (aheadB_le l)
  have HTX : Hid (∀ W, Below w.heap.size w W → (convert 30 9 (.slice A l.length c)).run Try.prog W = .ok (.string ⟨l.toArray⟩) W) := Lib.hid (fun W hW => run_bytes_text W 9 30 Try.underlying30 Try.underlying9 c (hr.below hW))
  obtain ⟨S, hS⟩ : ∃ S : ByteArray, S = ⟨l.toArray⟩ := ⟨_, rfl⟩
  rw [← hS] at HTX
  have HS := Lib.hid (show S.data.toList = l by rw [hS])
  have HSZ := Lib.hid (show S.size ≤ 100000 by rw [Lib.size_eq, HS.out]; omega)
  have HF := Lib.hid (fun W => first_three S W HSZ.out (firstB l) (by rw [HS.out]))
  obtain ⟨n, hn2⟩ : ∃ n, n = l.length := ⟨_, rfl⟩
  have HN2 := Lib.hid hn2
  have hnz : decide (4000 < (n : Int)) = false := by rw [decide_eq_false_iff_not]; omega
  have HLA := Lib.hid (show ([] : List UInt8).length + l.length ≤ 1000000 by simp; omega)
  rw [← hn2] at HTX ⊢
  clear hr hc hn hm h0 hl hn2 hS
  go_enter Try.func6, Try.ntmps6
  go_wp2_with (at_builtin; refine wpList_append_bytes rfl (.const (.slice none 0 0)) (.tmp 15) rfl w.heap.size (.slice none 0 0) [] rfl (World.ownsRow_nil _ _ _ _) w.heap.size A l c (by rw [← HN2.out]; rfl) HR.out HN.out HLA.out (Nat.le_refl _) ?_; intro v1 w1 hown1 hb1; have HO1 := Lib.hid hown1; have HB1 := Lib.hid hb1; clear hown1 hb1)
  obtain ⟨A1, c1, hv1, hr1, hc1, hn1⟩ := HO1.out.sl
  change v1 = .slice A1 l.length c1 at hv1
  change BReads w1 w1.heap.size A1 l at hr1
  change l.length ≤ c1 at hc1
  rw [← HN2.out] at hv1
  subst hv1
  have HR1 := Lib.hid hr1
  have HC1 := Lib.hid hc1
  have HN1 := Lib.hid hn1
  have HM1 := Lib.hid (HM.out.below H0.out HB1.out)
  have H01 := Lib.hid (Nat.lt_of_lt_of_le H0.out HB1.out.size)
  have HL6 := Lib.hid (show l.length ≤ 1000000 by have := HL.out; omega)
  have hof := of_any hr1 hc1 hn1 HL6.out HM1.out H01.out
  rw [← HN2.out] at hof
  have HOF := Lib.hid hof
  have HTX1 : Hid (∀ W, Below w1.heap.size w1 W → (convert 30 9 (.slice A1 n c1)).run Try.prog W = .ok (.string S) W) := Lib.hid (fun W hW => by
    have h := run_bytes_text W 9 30 Try.underlying30 Try.underlying9 c1 (HR1.out.below hW)
    rw [← HN2.out] at h
    rw [h]
    exact congrArg (fun x => Result.ok (Value.string x) W) (ba_eq HS.out).symm)
  have HAC : Hid (∀ W, Below w1.heap.size w1 W → Calls Try.prog 27 #[.slice A1 n c1] W fun e w' => e = .returned (.int .i64 (aheadB l : Int)) ∧ Below W.heap.size W w') := Lib.hid (fun W hW => by
    have h := ahead_any (HR1.out.up (Nat.le_refl _) hW) HC1.out HN1.out HL6.out (HM1.out.below H01.out hW) (Nat.lt_of_lt_of_le H01.out hW.size)
    rw [← HN2.out] at h
    exact h)
  have HOV : Hid (OV l = if wholeB l = true then .tuple #[.string ⟨(hostR (firstB l)).toArray⟩, .string ⟨(pathR (firstB l)).toArray⟩, .int .i64 0] else .tuple #[.string ⟨#[]⟩, .string ⟨#[]⟩, .int .i64 2]) := Lib.hid rfl
  have HW : Hid (wholeB l = (decide (sizeB (firstB l) ≠ 0) && decide (sizeB (firstB l) = l.length))) := Lib.hid rfl
  have HZL := Lib.hid (sizeB_le l)
  have HK0 : Hid (sizeB (firstB (l.drop 0)) = sizeB (firstB l)) := Lib.hid (by rw [List.drop_zero])
  rw [← HN2.out] at HW HZL
  generalize OV l = ov at HOF HOV
  generalize sizeB (firstB l) = z at HF HW HZL HK0
  generalize (⟨(hostR (firstB l)).toArray⟩ : ByteArray) = X at HF HOV
  generalize (⟨(pathR (firstB l)).toArray⟩ : ByteArray) = P at HF HOV
  have hz0 : z ≤ n := HZL.out
  have hn4 : n ≤ 4000 := by rw [HN2.out]; exact HL.out
  clear hr1 hc1 hn1 hof HO1 HM
  have HFT : Hid (∀ (k : Nat) (W : World), Calls Try.prog 28 #[.string ⟨(l.drop k).toArray⟩] W fun e w' => (∃ x y, e = .returned (.tuple #[.string x, .string y, .int .i64 (sizeB (firstB (l.drop k)) : Int)])) ∧ W = w') := Lib.hid (fun k W => by
    refine (first_three ⟨(l.drop k).toArray⟩ W (by rw [Lib.size_eq]; show (l.drop k).length ≤ _; rw [List.length_drop]; have := HL.out; omega) (firstB (l.drop k)) rfl).mono fun e w' h => ⟨⟨_, _, h.1⟩, h.2⟩)
  by_cases hw : wholeB l = true
  · rw [hw, if_pos rfl] at HOV
    rw [hw] at HW
    have hwc := HW.out.symm
    rw [Bool.and_eq_true, decide_eq_true_eq, decide_eq_true_eq] at hwc
    obtain ⟨hz1, hz2⟩ := hwc
    have hzp : (0 : Int) < (z : Int) := by omega
    have hzd : decide (0 < z) = true := by rw [decide_eq_true_eq]; omega
    have hzn : ((z : Int) == (n : Int)) = true := by rw [beq_iff_eq]; omega
    rw [HOV.out] at HOF
    clear hw HW hz1 hz2 HOV
    go_wp2_with fail
    refine (Hid.out HOF).mono ?_
    rintro e w2 ⟨rfl, hb2⟩
    have HB2 := Lib.hid (HB1.out.trans (hb2.mono HB1.out.size))
    have HB12 := Lib.hid hb2
    have hcv := HTX.out w2 HB2.out
    clear hb2 HOF
    go_wp2_with (refine (HF.out _).mono ?_; rintro e w3 ⟨rfl, rfl⟩)
    clear hcv
    try simp only [decide_true, decide_false]
    go_loopw [9, 10] (fun zv kv wr => ∃ k z' : Nat, k ≤ n ∧ kv = .int .i64 k ∧ zv = .int .i64 z' ∧ z' + k ≤ n ∧ Hid (z' = sizeB (firstB (l.drop k))) ∧ Hid (k + aheadB (l.drop k) = aheadB l) ∧ Hid (Below w1.heap.size w1 wr)) (fun _ kv _ => n - (intOf kv).toNat)
    case atStart => exact ⟨0, _, Nat.zero_le _, rfl, rfl, hz0, Lib.hid HK0.out.symm, Lib.hid (by rw [List.drop_zero, Nat.zero_add]), HB12⟩
    case round =>
      obtain ⟨k, z', hk, rfl, rfl, hzk, HZ, HK1, HBr⟩ := hrel
      by_cases hz : z' = 0
      · have hz' : decide ((0 : Int) < (z' : Int)) = false := by rw [decide_eq_false_iff_not]; omega
        have hzf : decide (0 < z') = false := by rw [decide_eq_false_iff_not]; omega
        have hzg : ¬ (0 < z') := by omega
        have HE := Lib.hid (show aheadB l = k by rw [← HK1.out, aheadB_stop (by rw [← HZ.out]; exact hz)]; rfl)
        have HA := Lib.hid (HAC.out _ HBr.out)
        rw [HE.out] at HA
        clear hz
        go_wp2_with fail
        refine (Hid.out HA).mono ?_
        rintro e w4 ⟨rfl, hb4⟩
        have HB4 := Lib.hid (HBr.out.trans (hb4.mono HBr.out.size))
        have HB04 := Lib.hid (HB1.out.trans (HB4.out.mono HB1.out.size))
        have hcv1 := HTX1.out w4 HB4.out
        have hcv2 := HTX.out w4 HB04.out
        clear hb4
        go_wp2_with fail
        refine (HK.out _).mono ?_
        rintro e w5 ⟨rfl, hb5⟩
        have HB5 := Lib.hid (HB04.out.trans (hb5.mono HB04.out.size))
        clear hb5 hcv1 hcv2
        go_wp2
        go_ret
        exact ⟨rfl, HB5.out⟩
      · have hz' : (0 : Int) < (z' : Int) := by omega
        have hgo := aheadB_go (s := l.drop k) (by rw [← HZ.out]; exact hz)
        rw [← HZ.out, List.drop_drop] at hgo
        have hle := sizeB_le (l.drop (k + z'))
        rw [List.length_drop, ← HN2.out] at hle
        have HG := Lib.hid hgo
        have hkz : (0 : Int) ≤ (k : Int) + (z' : Int) := by omega
        obtain ⟨A', hsl, hr', _⟩ := from_ok HR.out HC.out HN.out n HN2.out (k + z') (by omega)
        rw [Int.natCast_add] at hsl
        have hcv : (convert 30 9 (.slice A' (n - (k + z')) (c - (k + z')))).run Try.prog wr = .ok (.string ⟨(l.drop (k + z')).toArray⟩) wr := by
          have h := run_bytes_text wr 9 30 Try.underlying30 Try.underlying9 (c - (k + z')) (hr'.below (HB1.out.trans (HBr.out.mono HB1.out.size)))
          rw [List.length_drop, ← HN2.out] at h
          exact h
        have HFK := Lib.hid (HFT.out (k + z') wr)
        obtain ⟨z2, hz2⟩ : ∃ z2, z2 = sizeB (firstB (l.drop (k + z'))) := ⟨_, rfl⟩
        have HZ2 := Lib.hid hz2
        rw [← hz2] at HFK hle
        obtain ⟨D, hD⟩ : ∃ D : ByteArray, D = ⟨(l.drop (k + z')).toArray⟩ := ⟨_, rfl⟩
        rw [← hD] at hcv HFK
        clear hz hgo hr' hz2 hD
        go_wp2_with (refine (Hid.out HFK).mono ?_; rintro e w4 ⟨⟨x4, y4, rfl⟩, rfl⟩)
        go_roundw
        case rel => exact ⟨k + z', z2, by omega, by go_num, rfl, by omega, HZ2, Lib.hid (by have h1 := HK1.out; have h2 := HG.out; omega), HBr⟩
        case measure => simp [intOf] <;> omega
  · rw [if_neg hw] at HOV
    rw [HOV.out] at HOF
    have hwc : ¬ (z ≠ 0 ∧ z = n) := fun h => hw (by rw [HW.out, decide_eq_true h.1, decide_eq_true h.2]; rfl)
    clear hw HW HOV
    by_cases hzn' : z = n
    · have hzp : decide ((0 : Int) < (z : Int)) = false := by rw [decide_eq_false_iff_not]; omega
      have hzpf : decide (0 < z) = false := by rw [decide_eq_false_iff_not]; omega
      have hzpg : ¬ (0 < z) := by omega
      have hzn : ((z : Int) == (n : Int)) = true := by rw [beq_iff_eq]; omega
      clear hwc hzn'
      go_wp2_with fail
      refine (Hid.out HOF).mono ?_
      rintro e w2 ⟨rfl, hb2⟩
      have HB2 := Lib.hid (HB1.out.trans (hb2.mono HB1.out.size))
      have HB12 := Lib.hid hb2
      have hcv := HTX.out w2 HB2.out
      clear hb2 HOF
      go_wp2_with (refine (HF.out _).mono ?_; rintro e w3 ⟨rfl, rfl⟩)
      clear hcv
      try simp only [decide_true, decide_false]
      go_loopw [9, 10] (fun zv kv wr => ∃ k z' : Nat, k ≤ n ∧ kv = .int .i64 k ∧ zv = .int .i64 z' ∧ z' + k ≤ n ∧ Hid (z' = sizeB (firstB (l.drop k))) ∧ Hid (k + aheadB (l.drop k) = aheadB l) ∧ Hid (Below w1.heap.size w1 wr)) (fun _ kv _ => n - (intOf kv).toNat)
      case atStart => exact ⟨0, _, Nat.zero_le _, rfl, rfl, hz0, Lib.hid HK0.out.symm, Lib.hid (by rw [List.drop_zero, Nat.zero_add]), HB12⟩
      case round =>
        obtain ⟨k, z', hk, rfl, rfl, hzk, HZ, HK1, HBr⟩ := hrel
        by_cases hz : z' = 0
        · have hz' : decide ((0 : Int) < (z' : Int)) = false := by rw [decide_eq_false_iff_not]; omega
          have hzf : decide (0 < z') = false := by rw [decide_eq_false_iff_not]; omega
          have hzg : ¬ (0 < z') := by omega
          have HE := Lib.hid (show aheadB l = k by rw [← HK1.out, aheadB_stop (by rw [← HZ.out]; exact hz)]; rfl)
          have HA := Lib.hid (HAC.out _ HBr.out)
          rw [HE.out] at HA
          clear hz
          go_wp2_with fail
          refine (Hid.out HA).mono ?_
          rintro e w4 ⟨rfl, hb4⟩
          have HB4 := Lib.hid (HBr.out.trans (hb4.mono HBr.out.size))
          have HB04 := Lib.hid (HB1.out.trans (HB4.out.mono HB1.out.size))
          have hcv1 := HTX1.out w4 HB4.out
          have hcv2 := HTX.out w4 HB04.out
          clear hb4
          go_wp2_with fail
          refine (HK.out _).mono ?_
          rintro e w5 ⟨rfl, hb5⟩
          have HB5 := Lib.hid (HB04.out.trans (hb5.mono HB04.out.size))
          clear hb5 hcv1 hcv2
          go_wp2
          go_ret
          exact ⟨rfl, HB5.out⟩
        · have hz' : (0 : Int) < (z' : Int) := by omega
          have hgo := aheadB_go (s := l.drop k) (by rw [← HZ.out]; exact hz)
          rw [← HZ.out, List.drop_drop] at hgo
          have hle := sizeB_le (l.drop (k + z'))
          rw [List.length_drop, ← HN2.out] at hle
          have HG := Lib.hid hgo
          have hkz : (0 : Int) ≤ (k : Int) + (z' : Int) := by omega
          obtain ⟨A', hsl, hr', _⟩ := from_ok HR.out HC.out HN.out n HN2.out (k + z') (by omega)
          rw [Int.natCast_add] at hsl
          have hcv : (convert 30 9 (.slice A' (n - (k + z')) (c - (k + z')))).run Try.prog wr = .ok (.string ⟨(l.drop (k + z')).toArray⟩) wr := by
            have h := run_bytes_text wr 9 30 Try.underlying30 Try.underlying9 (c - (k + z')) (hr'.below (HB1.out.trans (HBr.out.mono HB1.out.size)))
            rw [List.length_drop, ← HN2.out] at h
            exact h
          have HFK := Lib.hid (HFT.out (k + z') wr)
          obtain ⟨z2, hz2⟩ : ∃ z2, z2 = sizeB (firstB (l.drop (k + z'))) := ⟨_, rfl⟩
          have HZ2 := Lib.hid hz2
          rw [← hz2] at HFK hle
          obtain ⟨D, hD⟩ : ∃ D : ByteArray, D = ⟨(l.drop (k + z')).toArray⟩ := ⟨_, rfl⟩
          rw [← hD] at hcv HFK
          clear hz hgo hr' hz2 hD
          go_wp2_with (refine (Hid.out HFK).mono ?_; rintro e w4 ⟨⟨x4, y4, rfl⟩, rfl⟩)
          go_roundw
          case rel => exact ⟨k + z', z2, by omega, by go_num, rfl, by omega, HZ2, Lib.hid (by have h1 := HK1.out; have h2 := HG.out; omega), HBr⟩
          case measure => simp [intOf] <;> omega
    · have hzn : ((z : Int) == (n : Int)) = false := by rw [beq_eq_false_iff_ne]; omega
      clear hwc hzn'
      go_wp2_with fail
      refine (Hid.out HOF).mono ?_
      rintro e w2 ⟨rfl, hb2⟩
      have HB2 := Lib.hid (HB1.out.trans (hb2.mono HB1.out.size))
      have HB12 := Lib.hid hb2
      have hcv := HTX.out w2 HB2.out
      clear hb2 HOF
      go_wp2_with (refine (HF.out _).mono ?_; rintro e w3 ⟨rfl, rfl⟩)
      clear hcv
      try simp only [decide_true, decide_false]
      go_loopw [9, 10] (fun zv kv wr => ∃ k z' : Nat, k ≤ n ∧ kv = .int .i64 k ∧ zv = .int .i64 z' ∧ z' + k ≤ n ∧ Hid (z' = sizeB (firstB (l.drop k))) ∧ Hid (k + aheadB (l.drop k) = aheadB l) ∧ Hid (Below w1.heap.size w1 wr)) (fun _ kv _ => n - (intOf kv).toNat)
      case atStart => exact ⟨0, _, Nat.zero_le _, rfl, rfl, hz0, Lib.hid HK0.out.symm, Lib.hid (by rw [List.drop_zero, Nat.zero_add]), HB12⟩
      case round =>
        obtain ⟨k, z', hk, rfl, rfl, hzk, HZ, HK1, HBr⟩ := hrel
        by_cases hz : z' = 0
        · have hz' : decide ((0 : Int) < (z' : Int)) = false := by rw [decide_eq_false_iff_not]; omega
          have hzf : decide (0 < z') = false := by rw [decide_eq_false_iff_not]; omega
          have hzg : ¬ (0 < z') := by omega
          have HE := Lib.hid (show aheadB l = k by rw [← HK1.out, aheadB_stop (by rw [← HZ.out]; exact hz)]; rfl)
          have HA := Lib.hid (HAC.out _ HBr.out)
          rw [HE.out] at HA
          clear hz
          go_wp2_with fail
          refine (Hid.out HA).mono ?_
          rintro e w4 ⟨rfl, hb4⟩
          have HB4 := Lib.hid (HBr.out.trans (hb4.mono HBr.out.size))
          have HB04 := Lib.hid (HB1.out.trans (HB4.out.mono HB1.out.size))
          have hcv1 := HTX1.out w4 HB4.out
          have hcv2 := HTX.out w4 HB04.out
          clear hb4
          go_wp2_with fail
          refine (HK.out _).mono ?_
          rintro e w5 ⟨rfl, hb5⟩
          have HB5 := Lib.hid (HB04.out.trans (hb5.mono HB04.out.size))
          clear hb5 hcv1 hcv2
          go_wp2
          go_ret
          exact ⟨rfl, HB5.out⟩
        · have hz' : (0 : Int) < (z' : Int) := by omega
          have hgo := aheadB_go (s := l.drop k) (by rw [← HZ.out]; exact hz)
          rw [← HZ.out, List.drop_drop] at hgo
          have hle := sizeB_le (l.drop (k + z'))
          rw [List.length_drop, ← HN2.out] at hle
          have HG := Lib.hid hgo
          have hkz : (0 : Int) ≤ (k : Int) + (z' : Int) := by omega
          obtain ⟨A', hsl, hr', _⟩ := from_ok HR.out HC.out HN.out n HN2.out (k + z') (by omega)
          rw [Int.natCast_add] at hsl
          have hcv : (convert 30 9 (.slice A' (n - (k + z')) (c - (k + z')))).run Try.prog wr = .ok (.string ⟨(l.drop (k + z')).toArray⟩) wr := by
            have h := run_bytes_text wr 9 30 Try.underlying30 Try.underlying9 (c - (k + z')) (hr'.below (HB1.out.trans (HBr.out.mono HB1.out.size)))
            rw [List.length_drop, ← HN2.out] at h
            exact h
          have HFK := Lib.hid (HFT.out (k + z') wr)
          obtain ⟨z2, hz2⟩ : ∃ z2, z2 = sizeB (firstB (l.drop (k + z'))) := ⟨_, rfl⟩
          have HZ2 := Lib.hid hz2
          rw [← hz2] at HFK hle
          obtain ⟨D, hD⟩ : ∃ D : ByteArray, D = ⟨(l.drop (k + z')).toArray⟩ := ⟨_, rfl⟩
          rw [← hD] at hcv HFK
          clear hz hgo hr' hz2 hD
          go_wp2_with (refine (Hid.out HFK).mono ?_; rintro e w4 ⟨⟨x4, y4, rfl⟩, rfl⟩)
          go_roundw
          case rel => exact ⟨k + z', z2, by omega, by go_num, rfl, by omega, HZ2, Lib.hid (by have h1 := HK1.out; have h2 := HG.out; omega), HBr⟩
          case measure => simp [intOf] <;> omega
end requestReads
end Go.Proofs.Ytlpmfckhioppaaa
