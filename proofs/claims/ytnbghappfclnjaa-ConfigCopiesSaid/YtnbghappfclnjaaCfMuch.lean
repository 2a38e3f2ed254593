/- The document's Much of layer 13. -/
import Derived.Test.YtnbghappfclnjaaCfMem
import Derived.Deep.CutBlock
namespace Go.Proofs.Ytnbghappfclnjaa
open Go.RowKit

set_option maxRecDepth 100000 in
set_option maxHeartbeats 2000000 in
theorem much13_any (c : Cf) (w : World) (hr : c.Reads w w.heap.size) (hf : c.Fits) :
    Calls Try.prog 15 #[c.val] w fun e w' => e = .returned (.bool c.much) ∧ Below w.heap.size w w' := by
  have HR := Lib.hid hr
  have HF := Lib.hid hf
  have l1 : (c.ts.length : Int) ≤ 9223372036854775807 := by have := hr.tlen; omega
  have l2 : (c.by'.length : Int) ≤ 9223372036854775807 := by have := hr.blen; omega
  clear hr hf
  have hA := CfAt.new w c
  unfold Cf.obj at hA
  unfold Cf.val
  go_enter Try.func15, Try.ntmps15
  go_upto_region 1 with fail
  have hbel0 := Below.box (Below.refl (w.alloc (.cells #[.slice c.A c.ts.length c.cap, .int .i64 c.win, .int .i64 c.lat, .slice c.B c.by'.length c.cb, .int .i64 c.ser, .int .i64 c.wins, .int .i64 c.que, .int .i64 c.con, .int .i64 c.bod, .int .i64 c.base, .int .i64 c.most] 38)).heap.size _)
  have HL0 := Lib.hid (show w.heap.size < (w.alloc (.cells #[.slice c.A c.ts.length c.cap, .int .i64 c.win, .int .i64 c.lat, .slice c.B c.by'.length c.cb, .int .i64 c.ser, .int .i64 c.wins, .int .i64 c.que, .int .i64 c.con, .int .i64 c.bod, .int .i64 c.base, .int .i64 c.most] 38)).heap.size by simp)
  generalize w.alloc (.cells #[.slice c.A c.ts.length c.cap, .int .i64 c.win, .int .i64 c.lat, .slice c.B c.by'.length c.cb, .int .i64 c.ser, .int .i64 c.wins, .int .i64 c.que, .int .i64 c.con, .int .i64 c.bod, .int .i64 c.base, .int .i64 c.most] 38) = w0 at hA hbel0 HL0 ⊢
  have HA := Lib.hid hA
  have HB0 := Lib.hid hbel0
  clear hA hbel0
  have HT := Lib.hid (fun (wr : World) (h : Below w0.heap.size w0 wr) => show CfAt wr w.heap.size c ∧ tK.Reads wr w.heap.size c.A c.ts ∧ bK.Reads wr w.heap.size c.B c.by' from ⟨HA.out.below h HL0.out, (HR.out.ts.below HB0.out).below (h.mono (Nat.le_of_lt HL0.out)), (HR.out.by'.below HB0.out).below (h.mono (Nat.le_of_lt HL0.out))⟩)
  go_upto_block 0 with fail
  go_cut [3] from 4 to 41 (fun n wx => n = .int .i64 (sumT (c.ts.take 21) : Nat) ∧ Hid (Below w0.heap.size w0 wx))
  case first =>
    go_wp2_with fail
    go_loopw [3, 4] (fun n i wr => ∃ k : Nat, k ≤ 21 ∧ k ≤ c.ts.length ∧ i = .int .i64 k ∧ n = .int .i64 (sumT (c.ts.take k) : Nat) ∧ Hid (Below w0.heap.size w0 wr)) (fun _ i _ => 21 - (intOf i).toNat)
    case atStart => exact ⟨0, by omega, by omega, rfl, rfl, Lib.hid (Below.refl _ _)⟩
    case round =>
      obtain ⟨k, hk, hkl, rfl, rfl, HB⟩ := hrel
      obtain ⟨hcf, htr, -⟩ := HT.out _ HB.out
      obtain ⟨a0, a1, a2, a3, a4, a5, a6, a7, a8, a9, a10⟩ := hcf
      have HTR := Lib.hid htr
      clear htr
      have hsl := sumT_le k (l := c.ts) HF.out.ts
      obtain ⟨S, hS⟩ : ∃ S, S = sumT (c.ts.take k) := ⟨_, rfl⟩
      rw [← hS] at hsl ⊢
      by_cases hlt : k < c.ts.length
      · by_cases h20 : k ≤ 20
        · obtain ⟨t, ht⟩ : ∃ t, c.ts[k]? = some t := ⟨_, List.getElem?_eq_getElem hlt⟩
          have hft := HF.out.ts t (List.mem_of_getElem? ht)
          have HN := Lib.hid (show sumT (c.ts.take (k + 1)) = S + t.size by rw [sumT_snoc ht, hS])
          obtain ⟨b, off, hA0, hb, hc⟩ := HTR.out.at tOk (by omega)
          have c0 := hc k t ht 0 _ rfl
          have c1 := hc k t ht 1 _ rfl
          have c2 := hc k t ht 2 _ rfl
          simp only [tK, Nat.add_zero] at c0 c1 c2
          rw [← Nat.add_assoc] at c1 c2
          rw [hA0] at a0
          clear hc ht hS
          have hlt' : (k : Int) < (c.ts.length : Int) := by omega
          have h20' : (k : Int) ≤ 20 := by omega
          unfold Tg.fits at hft
          obtain ⟨f0, f1, f2⟩ := hft
          have hS0 : (S : Int) ≤ 17732923532771328 := by omega
          have g0 : (t.job.size : Int) ≤ 281474976710656 := by omega
          have g1 : (t.host.size : Int) ≤ 281474976710656 := by omega
          have g2 : (t.path.size : Int) ≤ 281474976710656 := by omega
          have g3 : (S : Int) + (t.job.size : Int) ≤ 18014398509481984 := by omega
          have g4 : (S : Int) + (t.job.size : Int) + (t.host.size : Int) ≤ 18295873486192640 := by omega
          have hk0 : (0 : Int) ≤ (k : Int) := by omega
          clear hsl f0 f1 f2
          go_wp2_with fail
          go_quiet (fail)
          go_wp2
          go_roundw
          case rel => exact ⟨k + 1, by omega, by omega, by go_num, by rw [HN.out]; exact congrArg (Value.int .i64) (by unfold Tg.size; omega), Lib.hid (below_drewN HB.out _)⟩
          case measure => simp [intOf] <;> omega
        · have hlt' : (k : Int) < (c.ts.length : Int) := by omega
          have h20' : decide ((k : Int) ≤ 20) = false := by rw [decide_eq_false_iff_not]; omega
          obtain rfl : k = 21 := by omega
          go_wp2_with fail
          go_meet
          exact ⟨by first | rfl | rw [hS], HB⟩
      · have hlt' : decide ((k : Int) < (c.ts.length : Int)) = false := by rw [decide_eq_false_iff_not]; omega
        have HE := Lib.hid (show S = sumT (c.ts.take 21) by rw [hS, List.take_of_length_le (by omega), List.take_of_length_le (by omega)])
        clear hS
        go_wp2_with fail
        go_meet
        exact ⟨by rw [HE.out], HB⟩
  case rest =>
  obtain ⟨rfl, HB1⟩ := hcut
  obtain ⟨SA, hSA⟩ : ∃ SA, SA = sumT (c.ts.take 21) := ⟨_, rfl⟩
  have hsa := sumT_le 21 (l := c.ts) HF.out.ts
  rw [← hSA] at hsa ⊢
  have hsa' : (SA : Int) ≤ 17732923532771328 := by omega
  clear hsa
  go_upto_block 2 with fail
  go_cut [3] from 5 to 60 (fun n wx => n = .int .i64 (SA + sumB (c.by'.take 21) : Nat) ∧ Hid (Below w0.heap.size w0 wx))
  case first =>
    go_wp2_with fail
    go_loopw [3, 5] (fun n i wr => ∃ k : Nat, k ≤ 21 ∧ k ≤ c.by'.length ∧ i = .int .i64 k ∧ n = .int .i64 (SA + sumB (c.by'.take k) : Nat) ∧ Hid (Below w0.heap.size w0 wr)) (fun _ i _ => 21 - (intOf i).toNat)
    case atStart => exact ⟨0, by omega, by omega, rfl, rfl, HB1⟩
    case round =>
      obtain ⟨k, hk, hkl, rfl, rfl, HB⟩ := hrel
      obtain ⟨hcf, -, htr⟩ := HT.out _ HB.out
      obtain ⟨a0, a1, a2, a3, a4, a5, a6, a7, a8, a9, a10⟩ := hcf
      have HTR := Lib.hid htr
      clear htr
      have hsl := sumB_le k (l := c.by') HF.out.by'
      obtain ⟨S, hS⟩ : ∃ S, S = sumB (c.by'.take k) := ⟨_, rfl⟩
      rw [← hS] at hsl ⊢
      by_cases hlt : k < c.by'.length
      · by_cases h20 : k ≤ 20
        · obtain ⟨t, ht⟩ : ∃ t, c.by'[k]? = some t := ⟨_, List.getElem?_eq_getElem hlt⟩
          have hft := HF.out.by' t (List.mem_of_getElem? ht)
          have HN := Lib.hid (show sumB (c.by'.take (k + 1)) = S + t.size by rw [sumB_snoc ht, hS])
          obtain ⟨b, off, hA0, hb, hc⟩ := HTR.out.at bOk (by omega)
          have c0 := hc k t ht 0 _ rfl
          simp only [bK, Nat.add_zero, Nat.mul_one] at c0
          rw [hA0] at a3
          clear hc ht hS
          have hlt' : (k : Int) < (c.by'.length : Int) := by omega
          have h20' : (k : Int) ≤ 20 := by omega
          have hS0 : ((SA + S : Nat) : Int) ≤ 25332747903959040 := by omega
          have g0 : (t.size : Int) ≤ 281474976710656 := by omega
          have hk0 : (0 : Int) ≤ (k : Int) := by omega
          obtain ⟨Q, hQ⟩ : ∃ Q, Q = SA + S := ⟨_, rfl⟩
          rw [← hQ] at hS0 ⊢
          have HQ := Lib.hid hQ
          clear hsl hQ
          go_wp2_with fail
          go_roundw
          case rel => exact ⟨k + 1, by omega, by omega, by go_num, by rw [HN.out, ← Nat.add_assoc, ← HQ.out]; exact congrArg (Value.int .i64) (by omega), HB⟩
          case measure => simp [intOf] <;> omega
        · have hlt' : (k : Int) < (c.by'.length : Int) := by omega
          have h20' : decide ((k : Int) ≤ 20) = false := by rw [decide_eq_false_iff_not]; omega
          obtain rfl : k = 21 := by omega
          go_wp2_with fail
          go_meet
          exact ⟨by first | rfl | exact congrArg (Value.int .i64) (by omega), HB⟩
      · have hlt' : decide ((k : Int) < (c.by'.length : Int)) = false := by rw [decide_eq_false_iff_not]; omega
        have HE := Lib.hid (show S = sumB (c.by'.take 21) by rw [hS, List.take_of_length_le (by omega), List.take_of_length_le (by omega)])
        clear hS
        go_wp2_with fail
        go_meet
        exact ⟨by rw [HE.out], HB⟩
  case rest =>
  obtain ⟨rfl, HB2⟩ := hcut
  obtain ⟨SB, hSB⟩ : ∃ SB, SB = SA + sumB (c.by'.take 21) := ⟨_, rfl⟩
  rw [← hSB]
  have HM := Lib.hid (show c.much = (decide (20 < c.ts.length) || (decide (20 < c.by'.length) || decide (6000 < SB))) by unfold Cf.much; rw [hSB, hSA])
  clear hSB hSA
  obtain ⟨hcf, -, -⟩ := HT.out _ HB2.out
  obtain ⟨a0, a1, a2, a3, a4, a5, a6, a7, a8, a9, a10⟩ := hcf
  have HB3 := Lib.hid (HB0.out.trans (HB2.out.mono (Nat.le_of_lt HL0.out)))
  by_cases q1 : 20 < c.ts.length
  · have q1' : (20 : Int) < (c.ts.length : Int) := by omega
    rw [decide_eq_true q1] at HM
    go_wp2
    go_ret
    exact ⟨by rw [HM.out]; rfl, HB3.out⟩
  · have q1' : decide ((20 : Int) < (c.ts.length : Int)) = false := by rw [decide_eq_false_iff_not]; omega
    rw [decide_eq_false q1] at HM
    by_cases q2 : 20 < c.by'.length
    · have q2' : (20 : Int) < (c.by'.length : Int) := by omega
      rw [decide_eq_true q2] at HM
      go_wp2
      go_ret
      exact ⟨by rw [HM.out]; rfl, HB3.out⟩
    · have q2' : decide ((20 : Int) < (c.by'.length : Int)) = false := by rw [decide_eq_false_iff_not]; omega
      rw [decide_eq_false q2] at HM
      by_cases q3 : 6000 < SB
      · have q3' : (6000 : Int) < (SB : Int) := by omega
        rw [decide_eq_true q3] at HM
        go_wp2
        go_ret
        exact ⟨by rw [HM.out]; rfl, HB3.out⟩
      · have q3' : decide ((6000 : Int) < (SB : Int)) = false := by rw [decide_eq_false_iff_not]; omega
        rw [decide_eq_false q3] at HM
        go_wp2
        go_ret
        exact ⟨by rw [HM.out]; rfl, HB3.out⟩
end Go.Proofs.Ytnbghappfclnjaa
