/- Whether there are few scrapes (layer 17). -/
import Derived.Test.YtcjmieofmogeiaaStPt
namespace Go.Proofs.Ytcjmieofmogeiaa
open Go.RowKit

set_option maxRecDepth 100000 in
set_option maxHeartbeats 2000000 in
theorem fewD_any (A0 : Option Addr) (cap most : Nat) (l : List Pt) (w : World) (hl : l.length ≤ 9223372036854775807) (hm : most ≤ 60) (hr : PReads w w.heap.size A0 l) :
    Calls Try.prog 8 #[.slice A0 l.length cap, .int .i64 (most : Int)] w fun e w' => e = .returned (.bool (fewP l most)) ∧ Below w.heap.size w w' := by
  have HR := Lib.hid hr
  have HM := Lib.hid hm
  obtain ⟨NN, hNN⟩ : ∃ NN, NN = l.length := ⟨_, rfl⟩
  rw [← hNN]
  have HNN := Lib.hid hNN
  have hn64 : (NN : Int) ≤ 9223372036854775807 := by omega
  clear hr hm hl hNN
  go_enter Try.func8, Try.ntmps8
  go_wp2
  go_loopw [5, 6] (fun s i wr => ∃ k : Nat, k ≤ NN ∧ k ≤ most + 1 ∧ i = .int .i64 k ∧ s = .int .i64 (sumP (l.take k) : Int) ∧ Hid (sumP (l.take k) ≤ k * 140737488355328) ∧ Hid (Below w.heap.size w wr)) (fun _ i _ => NN - (intOf i).toNat)
  case atStart => exact ⟨0, Nat.zero_le _, Nat.zero_le _, rfl, rfl, Lib.hid (by simp [sumP]), Lib.hid (Below.refl _ _)⟩
  case round =>
    obtain ⟨k, hk, hkm, rfl, rfl, HSM, HB⟩ := hrel
    obtain ⟨S, hS⟩ : ∃ S, S = sumP (l.take k) := ⟨_, rfl⟩
    have hSle : S ≤ 61 * 140737488355328 := by rw [hS]; exact Nat.le_trans HSM.out (Nat.mul_le_mul_right _ (by have := HM.out; omega))
    rw [← hS]
    by_cases hlt : k < NN
    · have hd1 : decide ((k : Int) < (NN : Int)) = true := by simp; omega
      by_cases hle : k ≤ most
      · have hd2 : decide ((k : Int) ≤ (most : Int)) = true := by simp; omega
        obtain ⟨a, ha⟩ : ∃ a, l[k]? = some a := ⟨_, List.getElem?_eq_getElem (by have := HNN.out; omega)⟩
        rcases HR.out with h0 | ⟨g, off, rfl, hg, hc⟩
        · rw [h0] at ha
          simp at ha
        · obtain ⟨⟨c0, c1⟩, _, _, _, hb, _⟩ := hc k a ha
          have d1 : wr.cell? ⟨g, off + k * 2 + 1, none⟩ = some (.slice a.A a.l.length a.c) := (HB.out.cell (p := ⟨g, off + k * 2 + 1, none⟩) hg).trans c1
          have hS2 : ((sumP (l.take (k + 1)) : Nat) : Int) = (S : Int) + (a.l.length : Int) := by
            rw [sumP_take_succ ha, ← hS]
            simp
          have HSN : Hid (sumP (l.take (k + 1)) ≤ (k + 1) * 140737488355328) := Lib.hid (by rw [sumP_take_succ ha, Nat.succ_mul]; have := HSM.out; omega)
          have e1 : IntKind.i64.wrap ((S : Int) + (a.l.length : Int)) = (S : Int) + (a.l.length : Int) := IntWalk.i64_in _ (by omega)
          have hlt' : (k : Int) < (NN : Int) := by omega
          have hk0 : (0 : Int) ≤ (k : Int) := by omega
          have HS2 := Lib.hid hS2
          have HLE := Lib.hid hle
          have HLT := Lib.hid hlt
          clear hc c0 c1 ha hS hS2 hle HSM
          go_wp2
          all_goals try (exfalso; have := HLE.out; omega)
          go_roundw
          case rel => exact ⟨k + 1, by have := HLT.out; omega, by have := HLE.out; omega, by go_num, by rw [HS2.out], HSN, HB⟩
          case measure => have := HLT.out; simp [intOf] <;> omega
      · have hd2 : decide ((k : Int) ≤ (most : Int)) = false := by simp; omega
        have HE := Lib.hid (show fewP l most = false by unfold fewP; rw [decide_eq_false (by have := HNN.out; omega)]; rfl)
        have hd3 : decide ((NN : Int) ≤ (most : Int)) = false := by simp; omega
        clear hS hSle HSM
        go_wp2
        all_goals first
          | (exfalso; omega)
          | (go_ret; exact ⟨by rw [HE.out]; simp, HB.out⟩)
    · have hd1 : decide ((k : Int) < (NN : Int)) = false := by simp; omega
      obtain rfl : k = NN := by omega
      have hS3 : S = sumP l := by rw [hS, HNN.out, List.take_length]
      have HE := Lib.hid (show fewP l most = (decide (k ≤ most) && decide (S ≤ 200)) by unfold fewP; rw [hS3, HNN.out])
      clear hS hS3 hSle HSM
      by_cases hle : k ≤ most
      · have hd3 : decide ((k : Int) ≤ (most : Int)) = true := by simp; omega
        by_cases hs : S ≤ 200
        · have hd4 : decide ((S : Int) ≤ 200) = true := by simp; omega
          rw [decide_eq_true hle, decide_eq_true hs] at HE
          have HS1 := Lib.hid hs
          go_wp2
          all_goals first
            | (exfalso; omega)
            | (go_ret; exact ⟨by rw [HE.out]; simp [HS1.out], HB.out⟩)
        · have hd4 : decide ((S : Int) ≤ 200) = false := by simp; omega
          rw [decide_eq_true hle, decide_eq_false hs] at HE
          have HS1 := Lib.hid hs
          go_wp2
          all_goals first
            | (exfalso; omega)
            | (go_ret; exact ⟨by rw [HE.out]; simp [HS1.out], HB.out⟩)
      · have hd3 : decide ((k : Int) ≤ (most : Int)) = false := by simp; omega
        rw [decide_eq_false hle] at HE
        go_wp2
        all_goals first
          | (exfalso; omega)
          | (go_ret; exact ⟨by rw [HE.out]; simp, HB.out⟩)
end Go.Proofs.Ytcjmieofmogeiaa
