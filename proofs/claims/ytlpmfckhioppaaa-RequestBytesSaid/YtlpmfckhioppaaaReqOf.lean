/- The program's Of and Ahead; the chapter's row. -/
import Derived.Test.YtlpmfckhioppaaaReqRead
namespace Go.Proofs.Ytlpmfckhioppaaa
open Go.RowKit

theorem BReads.up {w w' : World} {A : Option Addr} {l : List UInt8} {B : Nat} (h : BReads w B A l) (hB : B ≤ w.heap.size) (hb : Below B w w') : BReads w' w'.heap.size A l := (h.below hb).more (Nat.le_trans hB hb.size)
/-- read, its three answers by name. -/
theorem read_three {w : World} {A : Option Addr} {c : Nat} {l : List UInt8} (hr : BReads w w.heap.size A l) (hc : l.length ≤ c) (hn : A = none → c = 0) (hl : l.length ≤ 1000000) (hm : MX w) (h0 : 0 < w.heap.size) (n : Nat) (hln : n = l.length) :
    Calls Try.prog 62 #[.slice A n c] w fun e w' => e = .returned (.tuple #[.string ⟨(hostR (firstB l)).toArray⟩, .string ⟨(pathR (firstB l)).toArray⟩, .int .i64 (sizeB (firstB l) : Int)]) ∧ Below w.heap.size w w' := by
  subst hln
  exact read_any hr hc hn hl hm h0
def wholeB (l : List UInt8) : Bool := decide (sizeB (firstB l) ≠ 0) && decide (sizeB (firstB l) = l.length)
def OV (l : List UInt8) : Value := if wholeB l = true then .tuple #[.string ⟨(hostR (firstB l)).toArray⟩, .string ⟨(pathR (firstB l)).toArray⟩, .int .i64 0] else .tuple #[.string ⟨#[]⟩, .string ⟨#[]⟩, .int .i64 2]
set_option maxRecDepth 100000 in
set_option maxHeartbeats 2000000 in
theorem of_any {w : World} {A : Option Addr} {c : Nat} {l : List UInt8} (hr : BReads w w.heap.size A l) (hc : l.length ≤ c) (hn : A = none → c = 0) (hl : l.length ≤ 1000000) (hm : MX w) (h0 : 0 < w.heap.size) :
    Calls Try.prog 25 #[.slice A l.length c] w fun e w' => e = .returned (OV l) ∧ Below w.heap.size w w' := by
  have hle := sizeB_le l
  have HO : Hid (OV l = if wholeB l = true then .tuple #[.string ⟨(hostR (firstB l)).toArray⟩, .string ⟨(pathR (firstB l)).toArray⟩, .int .i64 0] else .tuple #[.string ⟨#[]⟩, .string ⟨#[]⟩, .int .i64 2]) := Lib.hid rfl
  have HW : Hid (wholeB l = (decide (sizeB (firstB l) ≠ 0) && decide (sizeB (firstB l) = l.length))) := Lib.hid rfl
  obtain ⟨n, hn2⟩ : ∃ n, n = l.length := ⟨_, rfl⟩
  have HRD := Lib.hid (read_three hr hc hn hl hm h0 n hn2)
  rw [← hn2] at hle HW ⊢
  generalize sizeB (firstB l) = z at HRD hle HW
  generalize (⟨(hostR (firstB l)).toArray⟩ : ByteArray) = X at HRD HO
  generalize (⟨(pathR (firstB l)).toArray⟩ : ByteArray) = P at HRD HO
  clear hr hc hn hl hm h0 hn2
  by_cases hz : z = 0
  · subst hz
    rw [show wholeB l = false by rw [HW.out]; rfl, if_neg (by simp)] at HO
    clear HW
    go_enter Try.func25, Try.ntmps25
    go_wp2_with (refine (Hid.out HRD).mono ?_; rintro e w1 ⟨rfl, hb1⟩)
    go_ret3
    exact ⟨by rw [HO.out]; rfl, hb1⟩
  · have hz' : ((z : Int) == 0) = false := by rw [beq_eq_false_iff_ne]; omega
    by_cases hlt : z < n
    · have hlt' : (z : Int) < (n : Int) := by omega
      rw [show wholeB l = false by rw [HW.out, decide_eq_false (p := z = n) (by omega), Bool.and_false], if_neg (by simp)] at HO
      clear HW
      go_enter Try.func25, Try.ntmps25
      go_wp2_with (refine (Hid.out HRD).mono ?_; rintro e w1 ⟨rfl, hb1⟩)
      go_ret3
      exact ⟨by rw [HO.out]; rfl, hb1⟩
    · have hlt' : decide ((z : Int) < (n : Int)) = false := by rw [decide_eq_false_iff_not]; omega
      rw [show wholeB l = true by rw [HW.out, decide_eq_true (p := z = n) (by omega), decide_eq_true hz]; rfl, if_pos rfl] at HO
      clear HW
      go_enter Try.func25, Try.ntmps25
      go_wp2_with (refine (Hid.out HRD).mono ?_; rintro e w1 ⟨rfl, hb1⟩)
      go_ret3
      exact ⟨by rw [HO.out]; rfl, hb1⟩
theorem size_u8 (w : World) : (sizeOf 5).run Try.prog w = .ok 1 w := by kernel_rfl
theorem elem_u8 : Try.prog.underlying 30 = some (.slice (Try.prog.elem 30)) := by kernel_rfl
theorem elem_is : Try.prog.elem 30 = 5 := by kernel_rfl
/-- 'b[at:]'. -/
theorem from_ok {w0 : World} {B : Nat} {A : Option Addr} {l : List UInt8} {c : Nat} (hr : BReads w0 B A l) (hc : l.length ≤ c) (hn : A = none → c = 0) (n : Nat) (hln : n = l.length) (j : Nat) (hj : j ≤ n) :
    ∃ A', (∀ w, (Instr.slice 30 (.slice A n c) (some (.int .i64 (j : Int))) none none).run Try.prog w = .ok (.slice A' (n - j) (c - j)) w) ∧ BReads w0 B A' (l.drop j) ∧ (A' = none → c - j = 0) := by
  subst hln
  obtain ⟨A', c', h1, h2, h3, h4⟩ := Sl.from hr hc hn j hj
  unfold Lib.fromV at h1
  have h5 := Value.slice.inj h1
  obtain ⟨rfl, -, rfl⟩ := h5
  refine ⟨_, fun w => ?_, h2, h4⟩
  rw [run_slice_l (P := Try.prog) w 30 A l.length c elem_u8 .i64 (j : Int) (by omega) (by omega), elem_is, size_u8]
  simp [Result.andThen, sliced]
set_option maxRecDepth 100000 in
set_option maxHeartbeats 2000000 in
theorem ahead_any {w : World} {A : Option Addr} {c : Nat} {l : List UInt8} (hr : BReads w w.heap.size A l) (hc : l.length ≤ c) (hn : A = none → c = 0) (hl : l.length ≤ 1000000) (hm : MX w) (h0 : 0 < w.heap.size) :
    Calls Try.prog 27 #[.slice A l.length c] w fun e w' => e = .returned (.int .i64 (aheadB l : Int)) ∧ Below w.heap.size w w' := by
  have HR := Lib.hid hr
  have HC := Lib.hid hc
  have HN := Lib.hid hn
  have HM := Lib.hid hm
  have H0 := Lib.hid h0
  have HL := Lib.hid hl
  have HLE := Lib.hid (aheadB_le l)
  obtain ⟨n, hn2⟩ : ∃ n, n = l.length := ⟨_, rfl⟩
  have hn3 : n ≤ 1000000 := by omega
  have HN2 := Lib.hid hn2
  rw [← hn2]
  clear hr hc hn hl hm h0 hn2
  go_enter Try.func27, Try.ntmps27
  go_wp2
  go_loopw [3] (fun iv wr => ∃ k : Nat, k ≤ n ∧ iv = .int .i64 k ∧ Hid (k + aheadB (l.drop k) = aheadB l) ∧ Hid (Below w.heap.size w wr)) (fun iv _ => n - (intOf iv).toNat)
  case atStart => exact ⟨0, Nat.zero_le _, rfl, Lib.hid (by rw [List.drop_zero, Nat.zero_add]), Lib.hid (Below.refl _ _)⟩
  case round =>
    obtain ⟨k, hk, rfl, HK, HB⟩ := hrel
    have hk0 : (0 : Int) ≤ (k : Int) := by omega
    have hkn : (k : Int) ≤ (n : Int) := by omega
    obtain ⟨A', hsl, hr', hn'⟩ := from_ok HR.out HC.out HN.out n HN2.out k hk
    have HRD := Lib.hid (read_three (hr'.up (Nat.le_refl _) HB.out) (by rw [List.length_drop]; have := HC.out; omega) hn' (by rw [List.length_drop]; have := HL.out; omega) (HM.out.below H0.out HB.out) (Nat.lt_of_lt_of_le H0.out HB.out.size) (n - k) (by rw [List.length_drop, HN2.out]))
    have hle := sizeB_le (l.drop k)
    rw [List.length_drop, ← HN2.out] at hle
    have hgo := aheadB_go (s := l.drop k)
    have hst := aheadB_stop (s := l.drop k)
    have hpos := fun q (h : firstB (l.drop k) = some q) => sizeB_pos h
    rw [List.drop_drop] at hgo
    generalize firstB (l.drop k) = o at HRD hle hgo hst hpos
    by_cases hz : sizeB o = 0
    · have HS := Lib.hid (hst hz)
      have hz' : ((sizeB o : Int) == 0) = true := by rw [beq_iff_eq]; omega
      have HE := Lib.hid (show aheadB l = k by rw [← HK.out, HS.out]; rfl)
      generalize sizeB o = z at HRD hz'
      generalize (⟨(hostR o).toArray⟩ : ByteArray) = X at HRD
      generalize (⟨(pathR o).toArray⟩ : ByteArray) = P at HRD
      clear hgo hst hpos hle hz hr' hn'
      go_wp2_with (refine (Hid.out HRD).mono ?_; rintro e w1 ⟨rfl, hb1⟩)
      go_ret
      exact ⟨by rw [HE.out]; rfl, HB.out.trans (hb1.mono HB.out.size)⟩
    · have HS := Lib.hid (hgo hz)
      have hz' : ((sizeB o : Int) == 0) = false := by rw [beq_eq_false_iff_ne]; omega
      have hzp : 0 < sizeB o := by omega
      generalize sizeB o = z at HRD hz' HS hzp hle
      generalize (⟨(hostR o).toArray⟩ : ByteArray) = X at HRD
      generalize (⟨(pathR o).toArray⟩ : ByteArray) = P at HRD
      have hzn : z ≤ 1000000 := by omega
      clear hgo hst hpos hz hr' hn'
      go_wp2_with (refine (Hid.out HRD).mono ?_; rintro e w1 ⟨rfl, hb1⟩; have HB1 := Lib.hid (HB.out.trans (hb1.mono HB.out.size)); clear hb1)
      go_roundw
      case rel => exact ⟨k + z, by omega, by go_num, Lib.hid (by have h1 := HK.out; have h2 := HS.out; omega), HB1⟩
      case measure => simp [intOf] <;> omega
end Go.Proofs.Ytlpmfckhioppaaa
