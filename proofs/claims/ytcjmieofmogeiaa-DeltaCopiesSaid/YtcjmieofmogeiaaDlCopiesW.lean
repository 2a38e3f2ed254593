/- DeltaCopies, walked. -/
import Derived.Test.YtcjmieofmogeiaaDlBoth
import Derived.Deep.RegionHeld3
namespace Go.Proofs.Ytcjmieofmogeiaa
open Go.RowKit

set_option maxRecDepth 100000 in
set_option maxHeartbeats 8000000 in
theorem deltaCopies_main (C : MeC) (most : Int) (A0 A1 A2 : Option Addr) (cap cap1 cap2 : Nat) (l a b' : List Pt) (w : World) (hl : l.length ≤ 9223372036854775807) (ha : a.length ≤ 9223372036854775807) (hb : b'.length ≤ 9223372036854775807) (hr : PReads w w.heap.size A0 l) (hra : PReads w w.heap.size A1 a) (hrb : PReads w w.heap.size A2 b') (hf : fewP l 10 = true) (hfa : fewP a 10 = true) (hfb : fewP b' 10 = true) (hm : -9223372036854775808 ≤ most ∧ most ≤ 9223372036854775807) :
    Calls Try.prog 6 #[.int .i64 most, .slice A0 l.length cap, .slice A1 a.length cap1, .slice A2 b'.length cap2] w (FinD w) := by
  have HF := Lib.hid (fun X (ht : Turns [] w X) => fewD_any A0 cap 10 l X hl (by omega) (hr.lift ht))
  have HFA := Lib.hid (fun X (ht : Turns [] w X) => fewD_any A1 cap1 10 a X ha (by omega) (hra.lift ht))
  have HFB := Lib.hid (fun X (ht : Turns [] w X) => fewD_any A2 cap2 10 b' X hb (by omega) (hrb.lift ht))
  rw [hf] at HF
  rw [hfa] at HFA
  rw [hfb] at HFB
  have few_of : ∀ l : List Pt, fewP l 10 = true → l.length ≤ 10 ∧ sumP l ≤ 200 := fun l hf => by
    unfold fewP at hf
    simpa using hf
  have HLE := Lib.hid (few_of l hf)
  have HLEA := Lib.hid (few_of a hfa)
  have HLEB := Lib.hid (few_of b' hfb)
  have HR := Lib.hid hr
  have HRA0 := Lib.hid hra
  have HRB0 := Lib.hid hrb
  have HK := Lib.hid (fun W => knownM_any C W)
  have HNW := Lib.hid (fun X (ht : Turns [] w X) => loneM_new (C := C) ht most hm.1 hm.2)
  have HRW := Lib.hid (fun X => rnewM_any most X hm.2)
  obtain ⟨NN, hNN⟩ : ∃ NN, NN = l.length := ⟨_, rfl⟩
  obtain ⟨NA, hNA⟩ : ∃ NN, NN = a.length := ⟨_, rfl⟩
  obtain ⟨NB, hNB⟩ : ∃ NN, NN = b'.length := ⟨_, rfl⟩
  rw [← hNN] at HF ⊢
  rw [← hNA] at HFA ⊢
  rw [← hNB] at HFB ⊢
  have HNN := Lib.hid hNN
  have HNA := Lib.hid hNA
  have HNB := Lib.hid hNB
  clear hl ha hb hr hra hrb hf hfa hfb hm few_of hNN hNA hNB
  go_enter Try.func6, Try.ntmps6
  go_wp2_with fail
  refine (HF.out _ (Turns.refl _ _)).mono ?_
  rintro e x1 ⟨rfl, hb1⟩
  have HB1 := Lib.hid (Turns.of_below hb1 (Nat.le_refl _))
  clear HF hb1
  go_wp2_with fail
  refine (HFA.out _ HB1.out).mono ?_
  rintro e x2 ⟨rfl, hb2⟩
  have HB2 := Lib.hid (HB1.out.then (Turns.of_below hb2 (Nat.le_refl _)))
  clear HFA hb2 HB1
  go_wp2_with fail
  refine (HFB.out _ HB2.out).mono ?_
  rintro e x3 ⟨rfl, hb3⟩
  have HB3 := Lib.hid (HB2.out.then (Turns.of_below hb3 (Nat.le_refl _)))
  clear HFB hb3 HB2
  go_wp2_with fail
  refine (HNW.out _ HB3.out).mono ?_
  rintro e x4 ⟨p, rfl, h4⟩
  have H4 := Lib.hid h4
  clear HNW h4
  go_wp2_with fail
  refine (HRW.out _).mono ?_
  rintro e x5 ⟨rm, rs, rfl, hr5, ht5⟩
  have HP5 := Lib.hid (Run1.start H4.out ht5 hr5)
  clear HRW hr5 ht5 H4
  generalize most.toNat = mo at HP5
  obtain ⟨b, hbe⟩ : ∃ b : Base, b = .plain w := ⟨_, rfl⟩
  have HW := Lib.hid (show b.w = w by rw [hbe])
  have HBP := Lib.hid hbe
  rw [← hbe] at HP5
  clear hbe
  have HS5 : Hid (Run1 C b x5 p mo rm (0 + sumP (l.take 0))) := Lib.hid HP5.out
  clear HP5
  go_upto_block 0 with fail
  go_cut [11] from 37 to 51 (fun u wx => Hid (Run1 C b wx p mo rm (0 + sumP l)))
  case first =>
    go_wp2_with fail
    go_loopw [11] (fun iv wr => ∃ k : Nat, k ≤ NN ∧ iv = .int .i64 (k : Int) ∧ Hid (Run1 C b wr p mo rm (0 + sumP (l.take k)))) (fun iv _ => NN - (intOf iv).toNat)
    case atStart => exact ⟨0, Nat.zero_le _, rfl, HS5⟩
    case round =>
      obtain ⟨k, hk, rfl, HP⟩ := hrel
      have hn60 : (NN : Int) ≤ 60 := by have := HLE.out.1; have := HNN.out; omega
      by_cases hlt : k < NN
      · have hlt' : (k : Int) < (NN : Int) := by omega
        have hk0 : (0 : Int) ≤ (k : Int) := by omega
        obtain ⟨a', ha⟩ : ∃ z, l[k]? = some z := ⟨_, List.getElem?_eq_getElem (by have := HNN.out; omega)⟩
        obtain ⟨g, off, rfl, hc, hra, hac, hao, hok⟩ := HR.out.put ha
        have hT := HP.out.turns
        have HBW := HW.out
        rw [HBW] at hT
        obtain ⟨d0, d1⟩ := hc wr hT
        have HDO := Lib.hid (HP.out.do a' (N' := 0 + sumP (l.take (k + 1))) (by have := sumP_take_succ ha; omega) (by have := sumP_take_le l (k + 1); have := HLE.out.2; omega) hac (by rw [HBW]; exact hra) hao hok)
        have HKL := Lib.hid hlt
        clear hc hra hac hao hok ha hT HBW
        go_wp2_with fail
        refine HDO.out.mono ?_
        rintro e w4 ⟨rfl, h4⟩
        have HP4 := Lib.hid h4
        clear h4 HDO d0 d1 hlt
        go_wp2_with fail
        exact ⟨⟨k + 1, HKL.out, by go_num, HP4⟩, by have := HKL.out; simp [intOf]; omega⟩
      · have hge : decide ((k : Int) < (NN : Int)) = false := by simp; omega
        obtain rfl : k = NN := by omega
        have HX : Hid (Run1 C b wr p mo rm (0 + sumP l)) := Lib.hid (by
          have hp := HP.out
          rw [HNN.out, List.take_length] at hp
          exact hp)
        clear HP
        go_wp2_with fail
        go_meet
        exact HX
  case rest =>
  obtain ⟨T, L, hp, hrun⟩ := hcut.out
  rw [HBP.out] at hp
  have HL0 := Lib.hid (show L.length ≤ 200 by have := HLE.out; have := hrun.1; omega)
  have HRN := Lib.hid (show L.length ≤ 200 ∧ T.Le 200 ∧ T.Sound ∧ LOk L from ⟨HL0.out, hrun.2.1.mono (by have := HLE.out; omega), hrun.2.2⟩)
  have HPC := Lib.hid (pairM_copy hp (by have := HLE.out; have := HL0.out; omega))
  clear hcut hp hrun HS5 HW HBP b
  go_wp2_with fail
  refine HPC.out.mono ?_
  rintro e x6 ⟨q, rfl, h6⟩
  have HMC := Lib.hid (midM_copy h6 (by have := HL0.out; omega))
  clear h6 HPC
  go_wp2_with fail
  refine HMC.out.mono ?_
  rintro e x7 ⟨rq, rfl, h7⟩
  have HB7 := Lib.hid h7
  have HSM := Lib.hid (bothM_same h7 (by have := HL0.out; omega) (by have := HL0.out; omega))
  rw [decide_eq_true (And.intro rfl rfl : T = T ∧ L = L)] at HSM
  clear h7 HMC
  go_wp2_with fail
  refine HSM.out.mono ?_
  rintro e x8 ⟨rfl, t8⟩
  have HB8 := Lib.hid (HB7.out.pre t8)
  have HSN := Lib.hid (bothM_same HB8.out.swap (by have := HL0.out; omega) (by have := HL0.out; omega))
  rw [decide_eq_true (And.intro rfl rfl : T = T ∧ L = L)] at HSN
  clear t8 HSM HB7
  go_wp2_with fail
  refine HSN.out.mono ?_
  rintro e x9 ⟨rfl, t9⟩
  have HB9 := Lib.hid (HB8.out.pre t9)
  clear t9 HSN HB8
  obtain ⟨b, hbw, hb9, hbk⟩ := bothM_open HB9.out
  have HW := Lib.hid hbw
  have HBK := Lib.hid hbk
  have HS9 : Hid (Run1 C b x9 p mo rm (200 + sumP (a.take 0))) := Lib.hid ⟨T, L, hb9, HRN.out⟩
  clear hbw hb9 hbk HB9
  go_upto_block 2 with fail
  go_cut [14] from 65 to 79 (fun u wx => Hid (Run1 C b wx p mo rm (200 + sumP a)))
  case first =>
    go_wp2_with fail
    go_loopw [14] (fun iv wr => ∃ k : Nat, k ≤ NA ∧ iv = .int .i64 (k : Int) ∧ Hid (Run1 C b wr p mo rm (200 + sumP (a.take k)))) (fun iv _ => NA - (intOf iv).toNat)
    case atStart => exact ⟨0, Nat.zero_le _, rfl, HS9⟩
    case round =>
      obtain ⟨k, hk, rfl, HP⟩ := hrel
      have hn60 : (NA : Int) ≤ 60 := by have := HLEA.out.1; have := HNA.out; omega
      by_cases hlt : k < NA
      · have hlt' : (k : Int) < (NA : Int) := by omega
        have hk0 : (0 : Int) ≤ (k : Int) := by omega
        obtain ⟨a', ha⟩ : ∃ z, a[k]? = some z := ⟨_, List.getElem?_eq_getElem (by have := HNA.out; omega)⟩
        obtain ⟨g, off, rfl, hc, hra, hac, hao, hok⟩ := HRA0.out.put ha
        have hT := HP.out.turns
        have HBW := HW.out
        rw [HBW] at hT
        obtain ⟨d0, d1⟩ := hc wr hT
        have HDO := Lib.hid (HP.out.do a' (N' := 200 + sumP (a.take (k + 1))) (by have := sumP_take_succ ha; omega) (by have := sumP_take_le a (k + 1); have := HLEA.out.2; omega) hac (by rw [HBW]; exact hra) hao hok)
        have HKL := Lib.hid hlt
        clear hc hra hac hao hok ha hT HBW
        go_wp2_with fail
        refine HDO.out.mono ?_
        rintro e w4 ⟨rfl, h4⟩
        have HP4 := Lib.hid h4
        clear h4 HDO d0 d1 hlt
        go_wp2_with fail
        exact ⟨⟨k + 1, HKL.out, by go_num, HP4⟩, by have := HKL.out; simp [intOf]; omega⟩
      · have hge : decide ((k : Int) < (NA : Int)) = false := by simp; omega
        obtain rfl : k = NA := by omega
        have HX : Hid (Run1 C b wr p mo rm (200 + sumP a)) := Lib.hid (by
          have hp := HP.out
          rw [HNA.out, List.take_length] at hp
          exact hp)
        clear HP
        go_wp2_with fail
        go_meet
        exact HX
  case rest =>
  obtain ⟨T2, L2, hp2, hL2, -⟩ := hcut.out
  have HB10 := Lib.hid (HBK.out _ _ _ hp2)
  have HL2 := Lib.hid (show L2.length ≤ 400 by have := HLEA.out; omega)
  clear hcut hp2 hL2 HS9 HW HBK b
  obtain ⟨b, hbw, hb10, hbk⟩ := bothM_open HB10.out.swap
  have HW := Lib.hid hbw
  have HBK := Lib.hid hbk
  have HS10 : Hid (Run1 C b wc q mo rq (200 + sumP (b'.take 0))) := Lib.hid ⟨T, L, hb10, HRN.out⟩
  clear hbw hb10 hbk HB10
  go_upto_block 4 with fail
  go_cut [15] from 79 to 93 (fun u wx => Hid (Run1 C b wx q mo rq (200 + sumP b')))
  case first =>
    go_wp2_with fail
    go_loopw [15] (fun iv wr => ∃ k : Nat, k ≤ NB ∧ iv = .int .i64 (k : Int) ∧ Hid (Run1 C b wr q mo rq (200 + sumP (b'.take k)))) (fun iv _ => NB - (intOf iv).toNat)
    case atStart => exact ⟨0, Nat.zero_le _, rfl, HS10⟩
    case round =>
      obtain ⟨k, hk, rfl, HP⟩ := hrel
      have hn60 : (NB : Int) ≤ 60 := by have := HLEB.out.1; have := HNB.out; omega
      by_cases hlt : k < NB
      · have hlt' : (k : Int) < (NB : Int) := by omega
        have hk0 : (0 : Int) ≤ (k : Int) := by omega
        obtain ⟨a', ha⟩ : ∃ z, b'[k]? = some z := ⟨_, List.getElem?_eq_getElem (by have := HNB.out; omega)⟩
        obtain ⟨g, off, rfl, hc, hra, hac, hao, hok⟩ := HRB0.out.put ha
        have hT := HP.out.turns
        have HBW := HW.out
        rw [HBW] at hT
        obtain ⟨d0, d1⟩ := hc wr hT
        have HDO := Lib.hid (HP.out.do a' (N' := 200 + sumP (b'.take (k + 1))) (by have := sumP_take_succ ha; omega) (by have := sumP_take_le b' (k + 1); have := HLEB.out.2; omega) hac (by rw [HBW]; exact hra) hao hok)
        have HKL := Lib.hid hlt
        clear hc hra hac hao hok ha hT HBW
        go_wp2_with fail
        refine HDO.out.mono ?_
        rintro e w4 ⟨rfl, h4⟩
        have HP4 := Lib.hid h4
        clear h4 HDO d0 d1 hlt
        go_wp2_with fail
        exact ⟨⟨k + 1, HKL.out, by go_num, HP4⟩, by have := HKL.out; simp [intOf]; omega⟩
      · have hge : decide ((k : Int) < (NB : Int)) = false := by simp; omega
        obtain rfl : k = NB := by omega
        have HX : Hid (Run1 C b wr q mo rq (200 + sumP b')) := Lib.hid (by
          have hp := HP.out
          rw [HNB.out, List.take_length] at hp
          exact hp)
        clear HP
        go_wp2_with fail
        go_meet
        exact HX
  case rest =>
  obtain ⟨T3, L3, hp3, hL3, -⟩ := hcut.out
  have HB11 := Lib.hid (HBK.out _ _ _ hp3).swap
  have HL3 := Lib.hid (show L3.length ≤ 400 by have := HLEB.out; omega)
  clear hcut hp3 hL3 HS10 HW HBK b
  have HAL := Lib.hid (bothM_alike HB11.out (by have := HL2.out; omega) (by have := HL3.out; omega))
  go_wp2_with fail
  refine HAL.out.mono ?_
  rintro e x10 ⟨rfl, t10⟩
  have HB14 := Lib.hid (HB11.out.pre t10)
  obtain ⟨al, hal⟩ : ∃ al, al = decide (T2 = T3 ∧ L2 = L3) := ⟨_, rfl⟩
  rw [← hal]
  have HALE := Lib.hid hal
  have n1 : (al == al) = true := beq_self_eq_true _
  have HS1 := Lib.hid (bothM_same HB14.out (by have := HL2.out; omega) (by have := HL3.out; omega))
  rw [← HALE.out] at HS1
  clear t10 HAL HB11 hal
  go_wp2_with fail
  refine HS1.out.mono ?_
  rintro e x13 ⟨rfl, t13⟩
  have HB15 := Lib.hid (HB14.out.pre t13)
  have HS2 := Lib.hid (bothM_same HB15.out.swap (by have := HL3.out; omega) (by have := HL2.out; omega))
  rw [show decide (T3 = T2 ∧ L3 = L2) = al by rw [HALE.out]; exact decide_eq_decide.2 ⟨fun h => ⟨h.1.symm, h.2.symm⟩, fun h => ⟨h.1.symm, h.2.symm⟩⟩] at HS2
  clear t13 HS1 HB14
  go_wp2_with fail
  refine HS2.out.mono ?_
  rintro e x14 ⟨rfl, t14⟩
  have HB16 := Lib.hid (HB15.out.pre t14)
  clear t14 HS2 HB15
  go_wp2_with fail
  refine (HK.out _).mono ?_
  rintro e x15 ⟨rfl, t15⟩
  have HT := Lib.hid (HB16.out.turns.then t15)
  clear t15 HB16
  go_wp2_with fail
  go_ret
  exact ⟨rfl, HT.out⟩
end Go.Proofs.Ytcjmieofmogeiaa
