/- WindowCopies, walked. -/
import Derived.Test.YtjkkpdflijjllaaWnBoth
import Derived.Deep.RegionHeld3
namespace Go.Proofs.Ytjkkpdflijjllaa
open Go.RowKit

set_option maxRecDepth 100000 in
set_option maxHeartbeats 2000000 in
theorem winCopies_no1 (C : WiC) (len lat most : Int) (A0 A1 A2 : Option Addr) (c0 c1 c2 n0 n1 n2 : Nat) (w : World) (hm : mayW len lat most ≠ 0) :
    Calls Try.prog 6 #[.int .i64 len, .int .i64 lat, .int .i64 most, .slice A0 n0 c0, .slice A1 n1 c1, .slice A2 n2 c2] w (FinN w) := by
  have HM := Lib.hid (rmayW_any len lat most w)
  have HK := Lib.hid (fun Y => knownN_any C Y)
  generalize mayW len lat most = m at HM hm
  have d1 : (m != 0) = true := by simpa using hm
  clear hm
  go_enter Try.func6, Try.ntmps6
  go_wp2_with (first | (go_at_call 8; refine HM.out.mono ?_; rintro e w1 ⟨rfl, rfl⟩) | (go_at_call 10; refine (HK.out _).mono ?_; rintro e w3 ⟨rfl, t3⟩; have HT3 := Lib.hid t3; clear t3))
  go_ret
  exact ⟨rfl, HT3.out⟩
set_option maxRecDepth 100000 in
set_option maxHeartbeats 2000000 in
theorem winCopies_no2 (C : WiC) (len lat most : Int) (A0 A1 A2 : Option Addr) (c0 c1 c2 n0 n1 n2 : Nat) (w : World) (hm : mayW len lat most = 0) (hA : 40 < n0) :
    Calls Try.prog 6 #[.int .i64 len, .int .i64 lat, .int .i64 most, .slice A0 n0 c0, .slice A1 n1 c1, .slice A2 n2 c2] w (FinN w) := by
  have HM := Lib.hid (rmayW_any len lat most w)
  have HK := Lib.hid (fun Y => knownN_any C Y)
  rw [hm] at HM
  have eA1 : decide ((40 : Int) < (n0 : Int)) = true := by simp; omega
  have eA2 : decide (40 < n0) = true := by simpa using hA
  clear hm hA
  go_enter Try.func6, Try.ntmps6
  go_wp2_with (first | (go_at_call 8; refine HM.out.mono ?_; rintro e w1 ⟨rfl, rfl⟩) | (go_at_call 10; refine (HK.out _).mono ?_; rintro e w3 ⟨rfl, t3⟩; have HT3 := Lib.hid t3; clear t3))
  go_ret
  exact ⟨rfl, HT3.out⟩
set_option maxRecDepth 100000 in
set_option maxHeartbeats 2000000 in
theorem winCopies_no3 (C : WiC) (len lat most : Int) (A0 A1 A2 : Option Addr) (c0 c1 c2 n0 n1 n2 : Nat) (w : World) (hm : mayW len lat most = 0) (hA : n0 ≤ 40) (hB : 15 < n1) :
    Calls Try.prog 6 #[.int .i64 len, .int .i64 lat, .int .i64 most, .slice A0 n0 c0, .slice A1 n1 c1, .slice A2 n2 c2] w (FinN w) := by
  have HM := Lib.hid (rmayW_any len lat most w)
  have HK := Lib.hid (fun Y => knownN_any C Y)
  rw [hm] at HM
  have eA1 : decide ((40 : Int) < (n0 : Int)) = false := by simp; omega
  have eA2 : decide (40 < n0) = false := by simpa using hA
  have eB1 : decide ((15 : Int) < (n1 : Int)) = true := by simp; omega
  have eB2 : decide (15 < n1) = true := by simpa using hB
  clear hm hA hB
  go_enter Try.func6, Try.ntmps6
  go_wp2_with (first | (go_at_call 8; refine HM.out.mono ?_; rintro e w1 ⟨rfl, rfl⟩) | (go_at_call 10; refine (HK.out _).mono ?_; rintro e w3 ⟨rfl, t3⟩; have HT3 := Lib.hid t3; clear t3))
  go_ret
  exact ⟨rfl, HT3.out⟩
set_option maxRecDepth 100000 in
set_option maxHeartbeats 2000000 in
theorem winCopies_no4 (C : WiC) (len lat most : Int) (A0 A1 A2 : Option Addr) (c0 c1 c2 n0 n1 n2 : Nat) (w : World) (hm : mayW len lat most = 0) (hA : n0 ≤ 40) (hB : n1 ≤ 15) (hC : 15 < n2) :
    Calls Try.prog 6 #[.int .i64 len, .int .i64 lat, .int .i64 most, .slice A0 n0 c0, .slice A1 n1 c1, .slice A2 n2 c2] w (FinN w) := by
  have HM := Lib.hid (rmayW_any len lat most w)
  have HK := Lib.hid (fun Y => knownN_any C Y)
  rw [hm] at HM
  have eA1 : decide ((40 : Int) < (n0 : Int)) = false := by simp; omega
  have eA2 : decide (40 < n0) = false := by simpa using hA
  have eB1 : decide ((15 : Int) < (n1 : Int)) = false := by simp; omega
  have eB2 : decide (15 < n1) = false := by simpa using hB
  have eC1 : decide ((15 : Int) < (n2 : Int)) = true := by simp; omega
  have eC2 : decide (15 < n2) = true := by simpa using hC
  clear hm hA hB hC
  go_enter Try.func6, Try.ntmps6
  go_wp2_with (first | (go_at_call 8; refine HM.out.mono ?_; rintro e w1 ⟨rfl, rfl⟩) | (go_at_call 10; refine (HK.out _).mono ?_; rintro e w3 ⟨rfl, t3⟩; have HT3 := Lib.hid t3; clear t3))
  go_ret
  exact ⟨rfl, HT3.out⟩
set_option maxRecDepth 100000 in
set_option maxHeartbeats 8000000 in
theorem winCopies_main (C : WiC) (len lat most : Int) (A0 A1 A2 : Option Addr) (c0 c1 c2 : Nat) (l a b' : List Ac) (w : World) (h1 : I64 len) (h2 : I64 lat) (h3 : I64 most) (hm : mayW len lat most = 0) (hA : l.length ≤ 40) (hB : a.length ≤ 15) (hC : b'.length ≤ 15)
    (hr : acK.Reads w w.heap.size A0 l) (hra : acK.Reads w w.heap.size A1 a) (hrb : acK.Reads w w.heap.size A2 b') (hok : AcsOk l) (hoka : AcsOk a) (hokb : AcsOk b') :
    Calls Try.prog 6 #[.int .i64 len, .int .i64 lat, .int .i64 most, .slice A0 l.length c0, .slice A1 a.length c1, .slice A2 b'.length c2] w (FinN w) := by
  have HM := Lib.hid (rmayW_any len lat most w)
  rw [hm] at HM
  have HBG := Lib.hid (beginN_any C (Turns.refl [] w) len lat most h1 h2 h3 hm)
  have HS0 := Lib.hid (WsOk.new hm)
  have HK := Lib.hid (fun Y => knownN_any C Y)
  have HR := Lib.hid hr
  have HRA := Lib.hid hra
  have HRB := Lib.hid hrb
  have HRO := Lib.hid hok
  have HRAO := Lib.hid hoka
  have HRBO := Lib.hid hokb
  obtain ⟨NN, hNN⟩ : ∃ NN, NN = l.length := ⟨_, rfl⟩
  obtain ⟨NA, hNA⟩ : ∃ NN, NN = a.length := ⟨_, rfl⟩
  obtain ⟨NB, hNB⟩ : ∃ NN, NN = b'.length := ⟨_, rfl⟩
  rw [← hNN] at hA ⊢
  rw [← hNA] at hB ⊢
  rw [← hNB] at hC ⊢
  have HNN := Lib.hid hNN
  have HNA := Lib.hid hNA
  have HNB := Lib.hid hNB
  have HLE := Lib.hid hA
  have HLEA := Lib.hid hB
  have HLEB := Lib.hid hC
  have eA1 : decide ((40 : Int) < (NN : Int)) = false := by simp; omega
  have eA2 : decide (40 < NN) = false := by simpa using hA
  have eB1 : decide ((15 : Int) < (NA : Int)) = false := by simp; omega
  have eB2 : decide (15 < NA) = false := by simpa using hB
  have eC1 : decide ((15 : Int) < (NB : Int)) = false := by simp; omega
  have eC2 : decide (15 < NB) = false := by simpa using hC
  clear h1 h2 h3 hm hA hB hC hr hra hrb hok hoka hokb hNN hNA hNB
  go_enter Try.func6, Try.ntmps6
  go_wp2_with fail
  refine HM.out.mono ?_
  rintro e w1 ⟨rfl, rfl⟩
  clear HM
  go_wp2_with fail
  refine HBG.out.mono ?_
  rintro e x4 ⟨p, rv, rfl, h4⟩
  obtain ⟨b, hbe⟩ : ∃ b : Base, b = .plain w := ⟨_, rfl⟩
  obtain ⟨Q, hQe⟩ : ∃ Q : List Nat, Q = [] := ⟨_, rfl⟩
  have HW := Lib.hid (show b.w = w by rw [hbe])
  have HBP := Lib.hid (And.intro hbe hQe)
  rw [← hbe, ← hQe] at h4
  have HS5 : Hid (RunN C Q b x4 p rv (0 + 0)) := Lib.hid ⟨_, h4, HS0.out⟩
  clear h4 HBG hbe hQe eA1 eA2 eB1 eB2 eC1 eC2
  go_upto_block 0 with fail
  go_cut [16] from 53 to 66 (fun u wx => Hid (RunN C Q b wx p rv (0 + NN)))
  case first =>
    go_wp2_with fail
    go_loopw [16] (fun iv wr => ∃ k : Nat, k ≤ NN ∧ iv = .int .i64 (k : Int) ∧ Hid (RunN C Q b wr p rv (0 + k))) (fun iv _ => NN - (intOf iv).toNat)
    case atStart => exact ⟨0, Nat.zero_le _, rfl, HS5⟩
    case round =>
      obtain ⟨k, hk, rfl, HP⟩ := hrel
      have hn60 : (NN : Int) ≤ 60 := by have := HLE.out; omega
      by_cases hlt : k < NN
      · have hlt' : (k : Int) < (NN : Int) := by omega
        have hk0 : (0 : Int) ≤ (k : Int) := by omega
        obtain ⟨a', ha⟩ : ∃ z, l[k]? = some z := ⟨_, List.getElem?_eq_getElem (by have := HNN.out; omega)⟩
        obtain ⟨g, off, rfl, hc⟩ := acts_at HR.out ha
        have hT := HP.out.turns
        have HBW := HW.out
        rw [HBW] at hT
        obtain ⟨d0, d1, d2, d3, d4, d5⟩ := hc wr hT
        have HDO := Lib.hid (HP.out.do (by omega) a' (HRO.out a' (List.mem_of_getElem? ha)))
        unfold Ac.val at HDO
        have HKL := Lib.hid hlt
        clear hc ha hT HBW
        go_wp2_with fail
        refine HDO.out.mono ?_
        rintro e w4 ⟨rfl, h4⟩
        have HP4 := Lib.hid h4
        clear h4 HDO d0 d1 d2 d3 d4 d5 hlt
        go_wp2_with fail
        exact ⟨⟨k + 1, HKL.out, by go_num, HP4⟩, by have := HKL.out; simp [intOf]; omega⟩
      · have hge : decide ((k : Int) < (NN : Int)) = false := by simp; omega
        obtain rfl : k = NN := by omega
        go_wp2_with fail
        go_meet
        exact HP
  case rest =>
  obtain ⟨S, hp, hrun⟩ := hcut.out
  rw [HBP.out.1, HBP.out.2] at hp
  have HOK := Lib.hid (hrun.mono (M := 40) (by have := HLE.out; omega))
  have HPC := Lib.hid (pairN_copy hp HOK.out (by omega))
  clear hcut hp hrun HS5 HW HBP b Q
  go_wp2_with fail
  refine HPC.out.mono ?_
  rintro e x6 ⟨q, rfl, h6⟩
  have HMC := Lib.hid (midN_copy h6)
  clear h6 HPC
  go_wp2_with fail
  refine HMC.out.mono ?_
  rintro e x7 ⟨rq, rfl, h7⟩
  have HB7 := Lib.hid h7
  have HSM := Lib.hid (bothN_same h7 HOK.out HOK.out (by omega) (by omega))
  rw [alikeW_self] at HSM
  clear h7 HMC
  go_wp2_with fail
  refine HSM.out.mono ?_
  rintro e x8 ⟨rfl, t8⟩
  have HB8 := Lib.hid (HB7.out.pre t8)
  have HSN := Lib.hid (bothN_same HB8.out.swap HOK.out HOK.out (by omega) (by omega))
  rw [alikeW_self] at HSN
  clear t8 HSM HB7
  go_wp2_with fail
  refine HSN.out.mono ?_
  rintro e x9 ⟨rfl, t9⟩
  have HB9 := Lib.hid (HB8.out.pre t9)
  clear t9 HSN HB8
  obtain ⟨b, Q, hbw, hb9, hbk⟩ := bothN_open HB9.out
  have HW := Lib.hid hbw
  have HBK := Lib.hid hbk
  have HS9 : Hid (RunN C Q b x9 p rv (40 + 0)) := Lib.hid ⟨S, hb9, HOK.out⟩
  clear hbw hb9 hbk HB9
  go_upto_block 2 with fail
  go_cut [19] from 81 to 94 (fun u wx => Hid (RunN C Q b wx p rv (40 + NA)))
  case first =>
    go_wp2_with fail
    go_loopw [19] (fun iv wr => ∃ k : Nat, k ≤ NA ∧ iv = .int .i64 (k : Int) ∧ Hid (RunN C Q b wr p rv (40 + k))) (fun iv _ => NA - (intOf iv).toNat)
    case atStart => exact ⟨0, Nat.zero_le _, rfl, HS9⟩
    case round =>
      obtain ⟨k, hk, rfl, HP⟩ := hrel
      have hn60 : (NA : Int) ≤ 60 := by have := HLEA.out; omega
      by_cases hlt : k < NA
      · have hlt' : (k : Int) < (NA : Int) := by omega
        have hk0 : (0 : Int) ≤ (k : Int) := by omega
        obtain ⟨a', ha⟩ : ∃ z, a[k]? = some z := ⟨_, List.getElem?_eq_getElem (by have := HNA.out; omega)⟩
        obtain ⟨g, off, rfl, hc⟩ := acts_at HRA.out ha
        have hT := HP.out.turns
        have HBW := HW.out
        rw [HBW] at hT
        obtain ⟨d0, d1, d2, d3, d4, d5⟩ := hc wr hT
        have HDO := Lib.hid (HP.out.do (by omega) a' (HRAO.out a' (List.mem_of_getElem? ha)))
        unfold Ac.val at HDO
        have HKL := Lib.hid hlt
        clear hc ha hT HBW
        go_wp2_with fail
        refine HDO.out.mono ?_
        rintro e w4 ⟨rfl, h4⟩
        have HP4 := Lib.hid h4
        clear h4 HDO d0 d1 d2 d3 d4 d5 hlt
        go_wp2_with fail
        exact ⟨⟨k + 1, HKL.out, by go_num, HP4⟩, by have := HKL.out; simp [intOf]; omega⟩
      · have hge : decide ((k : Int) < (NA : Int)) = false := by simp; omega
        obtain rfl : k = NA := by omega
        go_wp2_with fail
        go_meet
        exact HP
  case rest =>
  obtain ⟨S2, hp2, hrun2⟩ := hcut.out
  have HB10 := Lib.hid (HBK.out _ _ hp2)
  have HOK2 := Lib.hid (hrun2.mono (M := 60) (by have := HLEA.out; omega))
  clear hcut hp2 hrun2 HS9 HW HBK b Q
  obtain ⟨b, Q, hbw, hb10, hbk⟩ := bothN_open HB10.out.swap
  have HW := Lib.hid hbw
  have HBK := Lib.hid hbk
  have HS10 : Hid (RunN C Q b wc q rq (40 + 0)) := Lib.hid ⟨S, hb10, HOK.out⟩
  clear hbw hb10 hbk HB10
  go_upto_block 4 with fail
  go_cut [20] from 95 to 108 (fun u wx => Hid (RunN C Q b wx q rq (40 + NB)))
  case first =>
    go_wp2_with fail
    go_loopw [20] (fun iv wr => ∃ k : Nat, k ≤ NB ∧ iv = .int .i64 (k : Int) ∧ Hid (RunN C Q b wr q rq (40 + k))) (fun iv _ => NB - (intOf iv).toNat)
    case atStart => exact ⟨0, Nat.zero_le _, rfl, HS10⟩
    case round =>
      obtain ⟨k, hk, rfl, HP⟩ := hrel
      have hn60 : (NB : Int) ≤ 60 := by have := HLEB.out; omega
      by_cases hlt : k < NB
      · have hlt' : (k : Int) < (NB : Int) := by omega
        have hk0 : (0 : Int) ≤ (k : Int) := by omega
        obtain ⟨a', ha⟩ : ∃ z, b'[k]? = some z := ⟨_, List.getElem?_eq_getElem (by have := HNB.out; omega)⟩
        obtain ⟨g, off, rfl, hc⟩ := acts_at HRB.out ha
        have hT := HP.out.turns
        have HBW := HW.out
        rw [HBW] at hT
        obtain ⟨d0, d1, d2, d3, d4, d5⟩ := hc wr hT
        have HDO := Lib.hid (HP.out.do (by omega) a' (HRBO.out a' (List.mem_of_getElem? ha)))
        unfold Ac.val at HDO
        have HKL := Lib.hid hlt
        clear hc ha hT HBW
        go_wp2_with fail
        refine HDO.out.mono ?_
        rintro e w4 ⟨rfl, h4⟩
        have HP4 := Lib.hid h4
        clear h4 HDO d0 d1 d2 d3 d4 d5 hlt
        go_wp2_with fail
        exact ⟨⟨k + 1, HKL.out, by go_num, HP4⟩, by have := HKL.out; simp [intOf]; omega⟩
      · have hge : decide ((k : Int) < (NB : Int)) = false := by simp; omega
        obtain rfl : k = NB := by omega
        go_wp2_with fail
        go_meet
        exact HP
  case rest =>
  obtain ⟨S3, hp3, hrun3⟩ := hcut.out
  have HB11 := Lib.hid (HBK.out _ _ hp3).swap
  have HOK3 := Lib.hid (hrun3.mono (M := 60) (by have := HLEB.out; omega))
  clear hcut hp3 hrun3 HS10 HW HBK b Q
  have HAL := Lib.hid (bothN_alike HB11.out)
  go_wp2_with fail
  refine HAL.out.mono ?_
  rintro e x10 ⟨rfl, t10⟩
  have HB14 := Lib.hid (HB11.out.pre t10)
  obtain ⟨al, hal⟩ : ∃ al, al = alikeW S2 S3 := ⟨_, rfl⟩
  rw [← hal]
  have HALE := Lib.hid hal
  have n1 : (al == al) = true := beq_self_eq_true _
  have HLK1 := Lib.hid (bothN_look HB14.out HOK2.out (by omega))
  clear t10 HAL HB11 hal
  go_wp2_with fail
  refine HLK1.out.mono ?_
  rintro e x11 ⟨rfl, t11⟩
  have HB15 := Lib.hid (HB14.out.pre t11)
  have HLK2 := Lib.hid (bothN_look HB15.out.swap HOK3.out (by omega))
  clear t11 HLK1 HB14
  go_wp2_with fail
  refine HLK2.out.mono ?_
  rintro e x12 ⟨rfl, t12⟩
  have HB16 := Lib.hid (HB15.out.pre t12)
  have HS1 := Lib.hid (bothN_same HB16.out HOK2.out HOK3.out (by omega) (by omega))
  rw [← HALE.out] at HS1
  clear t12 HLK2 HB15
  go_wp2_with fail
  refine HS1.out.mono ?_
  rintro e x13 ⟨rfl, t13⟩
  have HB17 := Lib.hid (HB16.out.pre t13)
  have HS2 := Lib.hid (bothN_same HB17.out.swap HOK3.out HOK2.out (by omega) (by omega))
  rw [alikeW_comm, ← HALE.out] at HS2
  clear t13 HS1 HB16
  go_wp2_with fail
  refine HS2.out.mono ?_
  rintro e x14 ⟨rfl, t14⟩
  have HB18 := Lib.hid (HB17.out.pre t14)
  clear t14 HS2 HB17
  go_wp2_with fail
  refine (HK.out _).mono ?_
  rintro e x15 ⟨rfl, t15⟩
  have HT := Lib.hid (HB18.out.turns.then t15)
  clear t15 HB18
  go_wp2_with fail
  go_ret
  exact ⟨rfl, HT.out⟩
end Go.Proofs.Ytjkkpdflijjllaa
