/- A size line. -/
import Derived.Test.YtlelemjmknbnaaaGreatDoorBodyNum
namespace Go.Proofs.YtlelemjmknbnaaaGreatDoor
open Go.RowKit

theorem trimHex_any (s : ByteArray) (w : World) :
    Calls Tryz.prog 58 #[.string s, .string ⟨#[48, 49, 50, 51, 52, 53, 54, 55, 56, 57, 97, 98, 99, 100, 101, 102, 65, 66, 67, 68, 69, 70]⟩] w fun e w' => e = .returned (.string ⟨(Lib.trimLeftS s.data.toList hexL).toArray⟩) ∧ Below w.heap.size w w' :=
  Any.strings_TrimLeft_laid Tryz.lays161 (by kernel_rfl) s ⟨#[48, 49, 50, 51, 52, 53, 54, 55, 56, 57, 97, 98, 99, 100, 101, 102, 65, 66, 67, 68, 69, 70]⟩ w (by decide) (Go.Proofs.ascii_of_all (by decide))
theorem sizeL_no {l : List UInt8} (h : ¬ (Lib.hasSuffix l tEnd = true ∧ (digitsL l).length ≤ 8 ∧ trimL (Lib.cut (restL l) [59]).1 = [] ∧ mayText (Lib.cut (restL l) [59]).2.1 = true ∧ digitsL l ≠ [])) : sizeL l = none := if_neg h
theorem sizeL_yes {l : List UInt8} (h : Lib.hasSuffix l tEnd = true ∧ (digitsL l).length ≤ 8 ∧ trimL (Lib.cut (restL l) [59]).1 = [] ∧ mayText (Lib.cut (restL l) [59]).2.1 = true ∧ digitsL l ≠ []) : sizeL l = some (hexN (digitsL l)) := if_pos h
theorem str_eq_nil {l : List UInt8} : ((⟨l.toArray⟩ : ByteArray) == ⟨#[]⟩) = decide (l = []) := by
  cases l with
  | nil => rfl
  | cons a l =>
    rw [decide_eq_false (by simp)]
    rfl
set_option maxRecDepth 100000 in
set_option maxHeartbeats 4000000 in
theorem size_any (s : ByteArray) (w : World) (hs : s.size ≤ 1000000) (hm : MX w) (hx : EX w) :
    Calls Tryz.prog 47 #[.string s] w fun e w' => e = .returned (SzV (sizeL s.data.toList)) ∧ Below w.heap.size w w' := by
  have HNO := Lib.hid (fun h => sizeL_no (l := s.data.toList) h)
  have HYE := Lib.hid (fun h => sizeL_yes (l := s.data.toList) h)
  have HDX := Lib.hid (digits_hex s.data.toList)
  have HC := Lib.hid (chop_any s w hs)
  have hl := chop_len s.data.toList
  rw [← Lib.size_eq] at hl
  have HR := Lib.hid (trimHex_any ⟨(chopL s.data.toList).toArray⟩ w)
  change Hid (Calls _ _ _ _ fun e w' => e = .returned (.string ⟨(restL s.data.toList).toArray⟩) ∧ _) at HR
  have hrl : (restL s.data.toList).length ≤ s.size := by
    have h1 := (List.dropWhile_suffix (hexL.contains ·) (l := chopL s.data.toList)).length_le
    have h2 : restL s.data.toList = (chopL s.data.toList).dropWhile (hexL.contains ·) := rfl
    rw [h2]
    omega
  have HS := Lib.hid (fun W => Tryz.strings_TrimSuffix ⟨(chopL s.data.toList).toArray⟩ ⟨(restL s.data.toList).toArray⟩ W (by rw [Lib.size_eq]; show (chopL s.data.toList).length ≤ _; omega))
  change Hid (∀ W, Calls _ _ _ _ fun e w' => e = .returned (.string ⟨(digitsL s.data.toList).toArray⟩) ∧ w' = W) at HS
  have HCU := Lib.hid (fun W (hmx : MX W) => cutS_any ⟨(restL s.data.toList).toArray⟩ ⟨#[59]⟩ W (by rw [Lib.size_eq]; show (restL s.data.toList).length ≤ _; omega) hmx)
  have hcl := cut_len (s := restL s.data.toList) (sep := [59])
  change Hid (∀ W, MX W → Calls Tryz.prog 52 _ _ fun e w' => e = .returned (.tuple #[.string ⟨(Lib.cut (restL s.data.toList) [59]).1.toArray⟩, .string ⟨(Lib.cut (restL s.data.toList) [59]).2.1.toArray⟩, .bool (Lib.cut (restL s.data.toList) [59]).2.2]) ∧ ∃ n, w' = W.drewN n) at HCU
  obtain ⟨x, hx0⟩ : ∃ x, x = sizeL s.data.toList := ⟨_, rfl⟩
  rw [← hx0] at HNO HYE ⊢
  generalize chopL s.data.toList = T at HC HR HS hl
  generalize restL s.data.toList = R at HR HS HCU hcl HNO HYE hrl
  obtain ⟨⟨a, r, is⟩, h1⟩ : ∃ t, t = Lib.cut R [59] := ⟨_, rfl⟩
  rw [← h1] at HCU HNO HYE hcl
  simp only [] at HCU HNO HYE hcl
  have HTR := Lib.hid (fun W => trim_any ⟨a.toArray⟩ W (by rw [Lib.size_eq]; show a.length ≤ _; omega))
  have HX := Lib.hid (fun W => mayText_any ⟨r.toArray⟩ W (by rw [Lib.size_eq]; show r.length ≤ _; omega))
  change Hid (∀ W, Calls _ _ _ _ fun e w' => e = .returned (.string ⟨(trimL a).toArray⟩) ∧ Below W.heap.size W w') at HTR
  change Hid (∀ W, Calls _ _ _ _ fun e w' => e = .returned (.bool (mayText r)) ∧ W = w') at HX
  generalize mayText r = mt at HX HNO HYE
  have HDL : Hid (0 < (digitsL s.data.toList).length → (digitsL s.data.toList).length ≤ 8 → ∀ W, Calls Tryz.prog 60 #[.string ⟨(digitsL s.data.toList).toArray⟩, .int .i64 16, .int .i64 64] W fun e w' => e = .returned (.tuple #[.int .i64 (hexN (digitsL s.data.toList) : Int), .nilIface]) ∧ Below W.heap.size W w') := Lib.hid (fun h0 h8 W => parseI_any ⟨(digitsL s.data.toList).toArray⟩ W (by rw [Lib.size_eq]; exact h0) (by rw [Lib.size_eq]; exact h8) HDX.out)
  generalize digitsL s.data.toList = D at HS HNO HYE HDL
  generalize trimL a = TA at HTR HNO HYE
  generalize Lib.hasSuffix s.data.toList tEnd = hb at HC HNO HYE
  have HM := Lib.hid hm
  have HEX := Lib.hid hx
  have HB0 := Lib.hid (Below.refl w.heap.size w)
  have hDs : (⟨D.toArray⟩ : ByteArray).size = D.length := by rw [Lib.size_eq]
  clear hx0 h1 hcl hrl hl hm hx hs HDX
  cases hb with
  | false =>
    have HRS := Lib.hid (show x = none from HNO.out (by simp))
    go_enter Tryz.func47, Tryz.ntmps47
    go_wp2_with (first | (go_at_call 57; refine (Hid.out HC).mono ?_; rintro e w1 ⟨rfl, rfl⟩) | (go_at_call 58; refine (Hid.out HR).mono ?_; rintro e w2 ⟨rfl, hb2⟩; have HB2 := Lib.hid hb2; clear hb2) | (go_at_call 59; refine (HS.out _).mono ?_; rintro e w3 ⟨rfl, rfl⟩) | (go_at_call 52; refine (HCU.out _ (HM.out.grown HB2.out)).mono ?_; rintro e w4 ⟨rfl, n, rfl⟩; have HB4 := Lib.hid (HB2.out.trans (below_drewN _ n))))
    go_ret2
    rw [HRS.out]
    exact ⟨rfl, HB4.out⟩
  | true =>
    by_cases d8 : 8 < D.length
    · have g8 : (8 : Int) < (D.length : Int) := by omega
      have HRS := Lib.hid (show x = none from HNO.out (by rintro ⟨-, h1, h2, h3, h4⟩; omega))
      go_enter Tryz.func47, Tryz.ntmps47
      go_wp2_with (first | (go_at_call 57; refine (Hid.out HC).mono ?_; rintro e w1 ⟨rfl, rfl⟩) | (go_at_call 58; refine (Hid.out HR).mono ?_; rintro e w2 ⟨rfl, hb2⟩; have HB2 := Lib.hid hb2; clear hb2) | (go_at_call 59; refine (HS.out _).mono ?_; rintro e w3 ⟨rfl, rfl⟩) | (go_at_call 52; refine (HCU.out _ (HM.out.grown HB2.out)).mono ?_; rintro e w4 ⟨rfl, n, rfl⟩; have HB4 := Lib.hid (HB2.out.trans (below_drewN _ n))))
      go_ret2
      rw [HRS.out]
      exact ⟨rfl, HB4.out⟩
    · have g8 : decide ((8 : Int) < (D.length : Int)) = false := by simp; omega
      by_cases ht : TA = []
      · have gt : (⟨TA.toArray⟩ : ByteArray).toList.isEmpty = true := by rw [Lib.toList_data, ht]; rfl
        cases mt with
        | false =>
          have HRS := Lib.hid (show x = none from HNO.out (by rintro ⟨-, h1, h2, h3, h4⟩; cases h3))
          go_enter Tryz.func47, Tryz.ntmps47
          go_wp2_with (first | (go_at_call 57; refine (Hid.out HC).mono ?_; rintro e w1 ⟨rfl, rfl⟩) | (go_at_call 58; refine (Hid.out HR).mono ?_; rintro e w2 ⟨rfl, hb2⟩; have HB2 := Lib.hid hb2; clear hb2) | (go_at_call 59; refine (HS.out _).mono ?_; rintro e w3 ⟨rfl, rfl⟩) | (go_at_call 52; refine (HCU.out _ (HM.out.grown HB2.out)).mono ?_; rintro e w4 ⟨rfl, n, rfl⟩; have HB4 := Lib.hid (HB2.out.trans (below_drewN _ n))) | (go_at_call 56; refine (HTR.out _).mono ?_; rintro e w5 ⟨rfl, hb5⟩; have HB5 := Lib.hid (HB4.out.trans (hb5.mono HB4.out.size)); clear hb5) | (go_at_call 54; refine (HX.out _).mono ?_; rintro e w6 ⟨rfl, rfl⟩))
          go_ret2
          rw [HRS.out]
          exact ⟨rfl, HB5.out⟩
        | true =>
          by_cases hD : D = []
          · have HPI := Lib.hid (fun (W : World) (h : EX W) => parseE_any W h)
            subst hD
            have HRS := Lib.hid (show x = none from HNO.out (by rintro ⟨-, h1, h2, h3, h4⟩; exact h4 rfl))
            go_enter Tryz.func47, Tryz.ntmps47
            go_wp2_with (first | (go_at_call 57; refine (Hid.out HC).mono ?_; rintro e w1 ⟨rfl, rfl⟩) | (go_at_call 58; refine (Hid.out HR).mono ?_; rintro e w2 ⟨rfl, hb2⟩; have HB2 := Lib.hid hb2; clear hb2) | (go_at_call 59; refine (HS.out _).mono ?_; rintro e w3 ⟨rfl, rfl⟩) | (go_at_call 52; refine (HCU.out _ (HM.out.grown HB2.out)).mono ?_; rintro e w4 ⟨rfl, n, rfl⟩; have HB4 := Lib.hid (HB2.out.trans (below_drewN _ n))) | (go_at_call 56; refine (HTR.out _).mono ?_; rintro e w5 ⟨rfl, hb5⟩; have HB5 := Lib.hid (HB4.out.trans (hb5.mono HB4.out.size)); clear hb5) | (go_at_call 54; refine (HX.out _).mono ?_; rintro e w6 ⟨rfl, rfl⟩) | (go_at_call 60; refine (HPI.out _ (HEX.out.grown HB5.out)).mono ?_; rintro e w7 ⟨⟨N, rfl⟩, hb7⟩; have HB7 := Lib.hid (HB5.out.trans (hb7.mono HB5.out.size)); clear hb7))
            go_region
            go_wp2
            go_ret2
            rw [HRS.out]
            exact ⟨rfl, by first | exact HB7.out | exact HB7.out.drew⟩
          · have hD0 : 0 < D.length := by cases D with | nil => exact absurd rfl hD | cons a l => simp
            have HPI : Hid (∀ (W : World), EX W → Calls Tryz.prog 60 #[.string ⟨D.toArray⟩, .int .i64 16, .int .i64 64] W fun e w' => e = .returned (.tuple #[.int .i64 (hexN D : Int), .nilIface]) ∧ Below W.heap.size W w') := Lib.hid (fun W _ => HDL.out hD0 (by omega) W)
            have HRS := Lib.hid (show x = some (hexN D) from HYE.out ⟨rfl, by omega, ht, rfl, hD⟩)
            go_enter Tryz.func47, Tryz.ntmps47
            go_wp2_with (first | (go_at_call 57; refine (Hid.out HC).mono ?_; rintro e w1 ⟨rfl, rfl⟩) | (go_at_call 58; refine (Hid.out HR).mono ?_; rintro e w2 ⟨rfl, hb2⟩; have HB2 := Lib.hid hb2; clear hb2) | (go_at_call 59; refine (HS.out _).mono ?_; rintro e w3 ⟨rfl, rfl⟩) | (go_at_call 52; refine (HCU.out _ (HM.out.grown HB2.out)).mono ?_; rintro e w4 ⟨rfl, n, rfl⟩; have HB4 := Lib.hid (HB2.out.trans (below_drewN _ n))) | (go_at_call 56; refine (HTR.out _).mono ?_; rintro e w5 ⟨rfl, hb5⟩; have HB5 := Lib.hid (HB4.out.trans (hb5.mono HB4.out.size)); clear hb5) | (go_at_call 54; refine (HX.out _).mono ?_; rintro e w6 ⟨rfl, rfl⟩) | (go_at_call 60; refine (HPI.out _ (HEX.out.grown HB5.out)).mono ?_; rintro e w7 ⟨rfl, hb7⟩; have HB7 := Lib.hid (HB5.out.trans (hb7.mono HB5.out.size)); clear hb7))
            go_region
            go_wp2
            go_ret2
            rw [HRS.out]
            exact ⟨rfl, by first | exact HB7.out | exact HB7.out.drew⟩
      · have gt : (⟨TA.toArray⟩ : ByteArray).toList.isEmpty = false := by
          rw [Lib.toList_data]
          cases TA with
          | nil => exact absurd rfl ht
          | cons a l => rfl
        have HRS := Lib.hid (show x = none from HNO.out (by rintro ⟨-, h1, h2, h3, h4⟩; exact ht h2))
        go_enter Tryz.func47, Tryz.ntmps47
        go_wp2_with (first | (go_at_call 57; refine (Hid.out HC).mono ?_; rintro e w1 ⟨rfl, rfl⟩) | (go_at_call 58; refine (Hid.out HR).mono ?_; rintro e w2 ⟨rfl, hb2⟩; have HB2 := Lib.hid hb2; clear hb2) | (go_at_call 59; refine (HS.out _).mono ?_; rintro e w3 ⟨rfl, rfl⟩) | (go_at_call 52; refine (HCU.out _ (HM.out.grown HB2.out)).mono ?_; rintro e w4 ⟨rfl, n, rfl⟩; have HB4 := Lib.hid (HB2.out.trans (below_drewN _ n))) | (go_at_call 56; refine (HTR.out _).mono ?_; rintro e w5 ⟨rfl, hb5⟩; have HB5 := Lib.hid (HB4.out.trans (hb5.mono HB4.out.size)); clear hb5))
        go_ret2
        rw [HRS.out]
        exact ⟨rfl, HB5.out⟩
end Go.Proofs.YtlelemjmknbnaaaGreatDoor
