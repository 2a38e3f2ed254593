/- The document's reading of a number: the walk of odometerref01.Parse. -/
import Derived.Test.YtmbdggbppbkojaaDoorRefValue
import Derived.Deep.DeepCutAuto
namespace Go.Proofs.YtmbdggbppbkojaaDoor
open Go.RowKit

def hasSign : List UInt8 → Bool
  | [] => false
  | c :: _ => decide (c.toNat = 45 ∨ c.toNat = 43)
def isWordR (l : List UInt8) : Bool :=
  decide ((signOf l).2.length < 10) && (((signOf l).2.map lowerB == nanB.data.toList) || ((signOf l).2.map lowerB == infB.data.toList) || ((signOf l).2.map lowerB == infinityB.data.toList))
theorem signOf_len (l : List UInt8) : (signOf l).2.length ≤ l.length := by
  cases l with
  | nil => exact Nat.le_refl _
  | cons c l => simp only [signOf]; split <;> (try split) <;> simp
/-- The word test, off what the walk has of it. -/
theorem word_yes {l : List UInt8} {S o : ByteArray} (hS : S.data.toList = (signOf l).2) (ho : o.data.toList = S.data.toList.map lowerB) (h10 : (S.size : Int) < 10)
    (h : o.toList = [110, 97, 110] ∨ o.toList = [105, 110, 102] ∨ o.toList = [105, 110, 102, 105, 110, 105, 116, 121]) : isWordR l = true := by
  rw [Lib.toList_data, ho, hS] at h
  have h1 : (signOf l).2.length < 10 := by rw [← hS, ← Lib.size_eq]; omega
  unfold isWordR
  rw [decide_eq_true h1, Bool.true_and]
  rcases h with h | h | h <;> rw [h] <;> rfl
theorem word_no {l : List UInt8} {S o : ByteArray} (hS : S.data.toList = (signOf l).2) (ho : o.data.toList = S.data.toList.map lowerB)
    (h : ((o.toList == [110, 97, 110]) = false ∧ (o.toList == [105, 110, 102]) = false) ∧ (o.toList == [105, 110, 102, 105, 110, 105, 116, 121]) = false) : isWordR l = false := by
  rw [Lib.toList_data, ho, hS] at h
  unfold isWordR
  rw [show nanB.data.toList = [110, 97, 110] from rfl, show infB.data.toList = [105, 110, 102] from rfl, show infinityB.data.toList = [105, 110, 102, 105, 110, 105, 116, 121] from rfl, h.1.1, h.1.2, h.2]
  simp
theorem word_long {l : List UInt8} {S : ByteArray} (hS : S.data.toList = (signOf l).2) (h10 : ¬ (S.size : Int) < 10) : isWordR l = false := by
  have h1 : ¬ (signOf l).2.length < 10 := by rw [← hS, ← Lib.size_eq]; omega
  unfold isWordR
  rw [decide_eq_false h1, Bool.false_and]
def MeetsR (o : Option Shape) (r : Int × Int) : Prop :=
  match o with
  | none => r = (0, 3)
  | some s => Ans s.neg (valF 0 (s.ahead ++ s.behind)) (powR s) r
def hasDot : List UInt8 → Bool
  | [] => false
  | c :: _ => decide (c.toNat = 46)
theorem take_digits (l : List UInt8) : l.take (digitsN l) = l.takeWhile isD := by
  have h : (l.takeWhile isD ++ l.dropWhile isD).take (l.takeWhile isD).length = l.takeWhile isD := List.take_left
  rw [← span_eq] at h
  exact h
theorem drop_digits (l : List UInt8) : l.drop (digitsN l) = l.dropWhile isD := by
  have h : (l.takeWhile isD ++ l.dropWhile isD).drop (l.takeWhile isD).length = l.dropWhile isD := List.drop_left
  rw [← span_eq] at h
  exact h
theorem digitsN_le (l : List UInt8) : digitsN l ≤ l.length := (List.takeWhile_sublist _).length_le
/-- What stands behind the point, and behind that. -/
def dotB (R : List UInt8) : List UInt8 := if hasDot R then (R.drop 1).takeWhile isD else []
def dotR (R : List UInt8) : List UInt8 := if hasDot R then (R.drop 1).dropWhile isD else R
theorem dot_parts {R : ByteArray} (h : hasDot R.data.toList = true) (hz : 1 ≤ R.size) : (R.extract 1 (1 + digitsN (R.data.toList.drop 1))).data.toList = dotB R.data.toList ∧
    (R.extract (1 + digitsN (R.data.toList.drop 1)) R.size).data.toList = dotR R.data.toList ∧ digitsN (R.data.toList.drop 1) + 1 ≤ R.size := by
  have e1 : dotB R.data.toList = (R.data.toList.drop 1).takeWhile isD := by simp [dotB, h]
  have e2 : dotR R.data.toList = (R.data.toList.drop 1).dropWhile isD := by simp [dotR, h]
  rw [e1, e2, ← take_digits, ← drop_digits]
  refine ⟨?_, ?_, ?_⟩
  · rw [Lib.extract_eq, Nat.add_sub_cancel_left]
  · rw [Lib.extract_to_end, List.drop_drop]
  · have h1 := digitsN_le (R.data.toList.drop 1)
    rw [List.length_drop, ← Lib.size_eq] at h1
    omega
theorem bodyS_eq (neg : Bool) (l : List UInt8) : bodyS neg l = if l.takeWhile isD = [] ∧ dotB (l.dropWhile isD) = [] then none else tailS neg (l.takeWhile isD) (dotB (l.dropWhile isD)) (dotR (l.dropWhile isD)) := by
  unfold bodyS
  cases l.dropWhile isD with
  | nil => simp [dotB, dotR, hasDot]
  | cons c t =>
    by_cases h : c.toNat = 46
    · simp [dotB, dotR, hasDot, h]
    · simp [dotB, dotR, hasDot, h]
theorem tail_none {neg : Bool} {A B : List UInt8} {c : UInt8} {l : List UInt8} (h : ¬ (c.toNat = 101 ∨ c.toNat = 69)) : tailS neg A B (c :: l) = none := by
  simp only [tailS, if_neg h]
theorem tail_exp {neg : Bool} {A B : List UInt8} {c : UInt8} {l : List UInt8} (h : c.toNat = 101 ∨ c.toNat = 69) :
    tailS neg A B (c :: l) = if (signOf l).2 = [] ∨ (signOf l).2.all isD = false then none else some ⟨neg, A, B, (signOf l).1, (signOf l).2⟩ := by
  simp only [tailS, if_pos h]
theorem digitsN_all {l : List UInt8} : digitsN l = l.length ↔ l.all isD = true := by
  constructor
  · intro h
    have h1 := take_digits l
    rw [h, List.take_length] at h1
    rw [h1]; exact List.all_takeWhile
  · intro h
    unfold digitsN
    have h1 := span_eq l
    have h2 : l.dropWhile isD = [] := by
      cases hd : l.dropWhile isD with
      | nil => rfl
      | cons c t =>
        have h3 := span_head hd
        have h4 := List.all_eq_true.1 h c (by rw [h1, hd]; simp)
        rw [h3] at h4; cases h4
    rw [h2, List.append_nil] at h1
    rw [← h1]
theorem capF_snoc (l : List UInt8) (c : UInt8) : capF 0 (l ++ [c]) = min (10 * capF 0 l + (c.toNat - 48)) 1099511627776 := by
  unfold capF; rw [List.foldl_append]; rfl
theorem capF_le (l : List UInt8) : capF 0 l ≤ 1099511627776 := by
  rcases cap_pw l 0 0 (.inl ⟨rfl, by omega⟩) with h | h
  · exact h.2
  · omega
def ParsePost (l : List UInt8) (w : World) (e : Ending) (w' : World) : Prop :=
  (∃ r1 r2 : Int, e = .returned (.tuple #[.int .i64 r1, .int .i64 r2]) ∧ (if isWordR l then (r1, r2) = (0, 4) else MeetsR (shape l) (r1, r2))) ∧ Below w.heap.size w w'

set_option maxRecDepth 100000 in
set_option maxHeartbeats 40000000 in
theorem rparse_any (s : ByteArray) (w : World) (hs : s.size ≤ 400) :
    Calls Tryd.prog 9 #[.string s] w (ParsePost s.data.toList w) := by
  have hcase : (s.data.toList = [] ∧ s.size = 0) ∨ ∃ c l, s.data.toList = c :: l ∧ s.size = l.length + 1 := by
    cases hsl : s.data.toList with
    | nil => exact .inl ⟨rfl, by rw [Lib.size_eq, hsl]; rfl⟩
    | cons c l => exact .inr ⟨c, l, rfl, by rw [Lib.size_eq, hsl]; rfl⟩
  have HC := Lib.hid hcase
  clear hcase
  go_enter Tryd.func9, Tryd.ntmps9
  go_upto_region 1 with fail
  go_cut [4] (fun v wx => w = wx ∧ v = .bool (signOf s.data.toList).1)
  case first =>
    rcases HC.out with ⟨hsl, hz⟩ | ⟨c, l, hsl, hz⟩
    · have HE := Lib.hid (show (signOf s.data.toList).1 = false by rw [hsl]; rfl)
      have hz' : (s.size : Int) ≤ 0 := by omega
      clear hsl hz
      go_wp2
      go_meet
      case rel => exact ⟨rfl, by rw [HE.out]⟩
    · have hz' : (s.size : Int) > 0 := by omega
      have h0 : s[0]'(by omega) = c := by
        have := Lib.data_getElem? s 0 (by omega)
        rw [hsl] at this
        exact (Option.some.inj this).symm
      have HE := Lib.hid (show (signOf s.data.toList).1 = ((c.toNat : Int) == 45) by
        rw [hsl]; simp only [signOf]
        by_cases h : c.toNat = 45
        · rw [if_pos h]; exact (beq_iff_eq.2 (by omega)).symm
        · rw [if_neg h]; split <;> exact (beq_eq_false_iff_ne.2 (by omega)).symm)
      clear hsl
      go_wp2
      go_meet
      case rel => exact ⟨rfl, by rw [HE.out]⟩
  case rest =>
    obtain ⟨rfl, rfl⟩ := hcut
    go_upto_region 2 with fail
    go_cut [4, 30] (fun u v wx => w = wx ∧ u = .bool (signOf s.data.toList).1 ∧ v = .bool (hasSign s.data.toList))
    case first =>
      rcases HC.out with ⟨hsl, hz⟩ | ⟨c, l, hsl, hz⟩
      · have HE := Lib.hid (show hasSign s.data.toList = false by rw [hsl]; rfl)
        have h4 : (signOf s.data.toList).1 = false := by rw [hsl]; rfl
        have H4 := Lib.hid h4
        rw [h4]
        have hz' : (s.size : Int) ≤ 0 := by omega
        clear hsl hz h4
        go_wp2
        go_meet
        case rel => exact ⟨rfl, by rw [H4.out], by rw [HE.out]⟩
      · have hz' : (s.size : Int) > 0 := by omega
        have h0 : s[0]'(by omega) = c := by
          have := Lib.data_getElem? s 0 (by omega)
          rw [hsl] at this
          exact (Option.some.inj this).symm
        by_cases h45 : c.toNat = 45
        · have h4 : (signOf s.data.toList).1 = true := by rw [hsl]; simp [signOf, h45]
          have HE := Lib.hid (show hasSign s.data.toList = true by rw [hsl]; simp [hasSign, h45])
          have H4 := Lib.hid h4
          rw [h4]
          clear hsl h4
          go_wp2
          go_meet
          case rel => exact ⟨rfl, by rw [H4.out], by rw [HE.out]⟩
        · have h4 : (signOf s.data.toList).1 = false := by rw [hsl]; simp only [signOf]; rw [if_neg h45]; split <;> rfl
          have HE := Lib.hid (show hasSign s.data.toList = ((c.toNat : Int) == 43) by
            rw [hsl]; simp only [hasSign]
            by_cases h : c.toNat = 43
            · simp [h]
            · rw [beq_eq_false_iff_ne.2 (show (c.toNat : Int) ≠ 43 by omega)]; simp [h, h45])
          have H4 := Lib.hid h4
          rw [h4]
          clear hsl h4
          go_wp2
          go_meet
          case rel => exact ⟨rfl, by rw [H4.out], by rw [HE.out]⟩
    case rest =>
      obtain ⟨rfl, rfl, rfl⟩ := hcut
      go_upto_if 30 with (fail)
      go_cut [0] (fun v wx => w = wx ∧ ∃ S : ByteArray, v = .string S ∧ Hid (S.data.toList = (signOf s.data.toList).2))
      case first =>
        cases hsg : hasSign s.data.toList with
        | false =>
          have HS := Lib.hid (show s.data.toList = (signOf s.data.toList).2 by
            rcases HC.out with ⟨hsl, hz⟩ | ⟨c, l, hsl, hz⟩
            · rw [hsl]; rfl
            · rw [hsl] at hsg ⊢
              have h1 : ¬ (c.toNat = 45 ∨ c.toNat = 43) := of_decide_eq_false hsg
              simp only [signOf]
              rw [if_neg (by omega), if_neg (by omega)])
          clear hsg
          go_wp2
          go_meet
          case rel => exact ⟨rfl, s, rfl, HS⟩
        | true =>
          have hz : 1 ≤ s.size ∧ (s.extract 1 s.size).data.toList = (signOf s.data.toList).2 := by
            rcases HC.out with ⟨hsl, hz⟩ | ⟨c, l, hsl, hz⟩
            · rw [hsl] at hsg; cases hsg
            · refine ⟨by omega, ?_⟩
              rw [Lib.extract_to_end, hsl]
              rw [hsl] at hsg
              have h1 : c.toNat = 45 ∨ c.toNat = 43 := of_decide_eq_true hsg
              simp only [signOf]
              rcases h1 with h1 | h1
              · rw [if_pos h1]; rfl
              · rw [if_neg (by omega), if_pos h1]; rfl
          have hz1 : (1 : Int) ≤ s.size := by omega
          have HS := Lib.hid hz.2
          clear hsg hz
          go_wp2
          go_meet
          case rel => exact ⟨rfl, _, rfl, HS⟩
      case rest =>
        obtain ⟨rfl, S, rfl, HS⟩ := hcut
        have hSs : S.size ≤ 400 := by
          have h1 := signOf_len s.data.toList
          rw [← HS.out, ← Lib.size_eq, ← Lib.size_eq] at h1
          omega
        go_upto_if 35 with (fail)
        go_cut [5] (fun _ wx => Below w.heap.size w wx ∧ Hid (isWordR s.data.toList = false))
        case first =>
          by_cases h10 : (S.size : Int) < 10
          · go_wp2_with fail
            refine (rlower_any S _ (by omega)).mono ?_
            rintro e w1 ⟨⟨o, rfl, ho⟩, hb⟩
            have HO := Lib.hid ho
            have HB := Lib.hid hb
            clear ho hb
            go_wp2
            · go_ret2
              exact ⟨⟨0, 4, rfl, by rw [if_pos (word_yes HS.out HO.out h10 (.inl (by assumption)))]⟩, HB.out⟩
            · go_ret2
              exact ⟨⟨0, 4, rfl, by rw [if_pos (word_yes HS.out HO.out h10 (.inr (.inl (by assumption))))]⟩, HB.out⟩
            · rename_i hor
              go_ret2
              exact ⟨⟨0, 4, rfl, by rw [if_pos (word_yes HS.out HO.out h10 (by simpa [or_assoc] using hor))]⟩, HB.out⟩
            · rename_i hno
              go_meet
              case rel => exact ⟨HB.out, Lib.hid (word_no HS.out HO.out hno)⟩
          · have HW := Lib.hid (word_long HS.out h10)
            go_wp2
            go_meet
            case rel => exact ⟨Below.refl _ _, HW⟩
        case rest =>
          obtain ⟨hb, HW⟩ := hcut
          have HB := Lib.hid hb
          clear hb
          go_wp2_with fail
          refine (rdigits_any S _ (by omega)).mono ?_
          rintro e w' ⟨rfl, rfl⟩
          have hdl : digitsN S.data.toList ≤ S.size := by rw [Lib.size_eq]; unfold digitsN; exact (List.takeWhile_sublist _).length_le
          generalize hn : digitsN S.data.toList = n at *
          have hA : (S.extract 0 n).data.toList = S.data.toList.takeWhile isD := by
            rw [Lib.extract_eq, ← hn, ← take_digits]
            simp only [List.drop_zero, Nat.sub_zero]
          have hR : (S.extract n S.size).data.toList = S.data.toList.dropWhile isD := by
            rw [Lib.extract_to_end, ← hn, drop_digits]
          have HA := Lib.hid hA
          have HR := Lib.hid hR
          clear hn hA hR
          go_upto_region 12 with fail
          have hA4 : (S.extract 0 n).size ≤ 400 := by simp; omega
          have hR4 : (S.extract n S.size).size ≤ 400 := by simp; omega
          generalize S.extract 0 n = A at *
          generalize S.extract n S.size = R at *
          have hcR : (R.data.toList = [] ∧ R.size = 0) ∨ ∃ c l, R.data.toList = c :: l ∧ R.size = l.length + 1 := by
            cases hsl : R.data.toList with
            | nil => exact .inl ⟨rfl, by rw [Lib.size_eq, hsl]; rfl⟩
            | cons c l => exact .inr ⟨c, l, rfl, by rw [Lib.size_eq, hsl]; rfl⟩
          have HCR := Lib.hid hcR
          clear hcR
          go_cut [63] (fun v wx => wc = wx ∧ v = .bool (hasDot R.data.toList))
          case first =>
            rcases HCR.out with ⟨hsl, hz⟩ | ⟨c, l, hsl, hz⟩
            · have HE := Lib.hid (show hasDot R.data.toList = false by rw [hsl]; rfl)
              have hz' : (R.size : Int) ≤ 0 := by omega
              clear hsl hz
              go_wp2
              go_meet
              case rel => exact ⟨rfl, by rw [HE.out]⟩
            · have hz' : (R.size : Int) > 0 := by omega
              have h0 : R[0]'(by omega) = c := by
                have := Lib.data_getElem? R 0 (by omega)
                rw [hsl] at this
                exact (Option.some.inj this).symm
              have HE := Lib.hid (show hasDot R.data.toList = ((c.toNat : Int) == 46) by
                rw [hsl]; simp only [hasDot]
                by_cases h : c.toNat = 46
                · simp [h]
                · rw [beq_eq_false_iff_ne.2 (show (c.toNat : Int) ≠ 46 by omega)]; simp [h])
              clear hsl
              go_wp2
              go_meet
              case rel => exact ⟨rfl, by rw [HE.out]⟩
          case rest =>
            obtain ⟨rfl, rfl⟩ := hcut
            go_upto_if 63 with (fail)
            go_cut [0, 6, 8] (fun v0 _ v8 wx => wc = wx ∧ ∃ R2 B : ByteArray, v0 = .string R2 ∧ v8 = .string B ∧ R2.size ≤ 400 ∧ B.size ≤ 400 ∧ Hid (R2.data.toList = dotR R.data.toList ∧ B.data.toList = dotB R.data.toList))
            case first =>
              cases hdt : hasDot R.data.toList with
              | false =>
                have HX := Lib.hid (show R.data.toList = dotR R.data.toList ∧ (⟨#[]⟩ : ByteArray).data.toList = dotB R.data.toList by simp [dotR, dotB, hdt])
                clear hdt
                go_wp2
                go_meet
                case rel => exact ⟨rfl, R, ⟨#[]⟩, rfl, rfl, hR4, by decide, HX⟩
              | true =>
                have hz : 1 ≤ R.size := by
                  rcases HCR.out with ⟨hsl, hz⟩ | ⟨c, l, hsl, hz⟩
                  · rw [hsl] at hdt; cases hdt
                  · omega
                have hz1 : (1 : Int) ≤ R.size := by omega
                have HDT := Lib.hid hdt
                clear hdt
                have hrd := rdigits_any (R.extract 1 R.size) wc (by simp; omega)
                rw [show (R.extract 1 R.size).data.toList = R.data.toList.drop 1 by rw [Lib.extract_to_end]] at hrd
                have hdp := dot_parts HDT.out hz
                generalize digitsN (R.data.toList.drop 1) = m at *
                have hdl2 := hdp.2.2
                have HBB := Lib.hid hdp
                have HRD := Lib.hid hrd
                clear hdp hrd
                go_wp2_with fail
                refine (Hid.out HRD).mono ?_
                rintro e w' ⟨rfl, rfl⟩
                go_wp2_with fail
                go_meet
                case rel => exact ⟨rfl, _, _, rfl, rfl, by simp; omega, by simp; omega, Lib.hid ⟨HBB.out.2.1, HBB.out.1⟩⟩
            case rest =>
              obtain ⟨rfl, R2, B, rfl, rfl, hR24, hB4, HX⟩ := hcut
              have HNE := Lib.hid (show (A.data.toList = [] ∧ B.data.toList = []) ↔ (A.size : Int) + B.size = 0 by
                rw [Lib.size_eq A, Lib.size_eq B]
                constructor
                · rintro ⟨h1, h2⟩; rw [h1, h2]; rfl
                · intro h
                  exact ⟨List.eq_nil_of_length_eq_zero (by omega), List.eq_nil_of_length_eq_zero (by omega)⟩)
              have HSH := Lib.hid (show shape s.data.toList = (if (A.size : Int) + B.size = 0 then none else tailS (signOf s.data.toList).1 A.data.toList B.data.toList R2.data.toList) by
                have h1 := bodyS_eq (signOf s.data.toList).1 S.data.toList
                rw [← HR.out, ← HA.out, ← HX.out.1, ← HX.out.2, HS.out] at h1
                unfold shape
                rw [h1]
                simp only [HNE.out])
              by_cases hz : (A.size : Int) + B.size = 0
              · have hz2 : (((A.size : Int) + B.size) == 0) = true := beq_iff_eq.2 hz
                have HE := Lib.hid (show MeetsR (shape s.data.toList) (0, 3) by rw [HSH.out, if_pos hz]; rfl)
                clear hz
                go_wp2_with fail
                go_ret2
                exact ⟨⟨0, 3, rfl, by rw [HW.out]; exact HE.out⟩, HB.out⟩
              · have hz2 : (((A.size : Int) + B.size) == 0) = false := beq_eq_false_iff_ne.2 hz
                have HSH2 := Lib.hid (show shape s.data.toList = tailS (signOf s.data.toList).1 A.data.toList B.data.toList R2.data.toList by rw [HSH.out, if_neg hz])
                clear hz
                go_upto_if 83 with (fail)
                have hcR2 : (R2.data.toList = [] ∧ R2.size = 0) ∨ ∃ c l, R2.data.toList = c :: l ∧ R2.size = l.length + 1 := by
                  cases hsl : R2.data.toList with
                  | nil => exact .inl ⟨rfl, by rw [Lib.size_eq, hsl]; rfl⟩
                  | cons c l => exact .inr ⟨c, l, rfl, by rw [Lib.size_eq, hsl]; rfl⟩
                have HCR2 := Lib.hid hcR2
                have HAB := Lib.hid (show ∀ c ∈ (A ++ B).data.toList, isD c = true from fun c hc => by
                  have h1 : (A ++ B).data.toList = A.data.toList ++ B.data.toList := by simp
                  rw [h1, HA.out, HX.out.2] at hc
                  rcases List.mem_append.1 hc with h | h
                  · exact span_all _ c h
                  · unfold dotB at h
                    split at h
                    · exact span_all _ c h
                    · cases h)
                clear hcR2 HSH HNE HX HCR HR HA hz2
                generalize hneg : (signOf s.data.toList).1 = neg at *
                clear hneg
                go_cut [9] (fun v9 wx => wc = wx ∧ ∃ (E : List UInt8) (down : Bool), v9 = .int .i64 (if down then -(capF 0 E : Int) else capF 0 E) ∧ Hid (shape s.data.toList = some ⟨neg, A.data.toList, B.data.toList, down, E⟩))
                case first =>
                  rcases HCR2.out with ⟨hsl, hz⟩ | ⟨c, l, hsl, hz⟩
                  · have HE := Lib.hid (show shape s.data.toList = some ⟨neg, A.data.toList, B.data.toList, false, []⟩ by rw [HSH2.out, hsl]; rfl)
                    have hz' : ¬ 0 < R2.size := by omega
                    clear hsl hz
                    go_wp2_with fail
                    go_meet
                    case rel => exact ⟨rfl, [], false, rfl, HE⟩
                  · have hz' : 0 < R2.size := by omega
                    have hz1 : (1 : Int) ≤ R2.size := by omega
                    have h0 : R2[0]'(by omega) = c := by
                      have := Lib.data_getElem? R2 0 (by omega)
                      rw [hsl] at this
                      exact (Option.some.inj this).symm
                    by_cases he : c.toNat = 101 ∨ c.toNat = 69
                    · have HT := Lib.hid (tail_exp (neg := neg) (A := A.data.toList) (B := B.data.toList) (l := l) he)
                      have hE3 : (R2.extract 1 R2.size).data.toList = l := by rw [Lib.extract_to_end, hsl]; rfl
                      have hE4 : (R2.extract 1 R2.size).size = R2.size - 1 := by simp
                      have HE3 := Lib.hid hE3
                      have HSL := Lib.hid hsl
                      have HE4 := Lib.hid hE4
                      clear hsl hz hE3 hE4
                      go_upto_region 20 with fail
                      go_cut [91] (fun v wx => wc = wx ∧ v = .bool false)
                      case first =>
                        by_cases h101 : (c.toNat : Int) = 101
                        · have hb1 : ((c.toNat : Int) != 101) = false := by rw [h101]; rfl
                          clear h101 he
                          go_wp2_with fail
                          go_meet
                          case rel => exact ⟨rfl, rfl⟩
                        · have hb1 : ((c.toNat : Int) != 101) = true := by rw [bne_iff_ne]; omega
                          have hb2 : ((c.toNat : Int) != 69) = false := by
                            have : (c.toNat : Int) = 69 := by omega
                            rw [this]; rfl
                          clear h101 he
                          go_wp2_with fail
                          go_meet
                          case rel => exact ⟨rfl, rfl⟩
                      case rest =>
                        obtain ⟨rfl, rfl⟩ := hcut
                        clear he h0
                        go_upto_region 23 with fail
                        have hR34 : (R2.extract 1 R2.size).size ≤ 400 := by rw [HE4.out]; omega
                        generalize R2.extract 1 R2.size = R3 at *
                        have hc3 : (R3.data.toList = [] ∧ R3.size = 0) ∨ ∃ c l, R3.data.toList = c :: l ∧ R3.size = l.length + 1 := by
                          cases hsl : R3.data.toList with
                          | nil => exact .inl ⟨rfl, by rw [Lib.size_eq, hsl]; rfl⟩
                          | cons c l => exact .inr ⟨c, l, rfl, by rw [Lib.size_eq, hsl]; rfl⟩
                        have HC3 := Lib.hid hc3
                        clear hc3 hz' hz1 HE4
                        go_cut [106] (fun v wx => wc = wx ∧ v = .bool (hasSign R3.data.toList))
                        case first =>
                          rcases HC3.out with ⟨hsl, hz⟩ | ⟨a, l', hsl, hz⟩
                          · have HE := Lib.hid (show hasSign R3.data.toList = false by rw [hsl]; rfl)
                            have hz' : ¬ 0 < R3.size := by omega
                            clear hsl hz
                            go_wp2_with fail
                            go_meet
                            case rel => exact ⟨rfl, by rw [HE.out]⟩
                          · have hz' : 0 < R3.size := by omega
                            have h0 : R3[0]'(by omega) = a := by
                              have := Lib.data_getElem? R3 0 (by omega)
                              rw [hsl] at this
                              exact (Option.some.inj this).symm
                            by_cases h43 : a.toNat = 43
                            · have HE := Lib.hid (show hasSign R3.data.toList = true by rw [hsl]; simp [hasSign, h43])
                              have hb1 : ((a.toNat : Int) == 43) = true := beq_iff_eq.2 (by omega)
                              clear hsl h43
                              go_wp2_with fail
                              go_meet
                              case rel => exact ⟨rfl, by rw [HE.out]⟩
                            · have HE := Lib.hid (show hasSign R3.data.toList = ((a.toNat : Int) == 45) by
                                rw [hsl]; simp only [hasSign]
                                by_cases h : a.toNat = 45
                                · simp [h]
                                · rw [beq_eq_false_iff_ne.2 (show (a.toNat : Int) ≠ 45 by omega)]; simp [h, h43])
                              have hb1 : ((a.toNat : Int) == 43) = false := beq_eq_false_iff_ne.2 (by omega)
                              clear hsl h43
                              go_wp2_with fail
                              go_meet
                              case rel => exact ⟨rfl, by rw [HE.out]⟩
                        case rest =>
                          obtain ⟨rfl, rfl⟩ := hcut
                          go_upto_if 106 with (fail)
                          go_cut [0, 10] (fun v0 v10 wx => wc = wx ∧ ∃ (R4 : ByteArray) (dn : Bool), v0 = .string R4 ∧ v10 = .bool dn ∧ R4.size ≤ 400 ∧ Hid (signOf R3.data.toList = (dn, R4.data.toList)))
                          case first =>
                            rcases HC3.out with ⟨hsl, hz⟩ | ⟨a, l', hsl, hz⟩
                            · have HE := Lib.hid (show signOf R3.data.toList = (false, R3.data.toList) by rw [hsl]; rfl)
                              have hsg : hasSign R3.data.toList = false := by rw [hsl]; rfl
                              rw [hsg]
                              clear hsl hz
                              go_wp2_with fail
                              go_meet
                              case rel => exact ⟨rfl, R3, false, rfl, rfl, hR34, HE⟩
                            · have hz1 : (1 : Int) ≤ R3.size := by omega
                              have hp : 0 < R3.size := by omega
                              clear hz
                              have h0 : R3[0]'hp = a := by
                                have := Lib.data_getElem? R3 0 (by omega)
                                rw [hsl] at this
                                exact (Option.some.inj this).symm
                              by_cases hs2 : a.toNat = 45 ∨ a.toNat = 43
                              · have HE := Lib.hid (show signOf R3.data.toList = (((a.toNat : Int) == 45), (R3.extract 1 R3.size).data.toList) by
                                  rw [Lib.extract_to_end, hsl]
                                  simp only [signOf]
                                  by_cases h : a.toNat = 45
                                  · rw [if_pos h, beq_iff_eq.2 (show (a.toNat : Int) = 45 by omega)]; rfl
                                  · rw [if_neg h, if_pos (by omega), beq_eq_false_iff_ne.2 (show (a.toNat : Int) ≠ 45 by omega)]; rfl)
                                have hsg : hasSign R3.data.toList = true := by rw [hsl]; exact decide_eq_true hs2
                                rw [hsg]
                                clear hsl hs2
                                go_wp2_with fail
                                go_meet
                                case rel => exact ⟨rfl, _, _, rfl, rfl, by simp; omega, HE⟩
                              · have HE := Lib.hid (show signOf R3.data.toList = (false, R3.data.toList) by
                                  rw [hsl]; simp only [signOf]; rw [if_neg (by omega), if_neg (by omega)])
                                have hsg : hasSign R3.data.toList = false := by rw [hsl]; exact decide_eq_false hs2
                                rw [hsg]
                                clear hsl hs2
                                go_wp2_with fail
                                go_meet
                                case rel => exact ⟨rfl, R3, false, rfl, rfl, hR34, HE⟩
                          case rest =>
                            obtain ⟨rfl, R4, dn, rfl, rfl, hR44, HSG⟩ := hcut
                            have HSHAPE := Lib.hid (show shape s.data.toList = if R4.data.toList = [] ∨ R4.data.toList.all isD = false then none else some ⟨neg, A.data.toList, B.data.toList, dn, R4.data.toList⟩ by
                              rw [HSH2.out, HSL.out, HT.out, ← HE3.out, HSG.out])
                            clear HSG HC3 HE3 HT HSH2 HSL HCR2
                            have hrd := rdigits_any R4 wc (by omega)
                            have hdl := digitsN_le R4.data.toList
                            rw [← Lib.size_eq] at hdl
                            have hall := digitsN_all (l := R4.data.toList)
                            rw [← Lib.size_eq] at hall
                            generalize digitsN R4.data.toList = m at *
                            have HRD := Lib.hid hrd
                            have HALL := Lib.hid hall
                            clear hrd hall
                            by_cases hz : R4.size = 0
                            · have HE := Lib.hid (show MeetsR (shape s.data.toList) (0, 3) by
                                rw [HSHAPE.out, if_pos (.inl (List.eq_nil_of_length_eq_zero (by rw [← Lib.size_eq]; exact hz)))]; rfl)
                              have hzb : ((R4.size : Int) == 0) = true := beq_iff_eq.2 (by omega)
                              clear hz
                              go_wp2_with fail
                              go_ret2
                              exact ⟨⟨0, 3, rfl, by rw [HW.out]; exact HE.out⟩, HB.out⟩
                            · have hzb : ((R4.size : Int) == 0) = false := beq_eq_false_iff_ne.2 (by omega)
                              have hz1 : 0 < R4.size := by omega
                              have HNN := Lib.hid (show R4.data.toList ≠ [] from fun h0 => hz (by rw [Lib.size_eq, h0]; rfl))
                              clear hz
                              by_cases hm : m < R4.size
                              · have HE := Lib.hid (show MeetsR (shape s.data.toList) (0, 3) by
                                  rw [HSHAPE.out, if_pos (.inr (by
                                    rw [Bool.eq_false_iff]
                                    intro h
                                    have := HALL.out.2 h
                                    omega))]; rfl)
                                go_wp2_with fail
                                refine (Hid.out HRD).mono ?_
                                rintro e w' ⟨rfl, rfl⟩
                                go_wp2_with fail
                                go_ret2
                                exact ⟨⟨0, 3, rfl, by rw [HW.out]; exact HE.out⟩, HB.out⟩
                              · have HAD := Lib.hid (HALL.out.1 (by omega))
                                have HE := Lib.hid (show shape s.data.toList = some ⟨neg, A.data.toList, B.data.toList, dn, R4.data.toList⟩ by
                                  rw [HSHAPE.out, if_neg (by
                                    rintro (h | h)
                                    · exact HNN.out h
                                    · rw [HAD.out] at h; cases h)])
                                go_wp2_with fail
                                refine (Hid.out HRD).mono ?_
                                rintro e w' ⟨rfl, rfl⟩
                                go_wp2_with fail
                                go_loop [9, 11] (fun v j => ∃ i : Nat, i ≤ R4.size ∧ j = .int .i64 i ∧ v = .int .i64 (capF 0 (R4.data.toList.take i) : Nat)) (fun _ j => R4.size - (intOf j).toNat)
                                case atStart => exact ⟨0, by omega, rfl, rfl⟩
                                case round =>
                                  obtain ⟨i, hi, rfl, rfl⟩ := hrel
                                  have hcl := capF_le (R4.data.toList.take i)
                                  by_cases hlt : i < R4.size
                                  · obtain ⟨c, hc⟩ : ∃ c : UInt8, R4[i]'hlt = c := ⟨_, rfl⟩
                                    have hcl2 : R4.data.toList[i]? = some c := by rw [← hc]; exact Lib.data_getElem? R4 i hlt
                                    have h9 := (isD_iff c).1 (List.all_eq_true.1 HAD.out c (List.mem_of_getElem? hcl2))
                                    have HST := Lib.hid (show capF 0 (R4.data.toList.take (i + 1)) = min (10 * capF 0 (R4.data.toList.take i) + (c.toNat - 48)) 1099511627776 by
                                      rw [List.take_add_one, hcl2]; exact capF_snoc _ _)
                                    clear hcl2
                                    have h48 : 48 ≤ (c.toNat : Int) := by omega
                                    have h57 : (c.toNat : Int) ≤ 57 := by omega
                                    generalize capF 0 (R4.data.toList.take i) = K at *
                                    go_wp2_with fail
                                    go_round
                                    case rel => exact ⟨i + 1, by omega, by go_num, by rw [HST.out]; exact congrArg (Value.int .i64) (by omega)⟩
                                    case measure => simp [intOf] <;> omega
                                  · have HTK := Lib.hid (show R4.data.toList.take i = R4.data.toList from List.take_of_length_le (by rw [← Lib.size_eq]; omega))
                                    cases dn
                                    · go_wp2_with fail
                                      go_meet
                                      case rel => exact ⟨rfl, R4.data.toList, false, by rw [HTK.out]; rfl, HE⟩
                                    · go_wp2_with fail
                                      go_meet
                                      case rel => exact ⟨rfl, R4.data.toList, true, by rw [HTK.out]; rfl, HE⟩
                    · have HE := Lib.hid (show MeetsR (shape s.data.toList) (0, 3) by rw [HSH2.out, hsl, tail_none he]; rfl)
                      have he1 : ((c.toNat : Int) != 101) = true := by rw [bne_iff_ne]; omega
                      have he2 : ((c.toNat : Int) != 69) = true := by rw [bne_iff_ne]; omega
                      clear hsl hz he
                      go_wp2_with fail
                      go_ret2
                      exact ⟨⟨0, 3, rfl, by rw [HW.out]; exact HE.out⟩, HB.out⟩
                case rest =>
                  obtain ⟨rfl, E, down, rfl, HSP⟩ := hcut
                  have hE0 := capF_le E
                  have HPW := Lib.hid (show powR ⟨neg, A.data.toList, B.data.toList, down, E⟩ = (if down then -(capF 0 E : Int) else capF 0 E) + 6 - B.size by rw [Lib.size_eq]; rfl)
                  have hX : -1099511627776 ≤ (if down then -(capF 0 E : Int) else capF 0 E) ∧ (if down then -(capF 0 E : Int) else capF 0 E) ≤ 1099511627776 := by cases down <;> simp <;> omega
                  generalize (if down then -(capF 0 E : Int) else capF 0 E) = X at *
                  obtain ⟨hX0, hX1⟩ := hX
                  have hrv := rvalue_any (A ++ B) (X + 6 - B.size) neg wc HAB.out (by simp; omega) (by omega) (by omega)
                  have HRV := Lib.hid hrv
                  clear hrv hE0
                  go_wp2_with fail
                  refine (Hid.out HRV).mono ?_
                  rintro e w' ⟨⟨r1, r2, rfl, hans⟩, rfl⟩
                  have HANS := Lib.hid (show MeetsR (shape s.data.toList) (r1, r2) by
                    rw [HSP.out]
                    show Ans neg (valF 0 (A.data.toList ++ B.data.toList)) (powR _) (r1, r2)
                    rw [HPW.out]
                    simpa using hans)
                  clear hans
                  go_wp2_with fail
                  go_ret2
                  exact ⟨⟨r1, r2, rfl, by rw [HW.out]; exact HANS.out⟩, HB.out⟩
end Go.Proofs.YtmbdggbppbkojaaDoor
