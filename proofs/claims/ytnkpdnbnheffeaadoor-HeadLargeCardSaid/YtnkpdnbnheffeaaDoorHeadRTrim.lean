/- The document's Trim. -/
import Derived.Test.YtnkpdnbnheffeaaDoorHeadRStatus
import Derived.Test.YtnkpdnbnheffeaaDoorHeadCloses
namespace Go.Proofs.YtnkpdnbnheffeaaDoor
open Go.RowKit

def blB (c : UInt8) : Bool := ([32, 9] : List UInt8).contains c
theorem blB_eq (c : UInt8) : blB c = decide ((c.toNat : Int) = 32 ∨ (c.toNat : Int) = 9) := by
  have e : ∀ d : UInt8, (c = d) ↔ c.toNat = d.toNat := fun d => ⟨fun h => by rw [h], fun h => UInt8.toNat_inj.1 h⟩
  have h1 := e 32
  have h2 := e 9
  change c = 32 ↔ c.toNat = 32 at h1
  change c = 9 ↔ c.toNat = 9 at h2
  unfold blB
  rw [Bool.eq_iff_iff, decide_eq_true_eq, List.contains_iff_mem]
  simp only [List.mem_cons, List.not_mem_nil, or_false]
  rw [h1, h2]
  omega
theorem right_snoc {l : List UInt8} {c : UInt8} (h : blB c = true) : Lib.trimRightS (l ++ [c]) [32, 9] = Lib.trimRightS l [32, 9] := by
  have h' : ([32, 9] : List UInt8).contains c = true := h
  unfold Lib.trimRightS
  rw [List.reverse_append, List.reverse_singleton, List.singleton_append, List.dropWhile_cons, if_pos h']
theorem right_keep {l : List UInt8} {c : UInt8} (h : blB c = false) : Lib.trimRightS (l ++ [c]) [32, 9] = l ++ [c] := by
  unfold Lib.trimRightS
  rw [List.reverse_append, List.reverse_singleton, List.singleton_append, List.dropWhile_cons, if_neg (by rw [show ([32, 9] : List UInt8).contains c = false from h]; simp)]
  simp
theorem right_cons (l : List UInt8) (c : UInt8) (h : blB c = true) : Lib.trimLeftS (Lib.trimRightS (c :: l) [32, 9]) [32, 9] = Lib.trimLeftS (Lib.trimRightS l [32, 9]) [32, 9] := by
  have h' : ([32, 9] : List UInt8).contains c = true := h
  unfold Lib.trimRightS
  rw [List.reverse_cons, List.dropWhile_append]
  split
  · rename_i he
    have h0 : List.dropWhile (fun x => ([32, 9] : List UInt8).contains x) l.reverse = [] := by simpa using he
    rw [h0, List.dropWhile_cons, if_pos h']
    rfl
  · rw [List.reverse_append, List.reverse_singleton, List.singleton_append]
    unfold Lib.trimLeftS
    rw [List.dropWhile_cons, if_pos h']
theorem trimL_cons {l : List UInt8} {c : UInt8} (h : blB c = true) : trimL (c :: l) = trimL l := right_cons l c h
theorem trimL_snoc {l : List UInt8} {c : UInt8} (h : blB c = true) : trimL (l ++ [c]) = trimL l := by
  unfold trimL Lib.trimS
  rw [right_snoc h]
theorem trimL_done {l : List UInt8} (h1 : ∀ c, l.head? = some c → blB c = false) (h2 : ∀ c, l.getLast? = some c → blB c = false) : trimL l = l := by
  rcases List.eq_nil_or_concat l with rfl | ⟨m, c, rfl⟩
  · rfl
  · have hr := right_keep (l := m) (h2 c (by simp))
    rw [List.concat_eq_append] at h1 ⊢
    unfold trimL Lib.trimS
    rw [hr]
    cases hm : m ++ [c] with
    | nil => simp at hm
    | cons a r =>
      have := h1 a (by rw [hm]; rfl)
      unfold Lib.trimLeftS
      rw [List.dropWhile_cons, if_neg (by rw [show ([32, 9] : List UInt8).contains a = false from this]; simp)]
theorem ext_one {S : ByteArray} {c : UInt8} {r : List UInt8} (h : S.data.toList = c :: r) : S.extract 1 S.size = ⟨r.toArray⟩ := ba_eq (by rw [Lib.extract_to_end, h]; rfl)
theorem ext_last {S : ByteArray} {c : UInt8} {r : List UInt8} (h : S.data.toList = r ++ [c]) : S.extract 0 (S.size - 1) = ⟨r.toArray⟩ := ba_eq (by
  rw [ByteArray.data_extract]
  have hz := Lib.size_eq S
  rw [h, List.length_append] at hz
  simp at hz
  simp [h, hz])
set_option maxRecDepth 100000 in
set_option maxHeartbeats 1000000 in
theorem rtrim_any (s : ByteArray) (w : World) (hs : s.size ≤ 1000000) :
    Calls Tryd.prog 45 #[.string s] w fun e w' => e = .returned (.string ⟨(trimL s.data.toList).toArray⟩) ∧ w = w' := by
  obtain ⟨T, hT⟩ : ∃ T, T = trimL s.data.toList := ⟨_, rfl⟩
  rw [← hT]
  have HT := Lib.hid hT
  clear hT
  go_enter Tryd.func45, Tryd.ntmps45
  go_wp2
  go_loop [0] (fun v => ∃ S : ByteArray, v = .string S ∧ S.size ≤ 1000000 ∧ Hid (T = trimL S.data.toList)) (fun v => szV v)
  case atStart => exact ⟨s, rfl, hs, HT⟩
  case round =>
    obtain ⟨S, rfl, hS, HTS⟩ := hrel
    have HZ := Lib.hid (Lib.size_eq S)
    by_cases h0 : (0 : Int) < (S.size : Int)
    · obtain ⟨c, hc, hcl⟩ := data_at S 0 (by omega)
      obtain ⟨r, hr⟩ : ∃ r, S.data.toList = c :: r := by
        cases hl : S.data.toList with
        | nil => rw [hl] at hcl; cases hcl
        | cons a r => rw [hl] at hcl; simp at hcl; exact ⟨r, by rw [hcl]⟩
      have HR := Lib.hid hr
      have hx := ext_one hr
      have HBL := Lib.hid (blB_eq c)
      have h1S : (1 : Int) ≤ (S.size : Int) := by omega
      clear hcl hr
      have hm : szV (.string ⟨r.toArray⟩) < szV (.string S) := by
        show (⟨r.toArray⟩ : ByteArray).size < S.size
        rw [Lib.size_eq, HZ.out, HR.out]
        show r.length < (c :: r).length
        simp
      have HM := Lib.hid hm
      have HRZ := Lib.hid (show (⟨r.toArray⟩ : ByteArray).size ≤ 1000000 by have h := HM.out; have h2 : (⟨r.toArray⟩ : ByteArray).size < S.size := h; omega)
      clear hm
      by_cases h32 : (c.toNat : Int) = 32
      · have HN := Lib.hid (show T = trimL r by rw [HTS.out, HR.out]; exact trimL_cons (by rw [HBL.out, decide_eq_true (.inl h32)]))
        go_wp2
        go_round
        case rel => exact ⟨⟨r.toArray⟩, rfl, HRZ.out, HN⟩
        case measure => exact HM.out
      · have g1 : ((c.toNat : Int) == 32) = false := by simpa using h32
        by_cases h9 : (c.toNat : Int) = 9
        · have HN := Lib.hid (show T = trimL r by rw [HTS.out, HR.out]; exact trimL_cons (by rw [HBL.out, decide_eq_true (.inr h9)]))
          clear h32
          go_wp2
          go_round
          case rel => exact ⟨⟨r.toArray⟩, rfl, HRZ.out, HN⟩
          case measure => exact HM.out
        · have g2 : ((c.toNat : Int) == 9) = false := by simpa using h9
          have HD := Lib.hid (show ∀ x, S.data.toList.head? = some x → blB x = false by
            rw [HR.out]
            rintro x hx
            cases hx
            rw [HBL.out, decide_eq_false (by omega)])
          clear h32 h9
          go_wp2_with fail
          go_loop [0] (fun v => ∃ U : ByteArray, v = .string U ∧ U.size ≤ 1000000 ∧ Hid (T = trimL U.data.toList) ∧ Hid (∀ x, U.data.toList.head? = some x → blB x = false)) (fun v => szV v)
          case atStart => exact ⟨S, rfl, hS, HTS, HD⟩
          case round =>
            obtain ⟨U, rfl, hU, HTU, HDU⟩ := hrel
            have HZU := Lib.hid (Lib.size_eq U)
            by_cases hu0 : U.size = 0
            · have HE := Lib.hid (show T = U.data.toList by
                have h := HZU.out
                rw [hu0] at h
                have hnil : U.data.toList = [] := List.eq_nil_of_length_eq_zero h.symm
                rw [HTU.out, hnil]
                rfl)
              have hge2 : decide (0 < U.size) = false := decide_eq_false (by omega)
              go_wp2
              go_ret
              exact ⟨by rw [HE.out, Lib.mk_data]; rfl, rfl⟩
            · obtain ⟨m, hm⟩ : ∃ m, U.size = m + 1 := ⟨U.size - 1, by omega⟩
              obtain ⟨c2, hc2, hcl2⟩ := data_at U m (by omega)
              obtain ⟨r2, hr2⟩ : ∃ r2, U.data.toList = r2 ++ [c2] := by
                rcases List.eq_nil_or_concat U.data.toList with hl | ⟨r, a, hl⟩
                · rw [hl] at hcl2; cases hcl2
                · rw [List.concat_eq_append] at hl
                  have h := HZU.out
                  rw [hl, List.length_append, hm] at h
                  simp at h
                  rw [hl, List.getElem?_append_right (by omega)] at hcl2
                  rw [h] at hcl2
                  simp at hcl2
                  exact ⟨r, by rw [hl, hcl2]⟩
              have HRU := Lib.hid hr2
              have hxu := ext_last hr2
              rw [hm] at hxu
              simp only [Nat.add_sub_cancel] at hxu
              have HBU := Lib.hid (blB_eq c2)
              have HLA := Lib.hid (show U.data.toList.getLast? = some c2 by rw [hr2]; simp)
              have hlen : r2.length = m := by
                have h := HZU.out
                rw [hr2, List.length_append, hm] at h
                simp at h
                omega
              have HMU := Lib.hid (show szV (.string ⟨r2.toArray⟩) < szV (.string U) by
                show (⟨r2.toArray⟩ : ByteArray).size < U.size
                rw [Lib.size_eq]
                show r2.length < U.size
                omega)
              have HRZU := Lib.hid (show (⟨r2.toArray⟩ : ByteArray).size ≤ 1000000 by
                rw [Lib.size_eq]
                show r2.length ≤ _
                omega)
              have HDR := Lib.hid (show ∀ x, r2.head? = some x → blB x = false from fun x hx => HDU.out x (by
                rw [hr2]
                cases r2 with
                | nil => cases hx
                | cons a q => simpa using hx))
              have hmz : (m : Int) < (m : Int) + 1 := by omega
              clear hcl2 hr2 hlen hu0
              by_cases k32 : (c2.toNat : Int) = 32
              · have HN := Lib.hid (show T = trimL r2 by rw [HTU.out, HRU.out]; exact trimL_snoc (by rw [HBU.out, decide_eq_true (.inl k32)]))
                go_wp2
                go_round
                case rel => exact ⟨⟨r2.toArray⟩, rfl, HRZU.out, HN, HDR⟩
                case measure => exact HMU.out
              · have g1 : ((c2.toNat : Int) == 32) = false := by simpa using k32
                by_cases k9 : (c2.toNat : Int) = 9
                · have HN := Lib.hid (show T = trimL r2 by rw [HTU.out, HRU.out]; exact trimL_snoc (by rw [HBU.out, decide_eq_true (.inr k9)]))
                  clear k32
                  go_wp2
                  go_round
                  case rel => exact ⟨⟨r2.toArray⟩, rfl, HRZU.out, HN, HDR⟩
                  case measure => exact HMU.out
                · have g2 : ((c2.toNat : Int) == 9) = false := by simpa using k9
                  have HE := Lib.hid (show T = U.data.toList by
                    rw [HTU.out]
                    exact trimL_done HDU.out (fun x hx => by
                      rw [HLA.out] at hx
                      cases hx
                      rw [HBU.out, decide_eq_false (by omega)]))
                  clear k32 k9
                  go_wp2
                  go_ret
                  exact ⟨by rw [HE.out, Lib.mk_data]; rfl, rfl⟩
    · have hge : decide (0 < S.size) = false := decide_eq_false (by omega)
      have hz0 : S.size = 0 := by omega
      have HD := Lib.hid (show ∀ x, S.data.toList.head? = some x → blB x = false by
        have hnil : S.data.toList = [] := List.eq_nil_of_length_eq_zero (by rw [← HZ.out]; omega)
        rw [hnil]
        rintro x hx
        cases hx)
      clear h0
      go_wp2_with fail
      go_loop [0] (fun v => ∃ U : ByteArray, v = .string U ∧ U.size ≤ 1000000 ∧ Hid (T = trimL U.data.toList) ∧ Hid (∀ x, U.data.toList.head? = some x → blB x = false)) (fun v => szV v)
      case atStart => exact ⟨S, rfl, hS, HTS, HD⟩
      case round =>
        obtain ⟨U, rfl, hU, HTU, HDU⟩ := hrel
        have HZU := Lib.hid (Lib.size_eq U)
        by_cases hu0 : U.size = 0
        · have HE := Lib.hid (show T = U.data.toList by
            have h := HZU.out
            rw [hu0] at h
            have hnil : U.data.toList = [] := List.eq_nil_of_length_eq_zero h.symm
            rw [HTU.out, hnil]
            rfl)
          have hge2 : decide (0 < U.size) = false := decide_eq_false (by omega)
          go_wp2
          go_ret
          exact ⟨by rw [HE.out, Lib.mk_data]; rfl, rfl⟩
        · obtain ⟨m, hm⟩ : ∃ m, U.size = m + 1 := ⟨U.size - 1, by omega⟩
          obtain ⟨c2, hc2, hcl2⟩ := data_at U m (by omega)
          obtain ⟨r2, hr2⟩ : ∃ r2, U.data.toList = r2 ++ [c2] := by
            rcases List.eq_nil_or_concat U.data.toList with hl | ⟨r, a, hl⟩
            · rw [hl] at hcl2; cases hcl2
            · rw [List.concat_eq_append] at hl
              have h := HZU.out
              rw [hl, List.length_append, hm] at h
              simp at h
              rw [hl, List.getElem?_append_right (by omega)] at hcl2
              rw [h] at hcl2
              simp at hcl2
              exact ⟨r, by rw [hl, hcl2]⟩
          have HRU := Lib.hid hr2
          have hxu := ext_last hr2
          rw [hm] at hxu
          simp only [Nat.add_sub_cancel] at hxu
          have HBU := Lib.hid (blB_eq c2)
          have HLA := Lib.hid (show U.data.toList.getLast? = some c2 by rw [hr2]; simp)
          have hlen : r2.length = m := by
            have h := HZU.out
            rw [hr2, List.length_append, hm] at h
            simp at h
            omega
          have HMU := Lib.hid (show szV (.string ⟨r2.toArray⟩) < szV (.string U) by
            show (⟨r2.toArray⟩ : ByteArray).size < U.size
            rw [Lib.size_eq]
            show r2.length < U.size
            omega)
          have HRZU := Lib.hid (show (⟨r2.toArray⟩ : ByteArray).size ≤ 1000000 by
            rw [Lib.size_eq]
            show r2.length ≤ _
            omega)
          have HDR := Lib.hid (show ∀ x, r2.head? = some x → blB x = false from fun x hx => HDU.out x (by
            rw [hr2]
            cases r2 with
            | nil => cases hx
            | cons a q => simpa using hx))
          have hmz : (m : Int) < (m : Int) + 1 := by omega
          clear hcl2 hr2 hlen hu0
          by_cases k32 : (c2.toNat : Int) = 32
          · have HN := Lib.hid (show T = trimL r2 by rw [HTU.out, HRU.out]; exact trimL_snoc (by rw [HBU.out, decide_eq_true (.inl k32)]))
            go_wp2
            go_round
            case rel => exact ⟨⟨r2.toArray⟩, rfl, HRZU.out, HN, HDR⟩
            case measure => exact HMU.out
          · have g1 : ((c2.toNat : Int) == 32) = false := by simpa using k32
            by_cases k9 : (c2.toNat : Int) = 9
            · have HN := Lib.hid (show T = trimL r2 by rw [HTU.out, HRU.out]; exact trimL_snoc (by rw [HBU.out, decide_eq_true (.inr k9)]))
              clear k32
              go_wp2
              go_round
              case rel => exact ⟨⟨r2.toArray⟩, rfl, HRZU.out, HN, HDR⟩
              case measure => exact HMU.out
            · have g2 : ((c2.toNat : Int) == 9) = false := by simpa using k9
              have HE := Lib.hid (show T = U.data.toList by
                rw [HTU.out]
                exact trimL_done HDU.out (fun x hx => by
                  rw [HLA.out] at hx
                  cases hx
                  rw [HBU.out, decide_eq_false (by omega)]))
              clear k32 k9
              go_wp2
              go_ret
              exact ⟨by rw [HE.out, Lib.mk_data]; rfl, rfl⟩
end Go.Proofs.YtnkpdnbnheffeaaDoor
