/- The document's 'digits times ten to a power': the walk of odometerref01.value. -/
import Derived.Test.YtmbdggbppbkojaaDoorRefLower
import Derived.Deep.DeepCutAuto
namespace Go.Proofs.YtmbdggbppbkojaaDoor
open Go.RowKit

def strLen : Value → Nat
  | .string s => s.size
  | _ => 0

/-- The digits with no 0 ahead: at least ten to how many stand behind the first. -/
theorem valF_ge : ∀ (l : List UInt8) (n : Nat), n * 10 ^ l.length ≤ valF n l
  | [], n => by simp [valF]
  | c :: l, n => by
    rw [valF_cons, List.length_cons, Nat.pow_succ]
    refine Nat.le_trans ?_ (valF_ge l _)
    rw [show n * (10 ^ l.length * 10) = (10 * n) * 10 ^ l.length by rw [Nat.mul_comm (10 ^ l.length), ← Nat.mul_assoc, Nat.mul_comm n]]
    exact Nat.mul_le_mul_right _ (by omega)
theorem valF_head {c : UInt8} {l : List UInt8} (hc : isD c = true) (h0 : c.toNat ≠ 48) : 10 ^ l.length ≤ valF 0 (c :: l) := by
  have h9 := (isD_iff c).1 hc
  rw [valF_cons]
  refine Nat.le_trans ?_ (valF_ge l _)
  have : 1 * 10 ^ l.length ≤ (10 * 0 + (c.toNat - 48)) * 10 ^ l.length := Nat.mul_le_mul_right _ (by omega)
  omega

/-- Where no 0 stands ahead and none behind, and there is a digit. -/
structure Trim (l : List UInt8) : Prop where
  digits : ∀ c ∈ l, isD c = true
  head : ∀ c t, l = c :: t → c.toNat ≠ 48

/-- What the three refusals, and the last answer, come to. -/
theorem value_zero {neg : Bool} {v k : Nat} {p : Int} {l : List UInt8} (hv : v = valF 0 l * 10 ^ k) (hl : l = []) : Ans neg v p (0, 0) := by
  subst hl; exact .inl ⟨by rw [hv]; simp [valF], rfl⟩
theorem value_shape {neg : Bool} {v k : Nat} {p : Int} {l : List UInt8} {r : Int × Int} (hv : v = valF 0 l * 10 ^ k) (hm : valF 0 l % 10 ≠ 0)
    (h : (p + k < 0 ∧ r = (0, 4)) ∨ (∃ q : Nat, p + k = q ∧ ((valF 0 l * 10 ^ q ≤ bnd neg ∧ r = (sgnI neg (valF 0 l * 10 ^ q), 0)) ∨ (bnd neg < valF 0 l * 10 ^ q ∧ r = (0, 4))))) : Ans neg v p r :=
  .inr ⟨valF 0 l, k, hv, hm, h⟩
theorem value_low {neg : Bool} {v k : Nat} {p : Int} {l : List UInt8} (hv : v = valF 0 l * 10 ^ k) (hm : valF 0 l % 10 ≠ 0) (h : p + k < 0) : Ans neg v p (0, 4) :=
  value_shape hv hm (.inl ⟨h, rfl⟩)
theorem value_big {neg : Bool} {v k : Nat} {p : Int} {l : List UInt8} (ht : Trim l) (hl : l ≠ []) (hv : v = valF 0 l * 10 ^ k) (hm : valF 0 l % 10 ≠ 0) (h0 : 0 ≤ p + k) (h : p + k > 19 ∨ l.length + (p + k) > 19) : Ans neg v p (0, 4) := by
  obtain ⟨q, hq⟩ : ∃ q : Nat, p + k = q := ⟨(p + k).toNat, by omega⟩
  refine value_shape hv hm (.inr ⟨q, hq, .inr ⟨?_, rfl⟩⟩)
  cases l with
  | nil => exact absurd rfl hl
  | cons c t =>
    have h1 := valF_head (l := t) (ht.digits c (List.mem_cons_self ..)) (ht.head c t rfl)
    have h2 : 10 ^ t.length * 10 ^ q ≤ valF 0 (c :: t) * 10 ^ q := Nat.mul_le_mul_right _ h1
    rw [← Nat.pow_add] at h2
    have h3 : 10 ^ 19 ≤ 10 ^ (t.length + q) := pow10_mono (by simp at h; omega)
    have h4 := bnd_lt neg
    omega
theorem last_mod {l : List UInt8} {c : UInt8} (hc : isD c = true) (h0 : c.toNat ≠ 48) : valF 0 (l ++ [c]) % 10 ≠ 0 := by
  have h9 := (isD_iff c).1 hc
  rw [valF_snoc]; omega

theorem run_lss {P : Program} {t : TypeId} {k : IntKind} {a b : Int} {v : Bool} (w : World) (h : decide (a < b) = v) : (binOp .lss t (.int k a) (.int k b)).run P w = .ok (.bool v) w := by
  subst h; go_simp
/-- The number after i rounds. -/
def accF (l : List UInt8) (i : Nat) : Nat := valF 0 (l.take i) * 10 ^ (i - l.length)
theorem accF_digit {l : List UInt8} {i : Nat} {c : UInt8} (h : l[i]? = some c) : accF l (i + 1) = 10 * accF l i + (c.toNat - 48) := by
  have hi : i < l.length := (List.getElem?_eq_some_iff.1 h).1
  unfold accF
  rw [List.take_add_one, h, show i + 1 - l.length = 0 by omega, show i - l.length = 0 by omega]
  simp [valF_snoc]
theorem accF_zero {l : List UInt8} {i : Nat} (h : l.length ≤ i) : accF l (i + 1) = 10 * accF l i := by
  unfold accF
  rw [List.take_of_length_le (by omega), List.take_of_length_le h, show i + 1 - l.length = (i - l.length) + 1 by omega, Nat.pow_succ]
  simp [Nat.mul_comm, Nat.mul_left_comm, Nat.mul_assoc]
theorem accF_lt {l : List UInt8} (hl : ∀ c ∈ l, isD c = true) (i : Nat) : accF l i < 10 ^ i := by
  unfold accF
  have h1 := valF_lt (l.take i) 0 0 (fun c hc => hl c (List.mem_of_mem_take hc)) (by simp)
  rw [Nat.zero_add, List.length_take] at h1
  have h2 : valF 0 (l.take i) * 10 ^ (i - l.length) < 10 ^ (min i l.length) * 10 ^ (i - l.length) := Nat.mul_lt_mul_of_pos_right h1 (pow10_pos _)
  rw [← Nat.pow_add, show min i l.length + (i - l.length) = i by omega] at h2
  exact h2
theorem accF_end (l : List UInt8) (q : Nat) : accF l (l.length + q) = valF 0 l * 10 ^ q := by
  unfold accF
  rw [List.take_of_length_le (by omega), show l.length + q - l.length = q by omega]

def ValuePost (d : ByteArray) (p : Int) (neg : Bool) (w : World) (e : Ending) (w' : World) : Prop :=
  (∃ r1 r2 : Int, e = .returned (.tuple #[.int .i64 r1, .int .i64 r2]) ∧ Ans neg (valF 0 d.data.toList) p (r1, r2)) ∧ w = w'
set_option maxRecDepth 100000 in
set_option maxHeartbeats 2000000 in
theorem rvalue_any (d : ByteArray) (p : Int) (neg : Bool) (w : World) (hd : ∀ c ∈ d.data.toList, isD c = true) (hs : d.size ≤ 1000000) (hp0 : -1152921504606846976 ≤ p) (hp1 : p ≤ 1152921504606846976) :
    Calls Tryd.prog 26 #[.string d, .int .i64 p, .bool neg] w (ValuePost d p neg w) := by
  have HD := Lib.hid hd
  clear hd
  go_enter Tryd.func26, Tryd.ntmps26
  go_wp2
  go_loop [0] (fun v => ∃ S : ByteArray, v = .string S ∧ S.size ≤ 1000000 ∧ Hid ((∀ c ∈ S.data.toList, isD c = true) ∧ valF 0 S.data.toList = valF 0 d.data.toList)) (fun v => strLen v)
  case atStart => exact ⟨d, rfl, hs, Lib.hid ⟨HD.out, rfl⟩⟩
  case round =>
    obtain ⟨S, rfl, hS, HS⟩ := hrel
    by_cases hz : 0 < S.size
    · obtain ⟨c, hc⟩ : ∃ c : UInt8, S[0]'hz = c := ⟨_, rfl⟩
      have hcl : S.data.toList = c :: S.data.toList.drop 1 := by
        have := Lib.drop_at (l := S.data.toList) (k := 0) (x := c) (by rw [← hc]; exact Lib.data_getElem? S 0 hz)
        simpa using this
      have HCL := Lib.hid hcl
      clear hcl
      have hz' : ((S.size : Int)) > 0 := by omega
      by_cases h48 : (c.toNat : Int) = 48
      · have h48' : ((c.toNat : Int) == 48) = true := beq_iff_eq.2 h48
        have HN := Lib.hid (show (∀ x ∈ (S.extract 1 S.size).data.toList, isD x = true) ∧ valF 0 (S.extract 1 S.size).data.toList = valF 0 d.data.toList by
          rw [Lib.extract_to_end]
          have h1 := HS.out
          rw [HCL.out] at h1
          refine ⟨fun x hx => h1.1 x (List.mem_cons_of_mem _ hx), ?_⟩
          rw [← h1.2, valF_cons]
          congr 1
          omega)
        clear h48
        go_wp2
        go_round
        case rel => exact ⟨_, rfl, by simp; omega, HN⟩
        case measure => simp [strLen] <;> omega
      · have h48' : ((c.toNat : Int) == 48) = false := beq_eq_false_iff_ne.2 h48
        have HT := Lib.hid (show ∀ x t, S.data.toList = x :: t → x.toNat ≠ 48 from fun x t e => by rw [HCL.out] at e; cases e; omega)
        clear h48 HCL
        go_wp2
        go_loop [0, 1] (fun v j => ∃ (T : ByteArray) (k : Nat), v = .string T ∧ j = .int .i64 (p + k) ∧ T.size ≤ 1000000 ∧ T.size + k ≤ S.size ∧ 0 < T.size ∧ Hid ((∀ c ∈ T.data.toList, isD c = true) ∧ (∀ x t, T.data.toList = x :: t → x.toNat ≠ 48) ∧ valF 0 d.data.toList = valF 0 T.data.toList * 10 ^ k)) (fun v _ => strLen v)
        case atStart => exact ⟨S, 0, rfl, by simp, hS, by omega, hz, Lib.hid ⟨HS.out.1, HT.out, by rw [← HS.out.2]; simp⟩⟩
        case round =>
          obtain ⟨T, k, rfl, rfl, hT, hTk, hTz, HTT⟩ := hrel
          obtain ⟨e, he⟩ : ∃ e : UInt8, T[T.size - 1]'(by omega) = e := ⟨_, rfl⟩
          have hTl : T.data.toList = T.data.toList.take (T.size - 1) ++ [e] := by
            have h1 := Lib.data_getElem? T (T.size - 1) (by omega)
            rw [he] at h1
            have h2 := List.take_add_one (l := T.data.toList) (i := T.size - 1)
            rw [h1, List.take_of_length_le (by rw [← Lib.size_eq]; omega)] at h2
            exact h2
          have HTL := Lib.hid hTl
          clear hTl
          have hTz' : (T.size : Int) > 0 := by omega
          have hix : ((T.size : Int) - 1).toNat = T.size - 1 := by omega
          by_cases h48 : (e.toNat : Int) = 48
          · have h48' : ((e.toNat : Int) == 48) = true := beq_iff_eq.2 h48
            have hT2 : 2 ≤ T.size := by
              rcases Nat.lt_or_ge T.size 2 with h | h
              · exfalso
                have h1 := HTL.out
                rw [show T.size - 1 = 0 by omega] at h1
                exact absurd (HTT.out.2.1 e [] h1) (by simp; omega)
              · exact h
            have hTe : (T.extract 0 (T.size - 1)).data.toList = T.data.toList.take (T.size - 1) := by rw [Lib.extract_eq]; simp
            have HN := Lib.hid (show (∀ c ∈ (T.extract 0 (T.size - 1)).data.toList, isD c = true) ∧ (∀ x t, (T.extract 0 (T.size - 1)).data.toList = x :: t → x.toNat ≠ 48) ∧ valF 0 d.data.toList = valF 0 (T.extract 0 (T.size - 1)).data.toList * 10 ^ (k + 1) by
              obtain ⟨a1, a2, a3⟩ := HTT.out
              rw [hTe]
              refine ⟨fun c hc => a1 c (List.mem_of_mem_take hc), fun x t ex => a2 x (t ++ [e]) (by rw [HTL.out, ex]; rfl), ?_⟩
              rw [a3, HTL.out, valF_snoc, show e.toNat - 48 = 0 by omega, Nat.pow_succ]
              simp [Nat.mul_comm, Nat.mul_left_comm, Nat.mul_assoc])
            clear h48 hTe
            go_wp2
            go_round
            case rel => exact ⟨_, k + 1, rfl, by simp; omega, by simp; omega, by simp; omega, by simp; omega, HN⟩
            case measure => simp [strLen] <;> omega
          · have h48' : ((e.toNat : Int) == 48) = false := beq_eq_false_iff_ne.2 h48
            have HM := Lib.hid (show valF 0 T.data.toList % 10 ≠ 0 by
              rw [HTL.out]
              exact last_mod (HTT.out.1 e (by rw [HTL.out]; simp)) (by omega))
            have HTR := Lib.hid (show Trim T.data.toList from ⟨HTT.out.1, HTT.out.2.1⟩)
            have HNE := Lib.hid (show T.data.toList ≠ [] from fun h0 => by have h1 := Lib.size_eq T; rw [h0] at h1; exact absurd hTz (by rw [h1]; exact Nat.lt_irrefl 0))
            have HLN := Lib.hid (Lib.size_eq T)
            have hz0 : ((T.size : Int) == 0) = false := beq_eq_false_iff_ne.2 (by omega)
            clear h48
            generalize hq : p + (k : Int) = Q
            have HQ := Lib.hid hq
            have hQ0 : -1152921504606846976 ≤ Q := by omega
            have hQ1 : Q ≤ 1152921504607846976 := by omega
            clear hq
            by_cases hneg : Q < 0
            · go_wp2
              go_ret2
              exact ⟨⟨0, 4, rfl, value_low HTT.out.2.2 HM.out (by rw [HQ.out]; exact hneg)⟩, rfl⟩
            · by_cases h19 : Q > 19
              · go_wp2
                go_ret2
                exact ⟨⟨0, 4, rfl, value_big HTR.out HNE.out HTT.out.2.2 HM.out (by rw [HQ.out]; omega) (by rw [HQ.out]; exact .inl h19)⟩, rfl⟩
              · by_cases hl19 : (T.size : Int) + Q > 19
                · go_wp2
                  go_ret2
                  exact ⟨⟨0, 4, rfl, value_big HTR.out HNE.out HTT.out.2.2 HM.out (by rw [HQ.out]; omega) (by rw [HQ.out, ← Lib.size_eq]; exact .inr hl19)⟩, rfl⟩
                · obtain ⟨q, rfl⟩ : ∃ q : Nat, Q = q := ⟨Q.toNat, by omega⟩
                  have HLT := Lib.hid (accF_lt HTT.out.1)
                  go_wp2
                  go_loop [8, 9] (fun v j => ∃ i : Nat, i ≤ T.size + q ∧ j = .int .i64 i ∧ v = .int .u64 (accF T.data.toList i)) (fun _ j => T.size + q - (intOf j).toNat)
                  case atStart => exact ⟨0, by omega, rfl, by simp [accF, valF]⟩
                  case round =>
                    obtain ⟨i, hi, rfl, rfl⟩ := hrel
                    have hle : i < T.size + q → 10 * accF T.data.toList i + 9 < 18446744073709551616 := fun hlt => by
                      have h1 := HLT.out (i := i)
                      have h2 : 10 ^ (i + 1) ≤ 10 ^ 19 := pow10_mono (by omega)
                      rw [Nat.pow_succ] at h2
                      omega
                    by_cases hi1 : i < T.size + q
                    · have hle' := hle hi1
                      clear hle
                      by_cases hi2 : i < T.size
                      · obtain ⟨c, hc⟩ : ∃ c : UInt8, T[i]'hi2 = c := ⟨_, rfl⟩
                        have hcl : T.data.toList[i]? = some c := by rw [← hc]; exact Lib.data_getElem? T i hi2
                        have h9 := (isD_iff c).1 (HTT.out.1 c (List.mem_of_getElem? hcl))
                        have HST := Lib.hid (accF_digit hcl)
                        clear hcl
                        have h48 : 48 ≤ (c.toNat : Int) := by omega
                        have h57 : (c.toNat : Int) ≤ 57 := by omega
                        generalize accF T.data.toList i = A at *
                        go_wp2
                        go_round
                        case rel => exact ⟨i + 1, by omega, by go_num, by rw [HST.out]; exact congrArg (Value.int .u64) (by omega)⟩
                        case measure => simp [intOf] <;> omega
                      · have HST := Lib.hid (accF_zero (l := T.data.toList) (i := i) (by rw [← Lib.size_eq]; omega))
                        generalize accF T.data.toList i = A at *
                        go_wp2
                        go_round
                        case rel => exact ⟨i + 1, by omega, by go_num, by rw [HST.out]; exact congrArg (Value.int .u64) (by omega)⟩
                        case measure => simp [intOf] <;> omega
                    · clear hle
                      have HEN := Lib.hid (show accF T.data.toList i = valF 0 T.data.toList * 10 ^ q by
                        rw [← accF_end, ← Lib.size_eq, show i = T.size + q by omega])
                      have hlt := accF_lt HTT.out.1 i
                      have h19 : 10 ^ i ≤ 10 ^ 19 := pow10_mono (by omega)
                      have hA : accF T.data.toList i < 18446744073709551616 := by omega
                      clear hlt h19
                      have fin : ∀ r1 r2 : Int, ((accF T.data.toList i ≤ bnd neg ∧ ((r1, r2) : Int × Int) = (sgnI neg (accF T.data.toList i), 0)) ∨ (bnd neg < accF T.data.toList i ∧ ((r1, r2) : Int × Int) = (0, 4))) → Ans neg (valF 0 d.data.toList) p (r1, r2) := fun r1 r2 h => by
                        rw [HEN.out] at h
                        exact value_shape HTT.out.2.2 HM.out (.inr ⟨q, HQ.out, h⟩)
                      have FIN := Lib.hid fin
                      clear fin
                      generalize accF T.data.toList i = A at *
                      have HA := Lib.hid hA
                      clear hA
                      go_upto_region 17 with fail
                      cases neg
                      · go_upto_region 19 with fail
                        by_cases hA2 : (A : Int) < 9223372036854775808
                        · go_wp2
                          go_ret2
                          exact ⟨⟨_, 0, rfl, FIN.out _ _ (.inl ⟨by simp [bnd]; omega, by simp [sgnI]⟩)⟩, rfl⟩
                        · go_wp2
                          go_ret2
                          exact ⟨⟨0, 4, rfl, FIN.out _ _ (.inr ⟨by simp [bnd]; omega, rfl⟩)⟩, rfl⟩
                      · by_cases hA2 : (A : Int) ≤ 9223372036854775808
                        · go_wp2
                          go_ret2
                          exact ⟨⟨_, 0, rfl, FIN.out _ _ (.inl ⟨by simp [bnd]; omega, by rw [wrap_neg_eq A (by omega)]; simp [sgnI]⟩)⟩, rfl⟩
                        · go_wp2
                          go_ret2
                          exact ⟨⟨0, 4, rfl, FIN.out _ _ (.inr ⟨by simp [bnd]; omega, rfl⟩)⟩, rfl⟩
    · have HN := Lib.hid (show valF 0 d.data.toList = 0 by
        rw [← HS.out.2, show S.data.toList = [] from List.eq_nil_of_length_eq_zero (by rw [← Lib.size_eq]; omega)]; simp [valF])
      have hz' : decide ((S.size : Int) > 0) = false := decide_eq_false (by omega)
      have hz2 : ((S.size : Int) == 0) = true := beq_iff_eq.2 (by omega)
      clear HS
      go_wp2
      go_loop [0, 1] (fun v j => v = .string S ∧ j = .int .i64 p) (fun _ _ => 0)
      case atStart => exact ⟨rfl, rfl⟩
      case round =>
        obtain ⟨rfl, rfl⟩ := hrel
        go_wp2
        go_ret2
        exact ⟨⟨0, 0, rfl, .inl ⟨HN.out, rfl⟩⟩, rfl⟩
end Go.Proofs.YtmbdggbppbkojaaDoor
