/- The document's text of a number: the same as the program's. -/
import Derived.Test.YtmbdggbppbkojaaDoorFixText
namespace Go.Proofs.YtmbdggbppbkojaaDoor
open Go.RowKit Go.Lib

/-- The lowest k digits, the highest one first. -/
def lowD (p : Nat) : Nat → List UInt8
  | 0 => []
  | k + 1 => UInt8.ofNat (48 + p / 10 ^ k % 10) :: lowD p k
theorem lowD_snoc (p k : Nat) : lowD p (k + 1) = lowD (p / 10) k ++ [UInt8.ofNat (48 + p % 10)] := by
  induction k with
  | zero => simp [lowD]
  | succ k ih =>
    rw [lowD, ih, lowD, List.cons_append, Nat.div_div_eq_div_mul, Nat.pow_succ, Nat.mul_comm 10]
theorem dec_low : ∀ (n p : Nat), p ≤ n → decDigits p = lowD p (nDigits p)
  | n, p, h => by
    by_cases hp : p < 10
    · rw [decDigits_one hp, nDigits_small hp]
      simp [lowD, Nat.mod_eq_of_lt hp]
    · rw [decDigits, dif_neg hp, nDigits_big hp, lowD_snoc]
      match n with
      | 0 => omega
      | n + 1 => rw [dec_low n (p / 10) (by omega)]
theorem low_pad (p n : Nat) (h : p < 10 ^ n) : ∀ j, lowD p (n + j) = List.replicate j 48 ++ lowD p n
  | 0 => rfl
  | j + 1 => by
    rw [← Nat.add_assoc, lowD, low_pad p n h j, Nat.div_eq_of_lt (Nat.lt_of_lt_of_le h (Nat.pow_le_pow_right (by omega) (by omega)))]
    rfl
theorem pad6_low {p : Nat} (h : p < 1000000) : pad6 p = lowD p 6 := by
  have h6 := nDigits_6 h
  have h1 := low_pad p (nDigits p) (lt_pow_nDigits p) (6 - nDigits p)
  rw [show nDigits p + (6 - nDigits p) = 6 by omega] at h1
  unfold pad6
  rw [h1, decDigits_length, ← dec_low p p (Nat.le_refl _)]
/-- What the document gathers, digit by digit, from the lowest one on. -/
def fracS (p : Nat) : Nat → List UInt8
  | 0 => []
  | i + 1 => if 0 < p / 10 ^ i % 10 ∨ fracS p i ≠ [] then UInt8.ofNat (48 + p / 10 ^ i % 10) :: fracS p i else []
theorem trimR_cons (d : UInt8) (l : List UInt8) : trimRightB (d :: l) 48 = if trimRightB l 48 = [] then (if d = 48 then [] else [d]) else d :: trimRightB l 48 := by
  unfold trimRightB
  rw [List.reverse_cons]
  have key : ∀ r : List UInt8, ((r ++ [d]).dropWhile (· == 48)) = if r.dropWhile (· == 48) = [] then (if d = 48 then [] else [d]) else r.dropWhile (· == 48) ++ [d] := by
    intro r
    induction r with
    | nil => by_cases hd : d = 48 <;> simp [hd]
    | cons c r ih =>
      by_cases hc : c = 48
      · subst hc; simpa using ih
      · simp [hc]
  rw [key]
  by_cases h : l.reverse.dropWhile (· == 48) = []
  · simp only [h, if_true, List.reverse_nil]
    split <;> rfl
  · rw [if_neg h, if_neg (by simpa using h)]
    simp
theorem digit48 {x : Nat} (h : x < 10) : UInt8.ofNat (48 + x) = 48 ↔ x = 0 := by
  constructor
  · intro e
    have := congrArg UInt8.toNat e
    rw [UInt8.toNat_ofNat_of_lt' (by show 48 + x < 256; omega)] at this
    have h2 : (48 : UInt8).toNat = 48 := rfl
    omega
  · rintro rfl; rfl
theorem fracS_trim (p : Nat) : ∀ i, fracS p i = trimRightB (lowD p i) 48
  | 0 => rfl
  | i + 1 => by
    have hd : p / 10 ^ i % 10 < 10 := Nat.mod_lt _ (by omega)
    rw [lowD, trimR_cons, ← fracS_trim p i, fracS]
    by_cases h : fracS p i = []
    · rw [if_pos h, h]
      by_cases h0 : p / 10 ^ i % 10 = 0
      · rw [if_neg (by simp [h0]), if_pos ((digit48 hd).2 h0)]
      · rw [if_pos (.inl (by omega)), if_neg (fun e => h0 ((digit48 hd).1 e))]
    · rw [if_neg h, if_pos (.inr h)]
theorem fracS_nil (p : Nat) : ∀ i, fracS p i = [] ↔ p % 10 ^ i = 0
  | 0 => by simp [fracS, Nat.mod_one]
  | i + 1 => by
    have hm : p % 10 ^ (i + 1) = p % 10 ^ i + 10 ^ i * (p / 10 ^ i % 10) := by rw [Nat.pow_succ, Nat.mod_mul]
    have hp : 0 < 10 ^ i := Nat.pow_pos (by omega)
    rw [hm, fracS]
    by_cases h0 : p / 10 ^ i % 10 = 0
    · rw [h0]
      by_cases h : fracS p i = []
      · have h2 := (fracS_nil p i).1 h
        rw [h2]; simp [h]
      · rw [if_pos (.inr h)]
        have h2 : ¬ p % 10 ^ i = 0 := fun e => h ((fracS_nil p i).2 e)
        simp; omega
    · rw [if_pos (.inl (by omega))]
      have : 10 ^ i * 1 ≤ 10 ^ i * (p / 10 ^ i % 10) := Nat.mul_le_mul_left _ (by omega)
      simp; omega
theorem fracF_eq {p : Nat} (h : p < 1000000) : fracF p = if fracS p 6 = [] then [] else 46 :: fracS p 6 := by
  have h2 := fracS_nil p 6
  rw [Nat.mod_eq_of_lt (show p < 10 ^ 6 by omega)] at h2
  unfold fracF
  by_cases h0 : p = 0
  · rw [if_pos h0, if_pos (h2.2 h0)]
  · rw [if_neg h0, if_neg (fun e => h0 (h2.1 e)), pad6_low h, fracS_trim]
theorem fracS_len (p : Nat) : ∀ i, (fracS p i).length ≤ i
  | 0 => Nat.le_refl _
  | i + 1 => by
    have := fracS_len p i
    rw [fracS]
    split
    · simp; omega
    · simp

/-- The digits of a number above 0. -/
def dd (v : Nat) : List UInt8 := if v = 0 then [] else decDigits v
theorem dd_step {v : Nat} (h : v ≠ 0) : dd v = dd (v / 10) ++ [UInt8.ofNat (48 + v % 10)] := by
  unfold dd
  rw [if_neg h]
  by_cases h10 : v < 10
  · rw [if_pos (by omega), decDigits_one h10, Nat.mod_eq_of_lt h10]; rfl
  · rw [if_neg (by omega), decDigits, dif_neg h10]

theorem one_size (c : UInt8) : (⟨#[c]⟩ : ByteArray).size = 1 := rfl
def noText : Value → Nat
  | .string s => if s.size = 0 then 1 else 0
  | _ => 0
/-- One digit more ahead. -/
theorem dig_step {n k : Nat} {l : List UInt8} (h : (l = [] ∧ k = n) ∨ (l ≠ [] ∧ dd k ++ l = decDigits n)) (hk : k ≠ 0 ∨ l = []) :
    dd (k / 10) ++ (UInt8.ofNat (48 + k % 10) :: l) = decDigits n := by
  rcases h with ⟨rfl, rfl⟩ | ⟨h1, h2⟩
  · by_cases h0 : k = 0
    · subst h0; rw [decDigits_one (by omega)]; rfl
    · have := dd_step h0
      rw [dd, if_neg h0] at this
      exact this.symm
  · have h0 : k ≠ 0 := by
      rcases hk with h | h
      · exact h
      · exact absurd h h1
    rw [← h2, dd_step h0]
    simp
set_option maxHeartbeats 2000000 in
set_option maxRecDepth 100000 in
theorem rdigits10 (n : Nat) (w : World) (h1 : (n : Int) ≤ 9223372036854775807) :
    Calls Tryd.prog 27 #[.int .i64 n] w fun e w' => (∃ D : ByteArray, e = .returned (.string D) ∧ D.data.toList = decDigits n ∧ D.size ≤ 20) ∧ Below w.heap.size w w' := by
  have hcv := fun (W : World) (n : Int) => run_one_byte (P := Tryd.prog) W 48 9 5 n Tryd.underlying48 Tryd.underlying5 Tryd.underlying9
  have h20 := nDigits_le20 n (by omega)
  go_enter Tryd.func27, Tryd.ntmps27
  go_wp2
  go_loopw [3, 4] (fun u v wr => ∃ (k : Nat) (T : ByteArray), u = .int .u64 k ∧ v = .string T ∧ k ≤ n ∧ T.size ≤ 20 ∧ Below w.heap.size w wr ∧ Hid ((T.data.toList = [] ∧ k = n) ∨ (T.data.toList ≠ [] ∧ dd k ++ T.data.toList = decDigits n))) (fun u v _ => 2 * (RowKit.intOf u).toNat + noText v)
  case atStart => exact ⟨n, ⟨#[]⟩, rfl, rfl, Nat.le_refl _, by decide, Below.refl _ _, Lib.hid (.inl ⟨rfl, rfl⟩)⟩
  case round =>
    obtain ⟨k, T, rfl, rfl, hk, hT, hb, HI⟩ := hrel
    by_cases hk0 : k = 0
    · by_cases hTz : T.data.toList = []
      · have HST := Lib.hid (dig_step HI.out (.inr hTz))
        have he : T.toList.isEmpty = true := by rw [Lib.toList_data, hTz]; rfl
        have he2 : T.size = 0 := by rw [Lib.size_eq, hTz]; rfl
        have HTz := Lib.hid hTz
        have hkb : ¬ (k : Int) > 0 := by omega
        have hkb2 : decide ((k : Int) > 0) = false := decide_eq_false hkb
        have hk10 : (k : Int) ≤ 0 := by omega
        have HK0 := Lib.hid hk0
        clear hk0 hTz
        go_wp2
        go_roundw
        case rel => exact ⟨k / 10, _, by go_num, rfl, by omega, by rw [ByteArray.size_append, one_size]; omega, hb.alloc hb.size _, Lib.hid (.inr ⟨by simp, by have := HST.out; rw [HK0.out, HTz.out] at this; rw [HK0.out]; simpa [HTz.out] using this⟩)⟩
        case measure => simp only [RowKit.intOf, noText, ByteArray.size_append, one_size, he2, if_true]; rw [if_neg (by omega)]; omega
      · have HE := Lib.hid (show T.data.toList = decDigits n by
          rcases HI.out with ⟨h, _⟩ | ⟨_, h⟩
          · exact absurd h hTz
          · rw [← h, hk0]; rfl)
        have he : T.toList.isEmpty = false := by
          rw [Lib.toList_data]
          cases hl : T.data.toList with
          | nil => exact absurd hl hTz
          | cons a b => rfl
        have hk10 : (k : Int) ≤ 0 := by omega
        have hn0 : ¬ (n : Int) < 0 := by omega
        clear hk0 hTz
        go_wp2
        go_ret
        exact ⟨⟨T, rfl, HE.out, hT⟩, hb⟩
    · have HST := Lib.hid (dig_step HI.out (.inl hk0))
      have hkp : (k : Int) > 0 := by omega
      have hsz : T.size + 1 ≤ 20 := by
        have h1 := congrArg List.length HST.out
        rw [decDigits_length, List.length_append, List.length_cons, ← Lib.size_eq] at h1
        omega
      clear hk0
      go_wp2
      go_roundw
      case rel => exact ⟨k / 10, _, by go_num, rfl, by omega, by rw [ByteArray.size_append, one_size]; omega, hb.alloc hb.size _, Lib.hid (.inr ⟨by simp, by have := HST.out; simpa using this⟩)⟩
      case measure => simp only [RowKit.intOf, noText, ByteArray.size_append, one_size]; split <;> split <;> omega

set_option maxHeartbeats 4000000 in
set_option maxRecDepth 100000 in
theorem rtext_any (n : Int) (w : World) (h0 : -9223372036854775808 ≤ n) (h1 : n ≤ 9223372036854775807) :
    Calls Tryd.prog 10 #[.int .i64 n] w (TextPost n w) := by
  have hcv := fun (W : World) (n : Int) => run_one_byte (P := Tryd.prog) W 48 9 5 n Tryd.underlying48 Tryd.underlying5 Tryd.underlying9
  have HCV := Lib.hid hcv
  clear hcv
  obtain ⟨m, hm⟩ : ∃ m, n.natAbs = m := ⟨_, rfl⟩
  have HM := Lib.hid hm
  have hm64 : m ≤ 9223372036854775808 := by omega
  have HN := Lib.hid (show n < 0 → IntKind.u64.wrap (-IntKind.u64.wrap n) = (m : Int) from fun hn => by rw [← hm]; exact size_neg_eq n h0 hn)
  have HN2 := Lib.hid (show ¬ n < 0 → IntKind.u64.wrap n = (m : Int) from fun hn => by simp only [IntKind.wrap_u64]; omega)
  have HDG := Lib.hid (show ∀ w, Calls Tryd.prog 27 #[.int .i64 ((m : Int) / 1000000)] w fun e w' => (∃ D : ByteArray, e = .returned (.string D) ∧ D.data.toList = decDigits (m / 1000000) ∧ D.size ≤ 20) ∧ Below w.heap.size w w' from fun w => by
    have := rdigits10 (m / 1000000) w (by omega)
    rw [show ((m / 1000000 : Nat) : Int) = (m : Int) / 1000000 by omega] at this
    exact this)
  clear hm
  go_enter Tryd.func10, Tryd.ntmps10
  go_upto_if 11 with (fail)
  go_cut [3, 4] (fun u v wx => w = wx ∧ u = .int .u64 m ∧ ∃ S : ByteArray, v = .string S ∧ S.size ≤ 1 ∧ Hid (S.data.toList = if n < 0 then [45] else []))
  case first =>
    by_cases hn : n < 0
    · have hnn := HN.out hn
      go_wp2
      go_meet
      case rel => exact ⟨rfl, rfl, ⟨#[45]⟩, rfl, by decide, Lib.hid (by rw [if_pos (by omega)])⟩
    · have hnn := HN2.out hn
      go_wp2
      go_meet
      case rel => exact ⟨rfl, by first | rfl | (rw [← hnn]; rfl) | exact congrArg (Value.int .u64) (by simp only [IntKind.wrap_u64] at hnn; omega), ⟨#[]⟩, rfl, by decide, Lib.hid (by rw [if_neg (by omega)])⟩
  case rest =>
    obtain ⟨rfl, rfl, S, rfl, hS, HS⟩ := hcut
    have hcv := HCV.out
    go_wp2_with fail
    obtain ⟨p, hp⟩ : ∃ p, m % 1000000 = p := ⟨_, rfl⟩
    have hp6 : p < 1000000 := by omega
    have HP := Lib.hid hp
    have hpi : (m : Int) % 1000000 = (p : Int) := by omega
    rw [hpi]
    clear hpi hp
    go_loopw [5, 6, 7] (fun u v j wr => ∃ (i : Nat) (T : ByteArray), j = .int .i64 i ∧ i ≤ 6 ∧ u = .int .u64 ((p / 10 ^ i : Nat) : Int) ∧ v = .string T ∧ T.size ≤ 6 ∧ Below w.heap.size w wr ∧ Hid (T.data.toList = fracS p i)) (fun _ _ j _ => 6 - (RowKit.intOf j).toNat)
    case atStart => exact ⟨0, ⟨#[]⟩, rfl, by omega, by simp, rfl, by decide, Below.refl _ _, Lib.hid rfl⟩
    case round =>
      obtain ⟨i, T, rfl, hi, rfl, rfl, hT, hb, HT⟩ := hrel
      have hnext : p / 10 ^ (i + 1) = p / 10 ^ i / 10 := by rw [Nat.pow_succ, Nat.div_div_eq_div_mul]
      have hfs : fracS p (i + 1) = if 0 < p / 10 ^ i % 10 ∨ fracS p i ≠ [] then UInt8.ofNat (48 + p / 10 ^ i % 10) :: fracS p i else [] := rfl
      have hfl := fracS_len p (i + 1)
      by_cases hlt : i < 6
      · obtain ⟨q, hq⟩ : ∃ q, p / 10 ^ i = q := ⟨_, rfl⟩
        rw [hq] at hnext hfs ⊢
        have hqb : q < 1000000 := by rw [← hq]; exact Nat.lt_of_le_of_lt (Nat.div_le_self _ _) hp6
        have HNX := Lib.hid hnext
        rw [← HT.out] at hfs
        clear hnext hq
        by_cases hd : 0 < q % 10
        · have hd' : (q : Int) % 10 > 0 := by omega
          have HFS := Lib.hid (show fracS p (i + 1) = UInt8.ofNat (48 + q % 10) :: T.data.toList by rw [hfs, if_pos (.inl hd)])
          have hsz : T.size + 1 ≤ 6 := by rw [HFS.out, List.length_cons, ← Lib.size_eq] at hfl; omega
          clear hfs hd hfl
          go_wp2
          go_roundw
          case rel => exact ⟨i + 1, _, by go_num, by omega, by rw [HNX.out]; go_num, rfl, by rw [ByteArray.size_append, one_size]; omega, hb.alloc hb.size _, Lib.hid (by rw [HFS.out]; simp)⟩
          case measure => simp [RowKit.intOf]; omega
        · have hd' : ¬ (q : Int) % 10 > 0 := by omega
          by_cases hTz : T.data.toList = []
          · have he : T.toList.isEmpty = true := by rw [Lib.toList_data, hTz]; rfl
            have HFS := Lib.hid (show fracS p (i + 1) = T.data.toList by rw [hfs, if_neg (by rintro (h | h); exact hd h; exact h hTz), hTz])
            clear hfs hd hfl hTz
            go_wp2
            go_roundw
            case rel => exact ⟨i + 1, T, by go_num, by omega, by rw [HNX.out]; go_num, rfl, hT, hb, Lib.hid HFS.out.symm⟩
            case measure => simp [RowKit.intOf]; omega
          · have he : T.toList.isEmpty = false := by
              rw [Lib.toList_data]
              cases hl : T.data.toList with
              | nil => exact absurd hl hTz
              | cons a b => rfl
            have HFS := Lib.hid (show fracS p (i + 1) = UInt8.ofNat (48 + q % 10) :: T.data.toList by rw [hfs, if_pos (.inr hTz)])
            have hsz : T.size + 1 ≤ 6 := by rw [HFS.out, List.length_cons, ← Lib.size_eq] at hfl; omega
            clear hfs hd hfl hTz
            go_wp2
            go_roundw
            case rel => exact ⟨i + 1, _, by go_num, by omega, by rw [HNX.out]; go_num, rfl, by rw [ByteArray.size_append, one_size]; omega, hb.alloc hb.size _, Lib.hid (by rw [HFS.out]; simp)⟩
            case measure => simp [RowKit.intOf]; omega
      · have HTE := Lib.hid (show T.data.toList = fracS p 6 by rw [HT.out, show i = 6 by omega])
        clear hnext hfs hfl
        have HTX := Lib.hid (show textF n = (S.data.toList ++ decDigits (m / 1000000)) ++ (if T.data.toList = [] then [] else 46 :: T.data.toList) by
          unfold textF
          rw [HM.out, HP.out, fracF_eq hp6, HTE.out, HS.out])
        by_cases hTz : T.data.toList = []
        · have he : T.toList.isEmpty = true := by rw [Lib.toList_data, hTz]; rfl
          have HTZ := Lib.hid hTz
          clear hTz
          go_wp2_with fail
          refine (Hid.out HDG _).mono ?_
          rintro e w2 ⟨⟨D, rfl, hD, hDs⟩, hb2⟩
          have HTT := Lib.hid (show (S ++ D ++ T : ByteArray) = textB n by
            refine ba_eq ?_
            rw [HTX.out, if_pos HTZ.out]
            simp [hD, HTZ.out])
          have HB2 := Lib.hid (hb.trans (hb2.mono hb.size))
          clear hD hb2
          go_wp2_with fail
          go_ret
          exact ⟨by rw [← HTT.out]; rfl, HB2.out⟩
        · have he : T.toList.isEmpty = false := by
            rw [Lib.toList_data]
            cases hl : T.data.toList with
            | nil => exact absurd hl hTz
            | cons a b => rfl
          have HTZ := Lib.hid hTz
          clear hTz
          go_wp2_with fail
          refine (Hid.out HDG _).mono ?_
          rintro e w2 ⟨⟨D, rfl, hD, hDs⟩, hb2⟩
          have HTT := Lib.hid (show (S ++ D ++ (⟨#[46]⟩ ++ T) : ByteArray) = textB n by
            refine ba_eq ?_
            rw [HTX.out, if_neg HTZ.out]
            simp [hD])
          have HB2 := Lib.hid (hb.trans (hb2.mono hb.size))
          clear hD hb2
          go_wp2_with fail
          go_ret
          exact ⟨by rw [← HTT.out]; rfl, HB2.out⟩
end Go.Proofs.YtmbdggbppbkojaaDoor
