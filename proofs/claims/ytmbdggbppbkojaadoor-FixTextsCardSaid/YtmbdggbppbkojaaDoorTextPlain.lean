/- A number's text is read as it, zeros and an exponent beside: no walk. -/
import Derived.Test.YtmbdggbppbkojaaDoorRefText
import Derived.Test.YtmbdggbppbkojaaDoorRefParse
namespace Go.Proofs.YtmbdggbppbkojaaDoor
open Go.Lib

theorem valF_acc (n : Nat) (l : List UInt8) : valF n l = n * 10 ^ l.length + valF 0 l := by
  induction l generalizing n with
  | nil => simp [valF]
  | cons c l ih =>
    rw [valF_cons, valF_cons, ih, ih (10 * 0 + _), List.length_cons, Nat.pow_succ]
    rw [Nat.mul_zero, Nat.zero_add, Nat.add_mul, ← Nat.add_assoc]
    congr 1
    rw [Nat.mul_comm (10 ^ l.length) 10, ← Nat.mul_assoc, Nat.mul_comm n 10]
theorem dig_nat {x : Nat} (h : x < 10) : (UInt8.ofNat (48 + x)).toNat = 48 + x := UInt8.toNat_ofNat_of_lt' (by show 48 + x < 256; omega)
theorem dig_isD {x : Nat} (h : x < 10) : isD (UInt8.ofNat (48 + x)) = true := by rw [isD_iff, dig_nat h]; omega
theorem val_dec : ∀ (n u : Nat), u ≤ n → valF 0 (decDigits u) = u
  | n, u, h => by
    by_cases hu : u < 10
    · rw [decDigits_one hu, valF_cons, dig_nat hu]; simp [valF]
    · rw [decDigits, dif_neg hu, valF_snoc, dig_nat (Nat.mod_lt _ (by omega))]
      match n with
      | 0 => omega
      | n + 1 => rw [val_dec n (u / 10) (by omega)]; omega
theorem dec_isD : ∀ (n u : Nat), u ≤ n → ∀ c ∈ decDigits u, isD c = true
  | n, u, h, c, hc => by
    by_cases hu : u < 10
    · rw [decDigits_one hu] at hc; simp at hc; subst hc; have := dig_isD hu; simpa using this
    · rw [decDigits, dif_neg hu] at hc
      rcases List.mem_append.1 hc with h1 | h1
      · match n with
        | 0 => omega
        | n + 1 => exact dec_isD n (u / 10) (by omega) c h1
      · rw [List.mem_singleton] at h1; subst h1; exact dig_isD (Nat.mod_lt _ (by omega))
theorem val_low (p : Nat) : ∀ k, valF 0 (lowD p k) = p % 10 ^ k
  | 0 => by simp [lowD, valF, Nat.mod_one]
  | k + 1 => by
    have hl : (lowD p k).length = k := by
      induction k with
      | zero => rfl
      | succ k ih => simp [lowD, ih]
    rw [lowD, valF_cons, valF_acc, val_low p k, hl, dig_nat (Nat.mod_lt _ (by omega)), Nat.pow_succ, Nat.mod_mul]
    rw [show 10 * 0 + (48 + p / 10 ^ k % 10 - 48) = p / 10 ^ k % 10 by omega, Nat.mul_comm]
    omega
theorem low_len (p : Nat) : ∀ k, (lowD p k).length = k
  | 0 => rfl
  | k + 1 => by rw [lowD, List.length_cons, low_len p k]
theorem low_isD (p : Nat) : ∀ k, ∀ c ∈ lowD p k, isD c = true
  | 0, c, hc => by cases hc
  | k + 1, c, hc => by
    rw [lowD] at hc
    rcases List.mem_cons.1 hc with rfl | h
    · exact dig_isD (Nat.mod_lt _ (by omega))
    · exact low_isD p k c h
/-- What was struck are zeros. -/
theorem trimR_back (l : List UInt8) : l = trimRightB l 48 ++ List.replicate (l.length - (trimRightB l 48).length) 48 := by
  induction l with
  | nil => rfl
  | cons d l ih =>
    rw [trimR_cons]
    have hle : (trimRightB l 48).length ≤ l.length := by
      unfold trimRightB
      rw [List.length_reverse]
      have := (List.dropWhile_sublist (l := l.reverse) (· == 48)).length_le
      simpa using this
    by_cases h : trimRightB l 48 = []
    · rw [if_pos h]
      rw [h] at ih
      simp only [List.nil_append, List.length_nil, Nat.sub_zero] at ih
      by_cases hd : d = 48
      · rw [if_pos hd, hd]
        simp only [List.nil_append, List.length_nil, List.length_cons, Nat.sub_zero, List.replicate_succ]
        rw [← ih]
      · rw [if_neg hd]
        simp only [List.length_cons, List.length_nil, Nat.zero_add, Nat.add_sub_cancel]
        rw [List.singleton_append, ← ih]
    · rw [if_neg h]
      simp only [List.length_cons, List.cons_append]
      rw [show l.length + 1 - ((trimRightB l 48).length + 1) = l.length - (trimRightB l 48).length by omega, ← ih]
theorem val_zeros (n k : Nat) : valF n (List.replicate k 48) = n * 10 ^ k := by
  induction k generalizing n with
  | zero => simp [valF]
  | succ k ih =>
    rw [List.replicate_succ, valF_cons, ih, Nat.pow_succ, show (48 : UInt8).toNat - 48 = 0 from rfl, Nat.add_zero, Nat.mul_comm (10 ^ k) 10, ← Nat.mul_assoc, Nat.mul_comm n 10]
theorem zeros_isD (k : Nat) : ∀ c ∈ List.replicate k (48 : UInt8), isD c = true := fun c hc => by
  rw [(List.mem_replicate.1 hc).2]; rfl

/-- 'v times ten to a' is 'm times ten to b': so v comes to m, with the power between. -/
theorem ans_exact {neg : Bool} {v m a b : Nat} (h : v * 10 ^ a = m * 10 ^ b) (hm : m ≤ bnd neg) : Ans neg v ((a : Int) - b) (sgnI neg m, 0) := by
  by_cases hv : v = 0
  · subst hv
    have hm0 : m = 0 := by
      rw [Nat.zero_mul] at h
      rcases Nat.eq_zero_or_pos m with h0 | h0
      · exact h0
      · have := Nat.mul_pos h0 (pow10_pos b); omega
    subst hm0
    exact .inl ⟨rfl, by cases neg <;> rfl⟩
  · have strip : ∀ (x : Nat), x ≠ 0 → ∃ mm k, x = mm * 10 ^ k ∧ mm % 10 ≠ 0 := by
      intro x
      induction x using Nat.strongRecOn with
      | _ x ih =>
        intro hx
        by_cases h10 : x % 10 = 0
        · obtain ⟨mm, k, h1, h2⟩ := ih (x / 10) (by omega) (by omega)
          refine ⟨mm, k + 1, ?_, h2⟩
          rw [Nat.pow_succ, ← Nat.mul_assoc, ← h1]; omega
        · exact ⟨x, 0, by simp, h10⟩
    obtain ⟨mm, k, h1, h2⟩ := strip v hv
    have hm0 : m ≠ 0 := by
      rintro rfl
      rw [Nat.zero_mul] at h
      have := Nat.mul_pos (Nat.pos_of_ne_zero hv) (pow10_pos a)
      omega
    obtain ⟨mm', k', h1', h2'⟩ := strip m hm0
    have h3 : mm * 10 ^ (k + a) = mm' * 10 ^ (k' + b) := by
      rw [Nat.pow_add, Nat.pow_add, ← Nat.mul_assoc, ← Nat.mul_assoc, ← h1, ← h1']; exact h
    obtain ⟨e1, e2⟩ := strip_unique _ _ _ _ h2 h2' h3
    subst e1
    refine .inr ⟨mm, k, h1, h2, .inr ⟨k', by omega, .inl ⟨by rw [← h1']; exact hm, by rw [← h1']⟩⟩⟩

/-- The parts of a text of digits, a point, digits, and what begins with no digit. -/
theorem take_parts {A : List UInt8} (hA : ∀ c ∈ A, isD c = true) {c : UInt8} {t : List UInt8} (hc : isD c = false) : (A ++ c :: t).takeWhile isD = A ∧ (A ++ c :: t).dropWhile isD = c :: t := by
  constructor
  · rw [List.takeWhile_append_of_pos hA]; simp [hc]
  · rw [List.dropWhile_append_of_pos hA]; simp [hc]
theorem take_all {A : List UInt8} (hA : ∀ c ∈ A, isD c = true) : A.takeWhile isD = A ∧ A.dropWhile isD = [] := by
  have h1 := List.takeWhile_append_of_pos (l₂ := []) hA
  have h2 := List.dropWhile_append_of_pos (l₂ := []) hA
  simp only [List.append_nil, List.takeWhile_nil, List.dropWhile_nil] at h1 h2
  exact ⟨h1, h2⟩

/-- Which suffix stands behind: none, or 'E+00'. -/
def tails (b : Bool) : List UInt8 := if b then [69, 43, 48, 48] else []
theorem body_text {neg b : Bool} {A B : List UInt8} (hA : ∀ c ∈ A, isD c = true) (hA0 : A ≠ []) (hB : ∀ c ∈ B, isD c = true) :
    bodyS neg (A ++ 46 :: (B ++ tails b)) = some ⟨neg, A, B, false, if b then [48, 48] else []⟩ := by
  obtain ⟨e1, e2⟩ := take_parts hA (c := 46) (t := B ++ tails b) rfl
  unfold bodyS
  rw [e2]
  simp only [e1]
  rw [if_pos (by rfl)]
  cases b with
  | false =>
    obtain ⟨f1, f2⟩ := take_all hB
    simp only [tails, Bool.false_eq_true, if_false, List.append_nil, f1, f2]
    rw [if_neg (fun h => hA0 h.1)]
    rfl
  | true =>
    obtain ⟨f1, f2⟩ := take_parts hB (c := 69) (t := [43, 48, 48]) rfl
    simp only [tails, if_true, f1, f2]
    rw [if_neg (fun h => hA0 h.1)]
    rfl
theorem body_plain {neg : Bool} {A : List UInt8} (hA : ∀ c ∈ A, isD c = true) (hA0 : A ≠ []) : bodyS neg A = some ⟨neg, A, [], false, []⟩ := by
  obtain ⟨e1, e2⟩ := take_all hA
  unfold bodyS
  rw [e2]
  simp only [e1]
  rw [if_neg hA0]
  rfl

/-- A text that opens with a digit, behind a '-' or not, is no word; and its sign. -/
theorem sign_text {neg : Bool} {c : UInt8} {l : List UInt8} (hc : isD c = true) :
    signOf ((if neg then [45] else []) ++ c :: l) = (neg, c :: l) ∧ isWordB ((if neg then [45] else []) ++ c :: l) = false := by
  have h9 := (isD_iff c).1 hc
  have hw : wordB (c :: l) = false := by
    have hf : ∀ y : UInt8, 97 ≤ y.toNat → Lib.foldEq c y = false := fun y hy => by
      unfold Lib.foldEq; apply decide_eq_false; omega
    unfold wordB
    simp only [nanB, infB, infinityB, Lib.equalFold, hf 110 (by decide), hf 105 (by decide), Bool.false_and, Bool.or_false]
  cases neg with
  | false =>
    constructor
    · show signOf (c :: l) = _
      simp only [signOf]
      rw [if_neg (by omega), if_neg (by omega)]
    · show wordB (unsign (c :: l)) = false
      have : isSignB (c.toNat : Int) = false := by rw [sg]; apply decide_eq_false; omega
      simp only [unsign, this, Bool.false_eq_true, if_false]
      exact hw
  | true =>
    constructor
    · rfl
    · show wordB (unsign (45 :: c :: l)) = false
      have : isSignB (((45 : UInt8).toNat : Nat) : Int) = true := by decide
      simp only [unsign, this, if_true]
      exact hw

/-- THE TEXT'S READING: digits A, digits B behind the point, whose value is m in millionths. -/
theorem parse_text {neg : Bool} {A B L : List UInt8} {m : Nat} {s : Shape} (hs : s = ⟨neg, A, B, false, s.exp⟩) (he : pwF 0 s.exp = 0) (hA : A ≠ [])
    (hsh : shape L = some s) (hw : isWordB L = false) (h6 : valF 0 (A ++ B) * 10 ^ 6 = m * 10 ^ B.length) (hm : m ≤ bnd neg) : parseF L = (sgnI neg m, 0) := by
  have h := parse_meets L hw
  rw [hsh] at h
  have h2 : Ans s.neg (valF 0 (s.ahead ++ s.behind)) (powS s) (parseF L) := h
  have h3 : powS s = ((6 : Nat) : Int) - (B.length : Nat) := by
    rw [hs]; unfold powS; simp [he]
  rw [h3] at h2
  rw [hs] at h2
  exact h2.unique (ans_exact h6 hm)
end Go.Proofs.YtmbdggbppbkojaaDoor
