/- Plain facts on decimal digits: what a text of digits with a power of ten comes to, in millionths. No walk. -/
import Derived.Test.YtmbdggbppbkojaaDoorFixParse
namespace Go.Proofs.YtmbdggbppbkojaaDoor

def isD (c : UInt8) : Bool := decide (48 ≤ c.toNat ∧ c.toNat ≤ 57)
theorem isD_iff (c : UInt8) : isD c = true ↔ 48 ≤ c.toNat ∧ c.toNat ≤ 57 := by simp [isD]
theorem isDigitB_eq (c : UInt8) : isDigitB (c.toNat : Int) = isD c := by
  unfold isDigitB isD; apply decide_eq_decide.2; omega
/-- What digits come to, behind what came to n. -/
def valF (n : Nat) (l : List UInt8) : Nat := l.foldl (fun n c => 10 * n + (c.toNat - 48)) n
theorem valF_snoc (n : Nat) (l : List UInt8) (c : UInt8) : valF n (l ++ [c]) = 10 * valF n l + (c.toNat - 48) := by unfold valF; rw [List.foldl_append]; rfl
theorem valF_append (n : Nat) (l r : List UInt8) : valF n (l ++ r) = valF (valF n l) r := by unfold valF; rw [List.foldl_append]
theorem valF_cons (n : Nat) (c : UInt8) (l : List UInt8) : valF n (c :: l) = valF (10 * n + (c.toNat - 48)) l := by unfold valF; rw [List.foldl_cons]

def bnd (neg : Bool) : Nat := if neg then 9223372036854775808 else 9223372036854775807
def sgnI (neg : Bool) (v : Nat) : Int := if neg then -(v : Int) else v
/-- 'v times ten to p', with a sign, within 64 bits; an error else. -/
def Ans (neg : Bool) (v : Nat) (p : Int) (r : Int × Int) : Prop :=
  (v = 0 ∧ r = (0, 0)) ∨
  (∃ m k : Nat, v = m * 10 ^ k ∧ m % 10 ≠ 0 ∧
    ((p + k < 0 ∧ r = (0, 4)) ∨ (∃ q : Nat, p + k = q ∧ ((m * 10 ^ q ≤ bnd neg ∧ r = (sgnI neg (m * 10 ^ q), 0)) ∨ (bnd neg < m * 10 ^ q ∧ r = (0, 4))))))

theorem strip_unique : ∀ (k k' m m' : Nat), m % 10 ≠ 0 → m' % 10 ≠ 0 → m * 10 ^ k = m' * 10 ^ k' → m = m' ∧ k = k'
  | 0, 0, m, m', _, _, h => by simpa using h
  | 0, k' + 1, m, m', h1, _, h => by
    exfalso
    apply h1
    rw [Nat.pow_zero, Nat.mul_one, Nat.pow_succ, ← Nat.mul_assoc] at h
    rw [h, Nat.mul_mod_left]
  | k + 1, 0, m, m', _, h2, h => by
    exfalso
    apply h2
    rw [Nat.pow_zero, Nat.mul_one, Nat.pow_succ, ← Nat.mul_assoc] at h
    rw [← h, Nat.mul_mod_left]
  | k + 1, k' + 1, m, m', h1, h2, h => by
    have h' : m * 10 ^ k = m' * 10 ^ k' := by
      rw [Nat.pow_succ, Nat.pow_succ, ← Nat.mul_assoc, ← Nat.mul_assoc] at h
      exact Nat.eq_of_mul_eq_mul_right (by omega) h
    obtain ⟨a, b⟩ := strip_unique k k' m m' h1 h2 h'
    exact ⟨a, by omega⟩
theorem pow10_pos (k : Nat) : 0 < 10 ^ k := Nat.pow_pos (by omega)
theorem strip_ne {m k : Nat} (h : m % 10 ≠ 0) : m * 10 ^ k ≠ 0 := by
  have : 0 < m := by omega
  have := Nat.mul_pos this (pow10_pos k)
  omega
theorem Ans.unique {neg : Bool} {v : Nat} {p : Int} {r r' : Int × Int} (h : Ans neg v p r) (h' : Ans neg v p r') : r = r' := by
  rcases h with ⟨h0, rfl⟩ | ⟨m, k, hv, hm, hh⟩
  · rcases h' with ⟨_, rfl⟩ | ⟨m', k', hv', hm', _⟩
    · rfl
    · exact absurd (hv'.symm.trans h0) (strip_ne hm')
  · rcases h' with ⟨h0, rfl⟩ | ⟨m', k', hv', hm', hh'⟩
    · exact absurd (hv.symm.trans h0) (strip_ne hm)
    · obtain ⟨rfl, rfl⟩ := strip_unique k k' m m' hm hm' (hv.symm.trans hv')
      rcases hh with ⟨a, rfl⟩ | ⟨q, hq, hh⟩ <;> rcases hh' with ⟨a', rfl⟩ | ⟨q', hq', hh'⟩
      · rfl
      · omega
      · omega
      · obtain rfl : q = q' := by omega
        rcases hh with ⟨b, rfl⟩ | ⟨b, rfl⟩ <;> rcases hh' with ⟨b', rfl⟩ | ⟨b', rfl⟩ <;> first | rfl | omega
theorem bnd_lt (neg : Bool) : bnd neg < 10 ^ 19 := by cases neg <;> decide
theorem pow10_mono {a b : Nat} (h : a ≤ b) : 10 ^ a ≤ 10 ^ b := Nat.pow_le_pow_right (by omega) h
/-- Far up and far down it hangs on the power no more. -/
theorem Ans.far_up {neg : Bool} {v : Nat} {p p' : Int} {r : Int × Int} (h : Ans neg v p r) (hp : 19 ≤ p) (hp' : 19 ≤ p') : Ans neg v p' r := by
  rcases h with h0 | ⟨m, k, hv, hm, hh⟩
  · exact .inl h0
  · refine .inr ⟨m, k, hv, hm, ?_⟩
    rcases hh with ⟨a, _⟩ | ⟨q, hq, hh⟩
    · omega
    · have far : ∀ q : Nat, 19 ≤ q → bnd neg < m * 10 ^ q := fun q hq => by
        have h1 := pow10_mono hq
        have h2 := bnd_lt neg
        have h3 : 1 * 10 ^ q ≤ m * 10 ^ q := Nat.mul_le_mul_right _ (by omega)
        omega
      obtain ⟨q', hq'⟩ : ∃ q' : Nat, p' + k = q' := ⟨(p' + k).toNat, by omega⟩
      refine .inr ⟨q', hq', .inr ⟨far q' (by omega), ?_⟩⟩
      rcases hh with ⟨b, _⟩ | ⟨_, rfl⟩
      · have := far q (by omega); omega
      · rfl
theorem Ans.far_down {neg : Bool} {v n : Nat} {p p' : Int} {r : Int × Int} (h : Ans neg v p r) (hv : v < 10 ^ n) (hp : p ≤ -n) (hp' : p' ≤ -n) : Ans neg v p' r := by
  rcases h with h0 | ⟨m, k, hv', hm, hh⟩
  · exact .inl h0
  · have hk : k < n := by
      rcases Nat.lt_or_ge k n with h | h
      · exact h
      · exfalso
        have h1 := pow10_mono h
        have h3 : 1 * 10 ^ k ≤ m * 10 ^ k := Nat.mul_le_mul_right _ (by omega)
        omega
    refine .inr ⟨m, k, hv', hm, .inl ⟨by omega, ?_⟩⟩
    rcases hh with ⟨_, rfl⟩ | ⟨q, hq, _⟩
    · rfl
    · omega

theorem shiftF_spec (k : Nat) : ∀ n, n < 18446744073709551616 → shiftF k n = if n * 10 ^ k < 18446744073709551616 then (n * 10 ^ k, true) else (0, false) := by
  induction k with
  | zero => intro n hn; simp [shiftF, hn]
  | succ k ih =>
    intro n hn
    by_cases h0 : n = 0
    · subst h0; simp [shiftF_zero]
    · have e : n * 10 ^ (k + 1) = n * 10 * 10 ^ k := by rw [Nat.pow_succ, Nat.mul_comm (10 ^ k), Nat.mul_assoc]
      by_cases hb : 0 < n * 10 / 18446744073709551616
      · rw [shiftF_big k n h0 hb, if_neg]
        have h1 : 18446744073709551616 ≤ n * 10 := by omega
        have h2 : n * 10 * 1 ≤ n * 10 * 10 ^ k := Nat.mul_le_mul_left _ (pow10_pos k)
        omega
      · have h1 : n * 10 < 18446744073709551616 := by omega
        rw [shiftF_step k n h0 hb, Nat.mod_eq_of_lt h1, ih _ h1, e]

/-- What the digits so far have become. -/
def DInv (N : Num) (v : Nat) : Prop :=
  (v = 0 ∧ N.digits = 0 ∧ N.wide = false ∧ N.zeros = 0) ∨
  (∃ m k : Nat, v = m * 10 ^ k ∧ m % 10 ≠ 0 ∧ ((N.wide = false ∧ N.digits = m ∧ N.zeros = k ∧ m < 18446744073709551616) ∨ (N.wide = true ∧ 18446744073709551616 ≤ m)))
theorem DInv.zero : DInv num0 0 := .inl ⟨rfl, rfl, rfl, rfl⟩
theorem DInv.keep {N N' : Num} {v : Nat} (h : DInv N v) (h1 : N'.digits = N.digits) (h2 : N'.wide = N.wide) (h3 : N'.zeros = N.zeros) : DInv N' v := by
  unfold DInv at h ⊢; rw [h1, h2, h3]; exact h
theorem DInv.digit {N : Num} {v d : Nat} (h : DInv N v) (hd : d < 10) : DInv (digitF N d) (10 * v + d) := by
  rcases h with ⟨h0, h1, h2, h3⟩ | ⟨m, k, hv, hm, hh⟩
  · subst h0
    by_cases hp : 0 < d
    · refine .inr ⟨d, 0, by simp, by omega, .inl ?_⟩
      have hs : shiftF (N.zeros + 1) N.digits = (0, true) := by rw [h1, shiftF_zero]
      simp only [digitF, if_pos hp, hs, h2]
      simp
      omega
    · obtain rfl : d = 0 := by omega
      exact .inl ⟨rfl, by simp [digitF, h1], by simp [digitF, h1, h2], by simp [digitF, h1, h3]⟩
  · by_cases hp : 0 < d
    · have hv1 : 10 * v + d = (m * 10 ^ (k + 1) + d) * 10 ^ 0 := by rw [hv, Nat.pow_succ]; simp [Nat.mul_comm, Nat.mul_left_comm]
      have hmod : (m * 10 ^ (k + 1) + d) % 10 ≠ 0 := by rw [Nat.pow_succ, ← Nat.mul_assoc]; omega
      refine .inr ⟨m * 10 ^ (k + 1) + d, 0, hv1, hmod, ?_⟩
      rcases hh with ⟨w1, w2, w3, w4⟩ | ⟨w1, w2⟩
      · have hs := shiftF_spec (N.zeros + 1) N.digits (by rw [w2]; exact w4)
        rw [w2, w3] at hs
        by_cases hl : m * 10 ^ (k + 1) < 18446744073709551616
        · rw [if_pos hl] at hs
          by_cases hc : 18446744073709551616 ≤ m * 10 ^ (k + 1) + d
          · right
            simp only [digitF, if_pos hp, w2, w3, hs, w1]
            simp [hc]
          · left
            simp only [digitF, if_pos hp, w2, w3, hs, w1]
            simp only [Bool.not_true, Bool.or_false, Bool.false_or, decide_eq_false hc, true_and]
            exact ⟨Nat.mod_eq_of_lt (by omega), by omega⟩
        · rw [if_neg hl] at hs
          right
          simp only [digitF, if_pos hp, w2, w3, hs, w1]
          simp
          omega
      · right
        refine ⟨by simp [digitF, hp, w1], ?_⟩
        have : m * 1 ≤ m * 10 ^ (k + 1) := Nat.mul_le_mul_left _ (pow10_pos _)
        omega
    · obtain rfl : d = 0 := by omega
      refine .inr ⟨m, k + 1, by rw [hv, Nat.pow_succ]; simp [Nat.mul_comm, Nat.mul_left_comm], hm, ?_⟩
      rcases hh with ⟨w1, w2, w3, w4⟩ | ⟨w1, w2⟩
      · left
        have : 0 < m := by omega
        simp [digitF, this, w1, w2, w3, w4]
      · right
        refine ⟨?_, w2⟩
        unfold digitF
        rw [if_neg (by omega)]
        split <;> exact w1

/-- What 'millionths' answers. -/
theorem mill_ans (N : Num) (v : Nat) (p : Int) (h : DInv N v) (hp : p + N.zeros = upF N ∨ N.wide = true) : Ans N.below v p (millF N) := by
  rcases h with ⟨h0, h1, h2, h3⟩ | ⟨m, k, hv, hm, hh⟩
  · exact .inl ⟨h0, by simp [millF, h1, h2]⟩
  · refine .inr ⟨m, k, hv, hm, ?_⟩
    rcases hh with ⟨w1, w2, w3, w4⟩ | ⟨w1, w2⟩
    · have hup : upF N = p + k := by
        rcases hp with hp | hp
        · rw [← hp, w3]
        · rw [w1] at hp; cases hp
      have hne : ¬ m = 0 := by omega
      have hs := shiftF_spec (p + k).toNat m w4
      simp only [millF, w1, w2, hup, hne, if_false, Bool.false_eq_true]
      by_cases hneg : p + k < 0
      · exact .inl ⟨hneg, by simp [hneg]⟩
      · obtain ⟨q, hq⟩ : ∃ q : Nat, p + k = q := ⟨(p + k).toNat, by omega⟩
        rw [hq, Int.toNat_natCast] at hs
        refine .inr ⟨q, hq, ?_⟩
        rw [if_neg hneg, hq, Int.toNat_natCast, hs]
        by_cases hl : m * 10 ^ q < 18446744073709551616
        · rw [if_pos hl]
          cases hb : N.below with
          | true =>
            by_cases hc : ((m * 10 ^ q : Nat) : Int) > 9223372036854775808
            · right; simp [sgn_neg_big _ hc, bnd]; omega
            · left; simp [sgn_neg_small _ hc, bnd, sgnI]; omega
          | false =>
            by_cases hc : ((m * 10 ^ q : Nat) : Int) > 9223372036854775807
            · right; simp [sgn_pos_big _ hc, bnd]; omega
            · left; simp [sgn_pos_small _ hc, bnd, sgnI]; omega
        · rw [if_neg hl]
          right
          refine ⟨?_, by simp⟩
          have : bnd N.below < 18446744073709551616 := by cases N.below <;> decide
          omega
    · simp only [millF, w1, if_true]
      by_cases hneg : p + k < 0
      · exact .inl ⟨hneg, by simp⟩
      · obtain ⟨q, hq⟩ : ∃ q : Nat, p + k = q := ⟨(p + k).toNat, by omega⟩
        refine .inr ⟨q, hq, .inr ⟨?_, by simp⟩⟩
        have h1 : bnd N.below < 18446744073709551616 := by cases N.below <;> decide
        have h2 : m * 1 ≤ m * 10 ^ q := Nat.mul_le_mul_left _ (pow10_pos _)
        omega
end Go.Proofs.YtmbdggbppbkojaaDoor
